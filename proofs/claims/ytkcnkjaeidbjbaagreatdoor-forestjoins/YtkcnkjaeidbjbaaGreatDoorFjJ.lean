/- forest.Join of two forests: its walk. -/
import Derived.Test.YtkcnkjaeidbjbaaGreatDoorFjC
import Derived.Test.YtkcnkjaeidbjbaaGreatDoorZs
import Derived.Deep.AppendLies
import Derived.Deep.QuietTactic
import Derived.BigQuiet
namespace Go.Proofs.YtkcnkjaeidbjbaaGreatDoor
open Go.RowKit Go.ChangeMaps

def lnV : Value → Nat
  | .slice _ n _ => n
  | _ => 0
/-- A row without its first type. -/
theorem row_tailT {W : World} {b off cap c' : Nat} {x : LT} {A : List LT} {X : Option Addr} (h : IsRow W 8 (.slice (some ⟨b, off, none⟩) (x :: A).length cap) (x :: A).length (tCells (x :: A))) (hX : cap ≠ 1 → X = some ⟨b, off + 8, none⟩) (hc : c' = cap - 1) : IsRow W 8 (.slice X A.length c') A.length (tCells A) := by
  subst hc
  have e : tCells (x :: A) = enT x ++ tCells A := by simp [tCells]
  refine ⟨tCells_len A, ?_⟩
  by_cases h0 : A.length = 0
  · exact .inl ⟨h0, X, cap - 1, by rw [h0]⟩
  · rcases h.2 with ⟨h1, -⟩ | ⟨b', off', cap', hv, hlt, q1, q2, hc⟩
    · simp at h1
    · simp only [Value.slice.injEq, Option.some.injEq, Addr.mk.injEq] at hv
      obtain ⟨⟨rfl, rfl, -⟩, -, rfl⟩ := hv
      simp only [List.length_cons] at q1
      rw [hX (by omega)]
      refine .inr ⟨b, off + 8, cap - 1, rfl, hlt, by omega, by omega, fun j u hu => ?_⟩
      have := hc (8 + j) u (by rw [e, List.getElem?_append_right (by show 8 ≤ _; omega)]; show (tCells A)[8 + j - 8]? = _; rw [Nat.add_sub_cancel_left]; exact hu)
      rwa [← Nat.add_assoc] at this
/-- A type's cells in a row. -/
def BxO (b o : Nat) (x : LT) (w : World) : Prop := (w.cell? ⟨b, o, none⟩ = some (.string x.t.n) ∧ w.cell? ⟨b, o + 1, none⟩ = some (.string x.t.p) ∧ w.cell? ⟨b, o + 2, none⟩ = some x.vo ∧ w.cell? ⟨b, o + 3, none⟩ = some x.va) ∧ w.cell? ⟨b, o + 4, none⟩ = some x.vc ∧ w.cell? ⟨b, o + 5, none⟩ = some (.int .i64 x.t.nd) ∧ w.cell? ⟨b, o + 6, none⟩ = some (.int .i64 x.t.lf) ∧ w.cell? ⟨b, o + 7, none⟩ = some (.int .i64 x.t.sq)
def joR (a b : List Ty) : List Ty × Int := if isB (jnT a b) = true then (jnT a b, 0) else ([], 9)
/-- What is joined so far, and what is left. -/
def JnI (A B : List LT) (w : World) (va vb vo : Value) (wr : World) : Prop := ∃ A' B' P : List LT, Hid (∀ W, Below w.heap.size w W → IsRow W 8 va A'.length (tCells A') ∧ IsRow W 8 vb B'.length (tCells B')) ∧ Hid (wr.ownsRow w.heap.size 30 8 vo P.length (tCells P)) ∧ Hid (P ++ jnL A' B' = jnL A B ∧ (∀ x ∈ A', x ∈ A) ∧ ∀ y ∈ B', y ∈ B) ∧ Hid (P.length + A'.length + B'.length ≤ A.length + B.length) ∧ Hid (Below w.heap.size w wr)
theorem own_one {w : World} {base : Nat} {e : TypeId} {v : Value} {P : List LT} {x : LT} (h : w.ownsRow base e 8 v (P.length + 1) (tCells P ++ enT x)) : w.ownsRow base e 8 v (P ++ [x]).length (tCells (P ++ [x])) := by
  have e1 : tCells (P ++ [x]) = tCells P ++ enT x := by rw [tCells_app]; congr 1
  have e2 : (P ++ [x]).length = P.length + 1 := by simp
  rw [e1, e2]
  exact h
theorem AdP.mk {L : List LT} {w W1 w' : World} {e : Ending} (hb : Below w.heap.size w W1) (hl : L.length ≤ 1000) (h : AcP L W1 e w') {r : List Ty × Int} (hr : r = (tys L, 0)) : ∃ v, e = .returned v ∧ AdP r w (.returned (.tuple #[v, .int .i64 0])) w' := by
  obtain ⟨M, rfl, h2, h3, h4, h5, h6⟩ := h
  refine ⟨_, rfl, ?_⟩
  subst hr
  refine ⟨some ⟨W1.heap.size, 0, none⟩, L.length, M, by rw [h3], h2, ⟨?_, fun y hy => (h5 y hy).1⟩, hb.trans (h6.mono hb.size)⟩
  rw [h3]
  have := row_of_heap (n := L.length) (cap := L.length) (sz := 8) (xs := tCells M) h4 (by rw [tCells_len, h3]) (by simp) (Nat.le_refl _) (by unfold maxLen; omega)
  exact this
set_option maxRecDepth 100000 in
set_option maxHeartbeats 8000000 in
theorem join_any (v u : Value) (A B : List LT) (w : World) (hA : IsTys w v A) (hB : IsTys w u B) (hla : A.length ≤ 100) (hlb : B.length ≤ 100) (hna : NmL A) (hnb : NmL B) (hma : SmL A) (hmb : SmL B) (hia : isB (tys A) = true) (hib : isB (tys B) = true) (hW : W3 w) :
    Calls Tryz.prog 23 #[v, u] w fun e w' => AdP (joR (tys A) (tys B)) w e w' := by
  obtain ⟨a0, cap0, rfl⟩ := hA.1.form
  obtain ⟨a1, cap1, rfl⟩ := hB.1.form
  obtain ⟨i0, hi0, hz0, hz1, hz2⟩ := info_parts info_ty
  have HWW : Hid (∀ W, Below w.heap.size w W → W3 W) := fun W h => hW.below h
  have HIa : Hid (∀ W, Below w.heap.size w W → Calls Tryz.prog 31 #[.slice a0 A.length cap0] W fun e w' => e = .returned (.bool true) ∧ Below W.heap.size W w') := fun W h => by
    have := is_any _ A W (hA.below h) (by omega) hna (hW.below h)
    rw [hia] at this
    exact this
  have HIb : Hid (∀ W, Below w.heap.size w W → Calls Tryz.prog 31 #[.slice a1 B.length cap1] W fun e w' => e = .returned (.bool true) ∧ Below W.heap.size W w') := fun W h => by
    have := is_any _ B W (hB.below h) (by omega) hnb (hW.below h)
    rw [hib] at this
    exact this
  have HTy : Hid (∀ z, z ∈ A ∨ z ∈ B → NmT z.t ∧ SmT z.t ∧ ∀ W, Below w.heap.size w W → IsTy W z.t z.vo z.va z.vc) := fun z hz => by
    rcases hz with hz | hz
    · exact ⟨hna z hz, hma z hz, fun W h => (hA.2 z hz).below h⟩
    · exact ⟨hnb z hz, hmb z hz, fun W h => (hB.2 z hz).below h⟩
  have HSt : Hid (∀ W, Below w.heap.size w W → IsRow W 8 (.slice a0 A.length cap0) A.length (tCells A) ∧ IsRow W 8 (.slice a1 B.length cap1) B.length (tCells B)) := fun W h => ⟨hA.1.below h, hB.1.below h⟩
  have HMk : Hid (∀ W, Below w.heap.size w W → ∃ wm, (Instr.makeSlice 22 (.int .i64 0) (.int .i64 ((A.length : Int) + (B.length : Int)))).run Tryz.prog W = .ok (.slice (some ⟨W.heap.size, 0, none⟩) 0 (A.length + B.length)) wm ∧ wm.ownsRow w.heap.size 30 8 (.slice (some ⟨W.heap.size, 0, none⟩) 0 (A.length + B.length)) 0 [] ∧ Below w.heap.size w wm) := fun W h => by
    have hrun := run_make (P := Tryz.prog) W 22 30 i0 _ Tryz.underlying22 hi0 hz0 .i64 .i64 0 ((A.length : Int) + (B.length : Int)) (Int.le_refl _) (by omega) (by rw [hz2]; omega) (by omega)
    rw [hz1] at hrun
    have e1 : ((A.length : Int) + (B.length : Int)).toNat = A.length + B.length := by omega
    rw [e1] at hrun
    refine ⟨_, hrun, ⟨rfl, .inr ⟨W.heap.size, A.length + B.length, _, rfl, h.size, new_at W _, Nat.zero_le _, by unfold maxLen; omega, size_madeCells _ _, rfl⟩⟩, h.trans ((al_b W _).mono h.size)⟩
  have HLen : Hid (A.length ≤ 100 ∧ B.length ≤ 100) := ⟨hla, hlb⟩
  have HRd : Hid (joR (tys A) (tys B) = if isB (tys (jnL A B)) = true then (tys (jnL A B), 0) else ([], 9)) := by
    show joR _ _ = _
    rw [jn_tys]; rfl
  have HW0 : Hid (Below w.heap.size w w) := Below.refl _ _
  have wz : IntKind.i64.wrap ((A.length : Int) + (B.length : Int)) = (A.length : Int) + (B.length : Int) := by
    rw [IntKind.wrap_i64]; omega
  clear hA hB hna hnb hma hmb hia hib hW
  generalize joR (tys A) (tys B) = R at *
  go_enter Tryz.func23, Tryz.ntmps23
  go_wp2_with fail
  refine (HIa.out _ HW0.out).mono ?_
  rintro e w1 ⟨rfl, hb⟩
  have Hw1 : Hid (Below w.heap.size w w1) := hb
  clear hb
  go_wp2_with fail
  refine (HIb.out _ Hw1.out).mono ?_
  rintro e w2 ⟨rfl, hb⟩
  have Hw2 : Hid (Below w.heap.size w w2) := Hw1.out.trans (hb.mono Hw1.out.size)
  clear hb HIa HIb Hw1
  obtain ⟨wm, hmk, hom, hbm⟩ := HMk.out w2 Hw2.out
  have HO0 : Hid (wm.ownsRow w.heap.size 30 8 (.slice (some ⟨w2.heap.size, 0, none⟩) 0 (A.length + B.length)) 0 []) := hom
  have HB0 : Hid (Below w.heap.size w wm) := hbm
  clear hom hbm HMk
  go_wp2_with fail
  clear hmk wz
  go_loopw [0, 1, 6, 7, 53, 64] (fun va vb vo _ _ _ wr => JnI A B w va vb vo wr) (fun va vb _ _ _ _ _ => lnV va + lnV vb)
  case atStart => exact ⟨A, B, [], HSt, HO0, ⟨rfl, fun _ h => h, fun _ h => h⟩, (by show _ ≤ _; simp), HB0⟩
  case round =>
    clear HO0 HB0 HSt Hw2
    obtain ⟨A', B', P, HRw, HO, HJ, HLn, HB⟩ := hrel
    have hl1 := HLen.out.1
    have hl2 := HLen.out.2
    have hl3 := HLn.out
    have hsz := HB.out.size
    obtain ⟨ra, rb⟩ := HRw.out wr HB.out
    obtain ⟨xa, ya, rfl⟩ := ra.form
    obtain ⟨xb, yb, rfl⟩ := rb.form
    by_cases hA0 : A'.length = 0 ∨ B'.length = 0
    · have hcat : jnL A' B' = A' ++ B' := by
        rcases hA0 with h | h
        · obtain rfl := List.eq_nil_of_length_eq_zero h
          simp [jnL]
        · obtain rfl := List.eq_nil_of_length_eq_zero h
          rw [jnL_nil, List.append_nil]
      have hAll : P ++ A' ++ B' = jnL A B := by rw [← HJ.out.1, hcat, List.append_assoc]
      obtain ⟨xo, yo, rfl⟩ := (IsRow.own HO.out).form
      obtain ⟨Wc, hWc⟩ : ∃ Wc, Wc = wr.alloc (.cells #[.slice xo P.length yo, .slice xa A'.length ya, .slice xb B'.length yb] 22) := ⟨_, rfl⟩
      have hbc : Below wr.heap.size wr Wc := by rw [hWc]; exact al_b wr _
      have hnc : Wc.heap[wr.heap.size]? = some (.cells #[.slice xo P.length yo, .slice xa A'.length ya, .slice xb B'.length yb] 22 (0, 0)) := by rw [hWc]; exact new_at wr _
      have hBc : Below w.heap.size w Wc := HB.out.trans (hbc.mono hsz)
      have HCc : Hid (Calls Tryz.prog 63 #[.slice (some ⟨wr.heap.size, 0, none⟩) 3 3] Wc fun e w' => ClT (P ++ A' ++ B') Wc e w') := concatT_any wr.heap.size _ _ _ P A' B' Wc ((IsRow.own HO.out).below hbc) (HRw.out Wc hBc).1 (HRw.out Wc hBc).2 (by rw [Lib.cell_of_heap hnc]; rfl) (by rw [Lib.cell_of_heap hnc]; rfl) (by rw [Lib.cell_of_heap hnc]; rfl) (by omega) (by omega) (by omega)
      have HBc : Hid (Below w.heap.size w Wc) := hBc
      have hlJ : (jnL A B).length ≤ 200 := by have := jn_len A B; omega
      have HIs : Hid (∀ (q : Value) W, Below w.heap.size w W → IsRow W 8 q (jnL A B).length (tCells (jnL A B)) → (Calls Tryz.prog 31 #[q] W fun e w' => e = .returned (.bool (isB (tys (jnL A B)))) ∧ Below W.heap.size W w') ∧ IsTys W q (jnL A B)) := fun q W h hr => by
        have hT : IsTys W q (jnL A B) := ⟨hr, fun z hz => (HTy.out z (jn_mem A B z hz)).2.2 W h⟩
        exact ⟨is_any q (jnL A B) W hT (by omega) (fun z hz => (HTy.out z (jn_mem A B z hz)).1) (HWW.out W h), hT⟩
      have HCp : Hid (∀ (q : Value) W, Below w.heap.size w W → IsTys W q (jnL A B) → Calls Tryz.prog 57 #[q] W fun e w' => AcP (jnL A B) W e w') := fun q W h hT => allCopied_any q (jnL A B) W hT (by omega) fun z hz => (HTy.out z (jn_mem A B z hz)).2.1
      have HlJ : Hid ((jnL A B).length ≤ 1000) := by show _ ≤ _; omega
      rw [hAll] at HCc
      have hLeft : (decide (0 < A'.length) = false ∧ decide ((0 : Int) < (A'.length : Int)) = false) ∨ ((decide (0 < A'.length) = true ∧ decide ((0 : Int) < (A'.length : Int)) = true) ∧ decide (0 < B'.length) = false ∧ decide ((0 : Int) < (B'.length : Int)) = false) := by
        rcases hA0 with h | h
        · left; exact ⟨decide_eq_false (by omega), decide_eq_false (by omega)⟩
        · by_cases h' : A'.length = 0
          · left; exact ⟨decide_eq_false (by omega), decide_eq_false (by omega)⟩
          · right; exact ⟨⟨decide_eq_true (by omega), decide_eq_true (by omega)⟩, decide_eq_false (by omega), decide_eq_false (by omega)⟩
      clear hcat hAll hnc hbc hBc HJ HLn HRw HO ra rb HTy HWW HLen hA0
      generalize jnL A B = J at *
      rcases hLeft with ⟨dA, dA'⟩ | ⟨⟨dA, dA'⟩, dB, dB'⟩
      all_goals (
        go_wp2_with fail
        rw [← hWc]
        clear hWc
        refine HCc.out.mono ?_
        rintro e w4 ⟨v4, rfl, ho4, hb4⟩
        have HB4 : Hid (Below w.heap.size w w4) := HBc.out.trans (hb4.mono HBc.out.size)
        have HR4 : Hid (∀ W, Below w4.heap.size w4 W → IsRow W 8 v4 J.length (tCells J)) := fun W h => (IsRow.own ho4).below h
        have HI4 : Hid (Calls Tryz.prog 31 #[v4] w4 fun e w' => e = .returned (.bool (isB (tys J))) ∧ Below w4.heap.size w4 w') := (HIs.out v4 w4 HB4.out (IsRow.own ho4)).1
        clear ho4 hb4 HCc HBc
        go_wp2_with fail
        refine HI4.out.mono ?_
        rintro e w5 ⟨rfl, hb5⟩
        have HB5 : Hid (Below w.heap.size w w5) := HB4.out.trans (hb5.mono HB4.out.size)
        have HT5 : Hid (IsTys w5 v4 J) := (HIs.out v4 w5 HB5.out (HR4.out w5 hb5)).2
        clear hb5 HI4 HR4 HIs
        cases hj : isB (tys J)
        · have hR : R = ([], 9) := by rw [HRd.out, hj]; rfl
          subst hR
          have HE : Hid (AdP ([], 9) w (.returned (.tuple #[.slice none 0 0, .int .i64 9])) w5) := AdP.err 9 HB5.out
          clear HRd hj HT5 HCp
          go_wp2
          go_ret2
          exact HE.out
        · have hR : R = (tys J, 0) := by rw [HRd.out, hj]; rfl
          have HCp5 : Hid (Calls Tryz.prog 57 #[v4] w5 fun e w' => ∃ v, e = .returned v ∧ AdP R w (.returned (.tuple #[v, .int .i64 0])) w') := (HCp.out v4 w5 HB5.out HT5.out).mono fun e w' h => AdP.mk HB5.out HlJ.out h hR
          clear HRd hj HT5 HCp hR
          go_wp2_with fail
          refine HCp5.out.mono ?_
          rintro e w6 ⟨v6, rfl, hE⟩
          have HE : Hid (AdP R w (.returned (.tuple #[v6, .int .i64 0])) w6) := hE
          clear hE HCp5
          go_wp2
          go_ret2
          exact HE.out)
    · obtain ⟨x, A2, rfl⟩ : ∃ x A2, A' = x :: A2 := by
        cases A' with
        | nil => simp at hA0
        | cons x A2 => exact ⟨x, A2, rfl⟩
      obtain ⟨y, B2, rfl⟩ : ∃ y B2, B' = y :: B2 := by
        cases B' with
        | nil => simp at hA0
        | cons y B2 => exact ⟨y, B2, rfl⟩
      clear hA0
      obtain ⟨ba, oa, rfl, hlta, -, hcapa, hca⟩ := t_at ra (by simp)
      obtain ⟨bb, ob, rfl, hltb, -, hcapb, hcb⟩ := t_at rb (by simp)
      have HXc : Hid (∀ W, Below w.heap.size w W → BxO ba oa x W ∧ BxO bb ob y W) := fun W h => by
        obtain ⟨q1, q2⟩ := HRw.out W h
        obtain ⟨b', o', e, -, -, -, hc⟩ := t_at q1 (by simp)
        simp only [Option.some.injEq, Addr.mk.injEq, and_true] at e
        obtain ⟨rfl, rfl⟩ := e
        obtain ⟨b', o', e, -, -, -, hc'⟩ := t_at q2 (by simp)
        simp only [Option.some.injEq, Addr.mk.injEq, and_true] at e
        obtain ⟨rfl, rfl⟩ := e
        have h1 := hc 0 (by simp)
        have h2 := hc' 0 (by simp)
        simp only [Nat.zero_mul, Nat.add_zero, List.getElem_cons_zero] at h1 h2
        exact ⟨h1, h2⟩
      have mx := HTy.out x (.inl (HJ.out.2.1 x (by simp)))
      have my := HTy.out y (.inr (HJ.out.2.2 y (by simp)))
      have HCm : Hid (∀ W, Below w.heap.size w W → Calls Tryz.prog 61 #[.string x.t.n, .string y.t.n] W fun e w' => e = .returned (.int .i64 (nmC x.t y.t.n)) ∧ Below W.heap.size W w') := fun W h => compare_any _ _ W mx.1.n my.1.n (HWW.out W h).t
      have HEa : Hid (∀ W, Calls Tryz.prog 62 #[ltV x, ltV y] W fun e w' => e = .returned (ltV (earl x y)) ∧ Below W.heap.size W w') := fun W => earlier_any x y W
      have HTa : Hid (∀ (X : Option Addr) (c' : Nat), (ya ≠ 1 → X = some ⟨ba, oa + 8, none⟩) → c' = ya - 1 → ∀ W, Below w.heap.size w W → IsRow W 8 (.slice X A2.length c') A2.length (tCells A2)) := fun X c' h1 h2 W h => row_tailT (HRw.out W h).1 h1 h2
      have HTb : Hid (∀ (X : Option Addr) (c' : Nat), (yb ≠ 1 → X = some ⟨bb, ob + 8, none⟩) → c' = yb - 1 → ∀ W, Below w.heap.size w W → IsRow W 8 (.slice X B2.length c') B2.length (tCells B2)) := fun X c' h1 h2 W h => row_tailT (HRw.out W h).2 h1 h2
      have HRa : Hid (∀ W, Below w.heap.size w W → IsRow W 8 (.slice (some ⟨ba, oa, none⟩) (x :: A2).length ya) (x :: A2).length (tCells (x :: A2))) := fun W h => (HRw.out W h).1
      have HRb : Hid (∀ W, Below w.heap.size w W → IsRow W 8 (.slice (some ⟨bb, ob, none⟩) (y :: B2).length yb) (y :: B2).length (tCells (y :: B2))) := fun W h => (HRw.out W h).2
      have HOl : Hid (∀ b, u6.ownBlock = some b → w.heap.size ≤ b) := fun b hb => (HO.out.lt b hb).1
      have HJ1 : Hid (nmC x.t y.t.n < 0 → (P ++ [x]) ++ jnL A2 (y :: B2) = jnL A B) := fun h => by rw [← HJ.out.1, jnL, if_pos h]; simp
      have HJ2 : Hid (¬ nmC x.t y.t.n < 0 → 0 < nmC x.t y.t.n → (P ++ [y]) ++ jnL (x :: A2) B2 = jnL A B) := fun h h' => by rw [← HJ.out.1, jnL, if_neg h, if_pos h']; simp
      have HJ3 : Hid (¬ nmC x.t y.t.n < 0 → ¬ 0 < nmC x.t y.t.n → (P ++ [earl x y]) ++ jnL A2 B2 = jnL A B) := fun h h' => by rw [← HJ.out.1, jnL, if_neg h, if_neg h']; simp
      have HMa : Hid ((∀ z ∈ x :: A2, z ∈ A) ∧ (∀ z ∈ A2, z ∈ A)) := ⟨HJ.out.2.1, fun z hz => HJ.out.2.1 z (by simp [hz])⟩
      have HMb : Hid ((∀ z ∈ y :: B2, z ∈ B) ∧ (∀ z ∈ B2, z ∈ B)) := ⟨HJ.out.2.2, fun z hz => HJ.out.2.2 z (by simp [hz])⟩
      simp only [List.length_cons] at hcapa hcapb hl3 ⊢
      have dA : decide ((0 : Int) < ((A2.length + 1 : Nat) : Int)) = true := decide_eq_true (by omega)
      have dB : decide ((0 : Int) < ((B2.length + 1 : Nat) : Int)) = true := decide_eq_true (by omega)
      have i1 : (0 : Int) < ((A2.length + 1 : Nat) : Int) := by omega
      have i2 : (0 : Int) < ((B2.length + 1 : Nat) : Int) := by omega
      have i3 : (1 : Int) ≤ ((A2.length + 1 : Nat) : Int) := by omega
      have i4 : (1 : Int) ≤ ((B2.length + 1 : Nat) : Int) := by omega
      have i5 : (1 : Int) ≤ (A2.length : Int) + 1 := by omega
      have i6 : (1 : Int) ≤ (B2.length : Int) + 1 := by omega
      clear ra rb hca hcb HJ HRw HTy HLn mx my HWW HRd HLen
      have HOd : Hid (∀ W, Below wr.heap.size wr W → W.ownsRow w.heap.size 30 8 u6 P.length (tCells P)) := fun W h => own_belowE HO.out h
      generalize nmC x.t y.t.n = C at *
      generalize earl x y = Z at *
      go_wp2_with fail
      refine wp_region_quiet (C := fun w' => Below wr.heap.size wr w') (by kernel_rfl) (by kernel_rfl) ((Below.refl _ _).drew) ?_
      dsimp only
      repeat (first
        | go_big_quiet_skip
        | (go_big_quiet_want
           apply Exists.intro
           refine ⟨fun W' hW' => ?_, ?_⟩
           · have hw : Below wr.heap.size wr W' := hW'
             have hw0 : Below w.heap.size w W' := HB.out.trans (hw.mono hsz)
             obtain ⟨⟨⟨g0, g1, g2, g3⟩, g4, g5, g6, g7⟩, ⟨k0, k1, k2, k3⟩, k4, k5, k6, k7⟩ := HXc.out W' hw0
             go_simp
             first
               | done
               | rfl
               | (go_at_call 61; (with_reducible refine Calls.mono (HCm.out W' hw0) ?_); rintro e w'' ⟨rfl, hb⟩; exact ⟨rfl, hw.trans (hb.mono hw.size)⟩)
           go_big_quiet_on
           try simp only [Act.put, List.setIfInBounds_toArray, List.set_cons_zero, List.set_cons_succ]))
      refine wpQuiet_nil ?_
      intro w2 hqw2
      have Hw2 : Hid (Below wr.heap.size wr w2) := hqw2
      have Hw20 : Hid (Below w.heap.size w w2) := HB.out.trans (hqw2.mono hsz)
      have hsz2 := Hw20.out.size
      clear hqw2 HCm
      have HOw : Hid (w2.drew.ownsRow w.heap.size 30 8 u6 P.length (tCells P)) := HOd.out _ Hw2.out.drew
      have HRd2 : Hid (Below w.heap.size w w2.drew) := Hw20.out.drew
      have HAl : Hid (∀ W o, Below w.heap.size w W → Below w.heap.size w (W.alloc o)) := fun W o h => h.trans ((al_b _ o).mono h.size)
      clear HOd HB Hw2 HO
      by_cases hC : C < 0
      · have dC : decide (C < 0) = true := decide_eq_true hC
        have HJ := HJ1.out hC
        have HJ' : Hid ((P ++ [x]) ++ jnL A2 (y :: B2) = jnL A B) := HJ
        clear HJ HJ1 HJ2 HJ3 hC HEa
        go_wp2_with fail
        refine wp_region_held_drew (S := fun w' => BxO ba oa x w' ∧ BxO bb ob y w') (by kernel_rfl) (HXc.out _ HRd2.out) (fun hHeld => ?_)
        have hsd : w.heap.size ≤ w2.drew.heap.size := HRd2.out.size
        generalize w2.drew = wd at *
        refine wpAnyH_take (i := 0) (v := ?_) rfl (by kernel_rfl) (by kernel_rfl) (by kernel_rfl) (fun _ _ _ h => h) (Or.inl ⟨by rfl, ?_⟩) hHeld ?_
        rotate_left 1
        · intro w9 hSw; obtain ⟨⟨⟨g0, g1, g2, g3⟩, g4, g5, g6, g7⟩, ⟨k0, k1, k2, k3⟩, k4, k5, k6, k7⟩ := hSw; go_simp; try with_reducible rfl
        change wpAnyH _ _ _ _ _ _ _ (Act.put _ (some 56) _) _
        simp only [Act.put, List.setIfInBounds_toArray, List.set_cons_zero, List.set_cons_succ]
        refine wpAnyH_take (i := 1) (v := ?_) rfl (by kernel_rfl) (by kernel_rfl) (by kernel_rfl) (fun _ _ _ h => h) (Or.inl ⟨by rfl, ?_⟩) hHeld ?_
        rotate_left 1
        · intro w9 hSw; obtain ⟨⟨⟨g0, g1, g2, g3⟩, g4, g5, g6, g7⟩, ⟨k0, k1, k2, k3⟩, k4, k5, k6, k7⟩ := hSw; go_simp; try with_reducible rfl
        change wpAnyH _ _ _ _ _ _ _ (Act.put _ (some 57) _) _
        simp only [Act.put, List.setIfInBounds_toArray, List.set_cons_zero, List.set_cons_succ]
        refine wpAnyH_take (i := 2) (v := ?_) rfl (by kernel_rfl) (by kernel_rfl) (by kernel_rfl) (fun _ _ _ h => h) (Or.inl ⟨by rfl, ?_⟩) hHeld ?_
        rotate_left 1
        · intro w9 hSw; obtain ⟨⟨⟨g0, g1, g2, g3⟩, g4, g5, g6, g7⟩, ⟨k0, k1, k2, k3⟩, k4, k5, k6, k7⟩ := hSw; go_simp; try with_reducible rfl
        change wpAnyH _ _ _ _ _ _ _ (Act.put _ (some 58) _) _
        simp only [Act.put, List.setIfInBounds_toArray, List.set_cons_zero, List.set_cons_succ]
        refine wpAnyH_take (i := 3) (v := ?_) rfl (by kernel_rfl) (by kernel_rfl) (by kernel_rfl) (fun _ _ _ h => h) (Or.inl ⟨by rfl, ?_⟩) hHeld ?_
        rotate_left 1
        · intro w9 hSw; obtain ⟨⟨⟨g0, g1, g2, g3⟩, g4, g5, g6, g7⟩, ⟨k0, k1, k2, k3⟩, k4, k5, k6, k7⟩ := hSw; go_simp; try with_reducible rfl
        change wpAnyH _ _ _ _ _ _ _ (Act.put _ (some 59) _) _
        simp only [Act.put, List.setIfInBounds_toArray, List.set_cons_zero, List.set_cons_succ]
        refine wpAnyH_take (i := 6) (v := ?_) rfl (by kernel_rfl) (by kernel_rfl) (by kernel_rfl) (fun _ _ _ h => h) (Or.inl ⟨by rfl, ?_⟩) hHeld ?_
        rotate_left 1
        · intro w9 hSw; obtain ⟨⟨⟨g0, g1, g2, g3⟩, g4, g5, g6, g7⟩, ⟨k0, k1, k2, k3⟩, k4, k5, k6, k7⟩ := hSw; go_simp; try with_reducible rfl
        change wpAnyH _ _ _ _ _ _ _ (Act.put _ (some 62) _) _
        simp only [Act.put, List.setIfInBounds_toArray, List.set_cons_zero, List.set_cons_succ]
        refine wpAnyH_take (i := 7) (v := ?_) rfl (by kernel_rfl) (by kernel_rfl) (by kernel_rfl) (fun _ _ _ h => h) (Or.inl ⟨by rfl, ?_⟩) hHeld ?_
        rotate_left 1
        · intro w9 hSw; obtain ⟨⟨⟨g0, g1, g2, g3⟩, g4, g5, g6, g7⟩, ⟨k0, k1, k2, k3⟩, k4, k5, k6, k7⟩ := hSw; go_simp; try with_reducible rfl
        change wpAnyH _ _ _ _ _ _ _ (Act.put _ (some 63) _) _
        simp only [Act.put, List.setIfInBounds_toArray, List.set_cons_zero, List.set_cons_succ]
        refine wpAnyH_ready (rs := [4]) (by kernel_rfl) (by simp) ?_
        refine AllReadyH.cons rfl (fun K hK => ?_) AllReadyH.nil
        go_simp
        refine hK.out _ _ (HXc.out _ (HAl.out _ _ HRd2.out)) (fun hHeld => ?_)
        clear hK K
        refine wpAnyH_ready (rs := [5]) (by kernel_rfl) (by simp) ?_
        refine AllReadyH.cons rfl (fun K hK => ?_) AllReadyH.nil
        refine step_append_lies _ (by rfl) (.tmp 56) (.tmp 60) _ (by rfl) w.heap.size 30 i0 _ 8 128 Tryz.underlying22 hi0 hz0 hz1 hz2 rfl (by omega) u6 P.length (tCells P) (by rfl) (HOw.out.alloc _) ⟨wd.heap.size, 0, none⟩ 1 1 (enT x) (by rfl) (by rfl) (World.news_of_block (cs := tyA x.t x.vo x.va x.vc) (t := 30) (fr := (0, 0)) (heap_alloc_new wd _)) (oneT_cell x) (by omega) (by unfold maxLen; omega) (by omega) (by simp; omega) (wd.heap.size + 1) (by simp) ?_
        intro gg cap w9 hown9 hgrow9 hat9 hlt9
        have HO9 : Hid (w9.ownsRow w.heap.size 30 8 (.slice (some ⟨gg, 0, none⟩) (P.length + 1) cap) (P ++ [x]).length (tCells (P ++ [x]))) := own_one hown9
        have HB9 : Hid (Below w.heap.size w w9) := (HAl.out _ _ HRd2.out).grown hgrow9 (by simp; omega) HOl.out
        refine hK.out _ _ (HXc.out _ HB9.out) (fun hHeld => ?_)
        clear hK K hown9 hgrow9 hat9 hlt9
        change wpAnyH _ _ _ _ _ _ _ (Act.put _ (some 61) _) _
        simp only [Act.put, List.setIfInBounds_toArray, List.set_cons_zero, List.set_cons_succ]
        refine wpAnyH_take (i := 8) (v := ?_) rfl (by kernel_rfl) (by kernel_rfl) (by kernel_rfl) (fun _ _ _ h => h) (Or.inl ⟨by rfl, ?_⟩) hHeld ?_
        rotate_left 1
        · intro w9 hSw; obtain ⟨⟨⟨g0, g1, g2, g3⟩, g4, g5, g6, g7⟩, ⟨k0, k1, k2, k3⟩, k4, k5, k6, k7⟩ := hSw; go_simp; try with_reducible rfl
        change wpAnyH _ _ _ _ _ _ _ (Act.put _ (some 6) _) _
        simp only [Act.put, List.setIfInBounds_toArray, List.set_cons_zero, List.set_cons_succ]
        refine wpAnyH_take (i := 9) (v := ?_) rfl (by kernel_rfl) (by kernel_rfl) (by kernel_rfl) (fun _ _ _ h => h) (Or.inl ⟨by rfl, ?_⟩) hHeld ?_
        rotate_left 1
        · intro w9 hSw; obtain ⟨⟨⟨g0, g1, g2, g3⟩, g4, g5, g6, g7⟩, ⟨k0, k1, k2, k3⟩, k4, k5, k6, k7⟩ := hSw; go_simp; try with_reducible rfl
        change wpAnyH _ _ _ _ _ _ _ (Act.put _ (some 0) _) _
        simp only [Act.put, List.setIfInBounds_toArray, List.set_cons_zero]
        refine wpAnyH_done (by kernel_rfl) ?_ _
        go_wp2
        go_roundw
        case rel => exact ⟨A2, y :: B2, P ++ [x], fun W h => ⟨HTa.out _ _ (fun h => if_neg h) (by simp) W h, HRb.out W h⟩, HO9, ⟨HJ'.out, HMa.out.2, HMb.out.1⟩, (by show _ ≤ _; simp; omega), HB9⟩
        case measure => simp [lnV]
      have dC : decide (C < 0) = false := decide_eq_false hC
      by_cases hC2 : 0 < C
      · have dC2 : decide (0 < C) = true := decide_eq_true hC2
        have HJ' : Hid ((P ++ [y]) ++ jnL (x :: A2) B2 = jnL A B) := HJ2.out (by first | exact hC | omega) (by first | exact hC2 | omega)
        clear HJ1 HJ2 HJ3 hC hC2 HEa
        go_wp2_with fail
        refine wp_region_held_drew (S := fun w' => BxO ba oa x w' ∧ BxO bb ob y w') (by kernel_rfl) (HXc.out _ HRd2.out) (fun hHeld => ?_)
        have hsd : w.heap.size ≤ w2.drew.heap.size := HRd2.out.size
        generalize w2.drew = wd at *
        refine wpAnyH_take (i := 0) (v := ?_) rfl (by kernel_rfl) (by kernel_rfl) (by kernel_rfl) (fun _ _ _ h => h) (Or.inl ⟨by rfl, ?_⟩) hHeld ?_
        rotate_left 1
        · intro w9 hSw; obtain ⟨⟨⟨g0, g1, g2, g3⟩, g4, g5, g6, g7⟩, ⟨k0, k1, k2, k3⟩, k4, k5, k6, k7⟩ := hSw; go_simp; try with_reducible rfl
        change wpAnyH _ _ _ _ _ _ _ (Act.put _ (some 67) _) _
        simp only [Act.put, List.setIfInBounds_toArray, List.set_cons_zero, List.set_cons_succ]
        refine wpAnyH_take (i := 1) (v := ?_) rfl (by kernel_rfl) (by kernel_rfl) (by kernel_rfl) (fun _ _ _ h => h) (Or.inl ⟨by rfl, ?_⟩) hHeld ?_
        rotate_left 1
        · intro w9 hSw; obtain ⟨⟨⟨g0, g1, g2, g3⟩, g4, g5, g6, g7⟩, ⟨k0, k1, k2, k3⟩, k4, k5, k6, k7⟩ := hSw; go_simp; try with_reducible rfl
        change wpAnyH _ _ _ _ _ _ _ (Act.put _ (some 68) _) _
        simp only [Act.put, List.setIfInBounds_toArray, List.set_cons_zero, List.set_cons_succ]
        refine wpAnyH_take (i := 2) (v := ?_) rfl (by kernel_rfl) (by kernel_rfl) (by kernel_rfl) (fun _ _ _ h => h) (Or.inl ⟨by rfl, ?_⟩) hHeld ?_
        rotate_left 1
        · intro w9 hSw; obtain ⟨⟨⟨g0, g1, g2, g3⟩, g4, g5, g6, g7⟩, ⟨k0, k1, k2, k3⟩, k4, k5, k6, k7⟩ := hSw; go_simp; try with_reducible rfl
        change wpAnyH _ _ _ _ _ _ _ (Act.put _ (some 69) _) _
        simp only [Act.put, List.setIfInBounds_toArray, List.set_cons_zero, List.set_cons_succ]
        refine wpAnyH_take (i := 3) (v := ?_) rfl (by kernel_rfl) (by kernel_rfl) (by kernel_rfl) (fun _ _ _ h => h) (Or.inl ⟨by rfl, ?_⟩) hHeld ?_
        rotate_left 1
        · intro w9 hSw; obtain ⟨⟨⟨g0, g1, g2, g3⟩, g4, g5, g6, g7⟩, ⟨k0, k1, k2, k3⟩, k4, k5, k6, k7⟩ := hSw; go_simp; try with_reducible rfl
        change wpAnyH _ _ _ _ _ _ _ (Act.put _ (some 70) _) _
        simp only [Act.put, List.setIfInBounds_toArray, List.set_cons_zero, List.set_cons_succ]
        refine wpAnyH_take (i := 6) (v := ?_) rfl (by kernel_rfl) (by kernel_rfl) (by kernel_rfl) (fun _ _ _ h => h) (Or.inl ⟨by rfl, ?_⟩) hHeld ?_
        rotate_left 1
        · intro w9 hSw; obtain ⟨⟨⟨g0, g1, g2, g3⟩, g4, g5, g6, g7⟩, ⟨k0, k1, k2, k3⟩, k4, k5, k6, k7⟩ := hSw; go_simp; try with_reducible rfl
        change wpAnyH _ _ _ _ _ _ _ (Act.put _ (some 73) _) _
        simp only [Act.put, List.setIfInBounds_toArray, List.set_cons_zero, List.set_cons_succ]
        refine wpAnyH_take (i := 7) (v := ?_) rfl (by kernel_rfl) (by kernel_rfl) (by kernel_rfl) (fun _ _ _ h => h) (Or.inl ⟨by rfl, ?_⟩) hHeld ?_
        rotate_left 1
        · intro w9 hSw; obtain ⟨⟨⟨g0, g1, g2, g3⟩, g4, g5, g6, g7⟩, ⟨k0, k1, k2, k3⟩, k4, k5, k6, k7⟩ := hSw; go_simp; try with_reducible rfl
        change wpAnyH _ _ _ _ _ _ _ (Act.put _ (some 74) _) _
        simp only [Act.put, List.setIfInBounds_toArray, List.set_cons_zero, List.set_cons_succ]
        refine wpAnyH_ready (rs := [4]) (by kernel_rfl) (by simp) ?_
        refine AllReadyH.cons rfl (fun K hK => ?_) AllReadyH.nil
        go_simp
        refine hK.out _ _ (HXc.out _ (HAl.out _ _ HRd2.out)) (fun hHeld => ?_)
        clear hK K
        refine wpAnyH_ready (rs := [5]) (by kernel_rfl) (by simp) ?_
        refine AllReadyH.cons rfl (fun K hK => ?_) AllReadyH.nil
        refine step_append_lies _ (by rfl) (.tmp 67) (.tmp 71) _ (by rfl) w.heap.size 30 i0 _ 8 128 Tryz.underlying22 hi0 hz0 hz1 hz2 rfl (by omega) u6 P.length (tCells P) (by rfl) (HOw.out.alloc _) ⟨wd.heap.size, 0, none⟩ 1 1 (enT y) (by rfl) (by rfl) (World.news_of_block (cs := tyA y.t y.vo y.va y.vc) (t := 30) (fr := (0, 0)) (heap_alloc_new wd _)) (oneT_cell y) (by omega) (by unfold maxLen; omega) (by omega) (by simp; omega) (wd.heap.size + 1) (by simp) ?_
        intro gg cap w9 hown9 hgrow9 hat9 hlt9
        have HO9 : Hid (w9.ownsRow w.heap.size 30 8 (.slice (some ⟨gg, 0, none⟩) (P.length + 1) cap) (P ++ [y]).length (tCells (P ++ [y]))) := own_one hown9
        have HB9 : Hid (Below w.heap.size w w9) := (HAl.out _ _ HRd2.out).grown hgrow9 (by simp; omega) HOl.out
        refine hK.out _ _ (HXc.out _ HB9.out) (fun hHeld => ?_)
        clear hK K hown9 hgrow9 hat9 hlt9
        change wpAnyH _ _ _ _ _ _ _ (Act.put _ (some 72) _) _
        simp only [Act.put, List.setIfInBounds_toArray, List.set_cons_zero, List.set_cons_succ]
        refine wpAnyH_take (i := 8) (v := ?_) rfl (by kernel_rfl) (by kernel_rfl) (by kernel_rfl) (fun _ _ _ h => h) (Or.inl ⟨by rfl, ?_⟩) hHeld ?_
        rotate_left 1
        · intro w9 hSw; obtain ⟨⟨⟨g0, g1, g2, g3⟩, g4, g5, g6, g7⟩, ⟨k0, k1, k2, k3⟩, k4, k5, k6, k7⟩ := hSw; go_simp; try with_reducible rfl
        change wpAnyH _ _ _ _ _ _ _ (Act.put _ (some 6) _) _
        simp only [Act.put, List.setIfInBounds_toArray, List.set_cons_zero, List.set_cons_succ]
        refine wpAnyH_take (i := 9) (v := ?_) rfl (by kernel_rfl) (by kernel_rfl) (by kernel_rfl) (fun _ _ _ h => h) (Or.inl ⟨by rfl, ?_⟩) hHeld ?_
        rotate_left 1
        · intro w9 hSw; obtain ⟨⟨⟨g0, g1, g2, g3⟩, g4, g5, g6, g7⟩, ⟨k0, k1, k2, k3⟩, k4, k5, k6, k7⟩ := hSw; go_simp; try with_reducible rfl
        change wpAnyH _ _ _ _ _ _ _ (Act.put _ (some 1) _) _
        simp only [Act.put, List.setIfInBounds_toArray, List.set_cons_zero, List.set_cons_succ]
        refine wpAnyH_done (by kernel_rfl) ?_ _
        go_wp2
        go_roundw
        case rel => exact ⟨x :: A2, B2, P ++ [y], fun W h => ⟨HRa.out W h, HTb.out _ _ (fun h => if_neg h) (by simp) W h⟩, HO9, ⟨HJ'.out, HMa.out.1, HMb.out.2⟩, (by show _ ≤ _; simp; omega), HB9⟩
        case measure => simp [lnV]
      have dC2 : decide (0 < C) = false := decide_eq_false hC2
      have HJ' : Hid ((P ++ [Z]) ++ jnL A2 B2 = jnL A B) := HJ3.out (by first | exact hC | omega) (by first | exact hC2 | omega)
      clear HJ1 HJ2 HJ3 hC hC2
      go_wp2_with fail
      refine wp_region_held_drew (S := fun w' => BxO ba oa x w' ∧ BxO bb ob y w') (by kernel_rfl) (HXc.out _ HRd2.out) (fun hHeld => ?_)
      have hsd : w.heap.size ≤ w2.drew.heap.size := HRd2.out.size
      generalize w2.drew = wd at *
      refine wpAnyH_take (i := 0) (v := ?_) rfl (by kernel_rfl) (by kernel_rfl) (by kernel_rfl) (fun _ _ _ h => h) (Or.inl ⟨by rfl, ?_⟩) hHeld ?_
      rotate_left 1
      · intro w9 hSw; obtain ⟨⟨⟨g0, g1, g2, g3⟩, g4, g5, g6, g7⟩, ⟨k0, k1, k2, k3⟩, k4, k5, k6, k7⟩ := hSw; go_simp; try with_reducible rfl
      change wpAnyH _ _ _ _ _ _ _ (Act.put _ (some 39) _) _
      simp only [Act.put, List.setIfInBounds_toArray, List.set_cons_zero, List.set_cons_succ]
      refine wpAnyH_take (i := 1) (v := ?_) rfl (by kernel_rfl) (by kernel_rfl) (by kernel_rfl) (fun _ _ _ h => h) (Or.inl ⟨by rfl, ?_⟩) hHeld ?_
      rotate_left 1
      · intro w9 hSw; obtain ⟨⟨⟨g0, g1, g2, g3⟩, g4, g5, g6, g7⟩, ⟨k0, k1, k2, k3⟩, k4, k5, k6, k7⟩ := hSw; go_simp; try with_reducible rfl
      change wpAnyH _ _ _ _ _ _ _ (Act.put _ (some 40) _) _
      simp only [Act.put, List.setIfInBounds_toArray, List.set_cons_zero, List.set_cons_succ]
      refine wpAnyH_take (i := 2) (v := ?_) rfl (by kernel_rfl) (by kernel_rfl) (by kernel_rfl) (fun _ _ _ h => h) (Or.inl ⟨by rfl, ?_⟩) hHeld ?_
      rotate_left 1
      · intro w9 hSw; obtain ⟨⟨⟨g0, g1, g2, g3⟩, g4, g5, g6, g7⟩, ⟨k0, k1, k2, k3⟩, k4, k5, k6, k7⟩ := hSw; go_simp; try with_reducible rfl
      change wpAnyH _ _ _ _ _ _ _ (Act.put _ (some 41) _) _
      simp only [Act.put, List.setIfInBounds_toArray, List.set_cons_zero, List.set_cons_succ]
      refine wpAnyH_take (i := 3) (v := ?_) rfl (by kernel_rfl) (by kernel_rfl) (by kernel_rfl) (fun _ _ _ h => h) (Or.inl ⟨by rfl, ?_⟩) hHeld ?_
      rotate_left 1
      · intro w9 hSw; obtain ⟨⟨⟨g0, g1, g2, g3⟩, g4, g5, g6, g7⟩, ⟨k0, k1, k2, k3⟩, k4, k5, k6, k7⟩ := hSw; go_simp; try with_reducible rfl
      change wpAnyH _ _ _ _ _ _ _ (Act.put _ (some 42) _) _
      simp only [Act.put, List.setIfInBounds_toArray, List.set_cons_zero, List.set_cons_succ]
      refine wpAnyH_take (i := 4) (v := ?_) rfl (by kernel_rfl) (by kernel_rfl) (by kernel_rfl) (fun _ _ _ h => h) (Or.inl ⟨by rfl, ?_⟩) hHeld ?_
      rotate_left 1
      · intro w9 hSw; obtain ⟨⟨⟨g0, g1, g2, g3⟩, g4, g5, g6, g7⟩, ⟨k0, k1, k2, k3⟩, k4, k5, k6, k7⟩ := hSw; go_simp; try with_reducible rfl
      change wpAnyH _ _ _ _ _ _ _ (Act.put _ (some 43) _) _
      simp only [Act.put, List.setIfInBounds_toArray, List.set_cons_zero, List.set_cons_succ]
      refine wpAnyH_take (i := 5) (v := ?_) rfl (by kernel_rfl) (by kernel_rfl) (by kernel_rfl) (fun _ _ _ h => h) (Or.inl ⟨by rfl, ?_⟩) hHeld ?_
      rotate_left 1
      · intro w9 hSw; obtain ⟨⟨⟨g0, g1, g2, g3⟩, g4, g5, g6, g7⟩, ⟨k0, k1, k2, k3⟩, k4, k5, k6, k7⟩ := hSw; go_simp; try with_reducible rfl
      change wpAnyH _ _ _ _ _ _ _ (Act.put _ (some 44) _) _
      simp only [Act.put, List.setIfInBounds_toArray, List.set_cons_zero, List.set_cons_succ]
      refine wpAnyH_take (i := 6) (v := ?_) rfl (by kernel_rfl) (by kernel_rfl) (by kernel_rfl) (fun _ _ _ h => h) (Or.inl ⟨by rfl, ?_⟩) hHeld ?_
      rotate_left 1
      · intro w9 hSw; obtain ⟨⟨⟨g0, g1, g2, g3⟩, g4, g5, g6, g7⟩, ⟨k0, k1, k2, k3⟩, k4, k5, k6, k7⟩ := hSw; go_simp; try with_reducible rfl
      change wpAnyH _ _ _ _ _ _ _ (Act.put _ (some 45) _) _
      simp only [Act.put, List.setIfInBounds_toArray, List.set_cons_zero, List.set_cons_succ]
      refine wpAnyH_take (i := 10) (v := ?_) rfl (by kernel_rfl) (by kernel_rfl) (by kernel_rfl) (fun _ _ _ h => h) (Or.inl ⟨by rfl, ?_⟩) hHeld ?_
      rotate_left 1
      · intro w9 hSw; obtain ⟨⟨⟨g0, g1, g2, g3⟩, g4, g5, g6, g7⟩, ⟨k0, k1, k2, k3⟩, k4, k5, k6, k7⟩ := hSw; go_simp; try with_reducible rfl
      change wpAnyH _ _ _ _ _ _ _ (Act.put _ (some 49) _) _
      simp only [Act.put, List.setIfInBounds_toArray, List.set_cons_zero, List.set_cons_succ]
      refine wpAnyH_take (i := 11) (v := ?_) rfl (by kernel_rfl) (by kernel_rfl) (by kernel_rfl) (fun _ _ _ h => h) (Or.inl ⟨by rfl, ?_⟩) hHeld ?_
      rotate_left 1
      · intro w9 hSw; obtain ⟨⟨⟨g0, g1, g2, g3⟩, g4, g5, g6, g7⟩, ⟨k0, k1, k2, k3⟩, k4, k5, k6, k7⟩ := hSw; go_simp; try with_reducible rfl
      change wpAnyH _ _ _ _ _ _ _ (Act.put _ (some 50) _) _
      simp only [Act.put, List.setIfInBounds_toArray, List.set_cons_zero, List.set_cons_succ]
      refine wpAnyH_take (i := 12) (v := ?_) rfl (by kernel_rfl) (by kernel_rfl) (by kernel_rfl) (fun _ _ _ h => h) (Or.inl ⟨by rfl, ?_⟩) hHeld ?_
      rotate_left 1
      · intro w9 hSw; obtain ⟨⟨⟨g0, g1, g2, g3⟩, g4, g5, g6, g7⟩, ⟨k0, k1, k2, k3⟩, k4, k5, k6, k7⟩ := hSw; go_simp; try with_reducible rfl
      change wpAnyH _ _ _ _ _ _ _ (Act.put _ (some 51) _) _
      simp only [Act.put, List.setIfInBounds_toArray, List.set_cons_zero, List.set_cons_succ]
      refine wpAnyH_take (i := 13) (v := ?_) rfl (by kernel_rfl) (by kernel_rfl) (by kernel_rfl) (fun _ _ _ h => h) (Or.inl ⟨by rfl, ?_⟩) hHeld ?_
      rotate_left 1
      · intro w9 hSw; obtain ⟨⟨⟨g0, g1, g2, g3⟩, g4, g5, g6, g7⟩, ⟨k0, k1, k2, k3⟩, k4, k5, k6, k7⟩ := hSw; go_simp; try with_reducible rfl
      change wpAnyH _ _ _ _ _ _ _ (Act.put _ (some 52) _) _
      simp only [Act.put, List.setIfInBounds_toArray, List.set_cons_zero, List.set_cons_succ]
      refine wpAnyH_ready (rs := [7]) (by kernel_rfl) (by simp) ?_
      refine AllReadyH.cons rfl (fun K hK => ?_) AllReadyH.nil
      go_simp
      refine (HEa.out _).mono ?_
      rintro e w7 ⟨rfl, hb7⟩
      have HB7 : Hid (Below w.heap.size w w7) := HRd2.out.trans (hb7.mono HRd2.out.size)
      have HO7 : Hid (w7.ownsRow w.heap.size 30 8 u6 P.length (tCells P)) := own_belowE HOw.out hb7
      go_simp
      refine hK.out _ _ (HXc.out _ HB7.out) (fun hHeld => ?_)
      clear hK K hb7
      have hsd7 : w.heap.size ≤ w7.heap.size := HB7.out.size
      refine wpAnyH_ready (rs := [8]) (by kernel_rfl) (by simp) ?_
      refine AllReadyH.cons rfl (fun K hK => ?_) AllReadyH.nil
      go_simp
      refine hK.out _ _ (HXc.out _ (HAl.out _ _ HB7.out)) (fun hHeld => ?_)
      clear hK K
      refine wpAnyH_ready (rs := [9]) (by kernel_rfl) (by simp) ?_
      refine AllReadyH.cons rfl (fun K hK => ?_) AllReadyH.nil
      refine step_append_lies _ (by rfl) (.tmp 39) (.tmp 47) _ (by rfl) w.heap.size 30 i0 _ 8 128 Tryz.underlying22 hi0 hz0 hz1 hz2 rfl (by omega) u6 P.length (tCells P) (by rfl) (HO7.out.alloc _) ⟨w7.heap.size, 0, none⟩ 1 1 (enT Z) (by rfl) (by rfl) (World.news_of_block (cs := tyA Z.t Z.vo Z.va Z.vc) (t := 30) (fr := (0, 0)) (heap_alloc_new w7 _)) (oneT_cell Z) (by omega) (by unfold maxLen; omega) (by omega) (by simp; omega) (w7.heap.size + 1) (by simp) ?_
      intro gg cap w9 hown9 hgrow9 hat9 hlt9
      have HO9 : Hid (w9.ownsRow w.heap.size 30 8 (.slice (some ⟨gg, 0, none⟩) (P.length + 1) cap) (P ++ [Z]).length (tCells (P ++ [Z]))) := own_one hown9
      have HB9 : Hid (Below w.heap.size w w9) := (HAl.out _ _ HB7.out).grown hgrow9 (by simp; omega) HOl.out
      refine hK.out _ _ (HXc.out _ HB9.out) (fun hHeld => ?_)
      clear hK K hown9 hgrow9 hat9 hlt9
      change wpAnyH _ _ _ _ _ _ _ (Act.put _ (some 48) _) _
      simp only [Act.put, List.setIfInBounds_toArray, List.set_cons_zero, List.set_cons_succ]
      refine wpAnyH_take (i := 14) (v := ?_) rfl (by kernel_rfl) (by kernel_rfl) (by kernel_rfl) (fun _ _ _ h => h) (Or.inl ⟨by rfl, ?_⟩) hHeld ?_
      rotate_left 1
      · intro w9 hSw; obtain ⟨⟨⟨g0, g1, g2, g3⟩, g4, g5, g6, g7⟩, ⟨k0, k1, k2, k3⟩, k4, k5, k6, k7⟩ := hSw; go_simp; try with_reducible rfl
      change wpAnyH _ _ _ _ _ _ _ (Act.put _ (some 6) _) _
      simp only [Act.put, List.setIfInBounds_toArray, List.set_cons_zero, List.set_cons_succ]
      refine wpAnyH_take (i := 15) (v := ?_) rfl (by kernel_rfl) (by kernel_rfl) (by kernel_rfl) (fun _ _ _ h => h) (Or.inl ⟨by rfl, ?_⟩) hHeld ?_
      rotate_left 1
      · intro w9 hSw; obtain ⟨⟨⟨g0, g1, g2, g3⟩, g4, g5, g6, g7⟩, ⟨k0, k1, k2, k3⟩, k4, k5, k6, k7⟩ := hSw; go_simp; try with_reducible rfl
      change wpAnyH _ _ _ _ _ _ _ (Act.put _ (some 0) _) _
      simp only [Act.put, List.setIfInBounds_toArray, List.set_cons_zero]
      refine wpAnyH_take (i := 16) (v := ?_) rfl (by kernel_rfl) (by kernel_rfl) (by kernel_rfl) (fun _ _ _ h => h) (Or.inl ⟨by rfl, ?_⟩) hHeld ?_
      rotate_left 1
      · intro w9 hSw; obtain ⟨⟨⟨g0, g1, g2, g3⟩, g4, g5, g6, g7⟩, ⟨k0, k1, k2, k3⟩, k4, k5, k6, k7⟩ := hSw; go_simp; try with_reducible rfl
      change wpAnyH _ _ _ _ _ _ _ (Act.put _ (some 1) _) _
      simp only [Act.put, List.setIfInBounds_toArray, List.set_cons_zero, List.set_cons_succ]
      refine wpAnyH_done (by kernel_rfl) ?_ _
      go_wp2
      go_roundw
      case rel => exact ⟨A2, B2, P ++ [Z], fun W h => ⟨HTa.out _ _ (fun h => if_neg h) (by simp) W h, HTb.out _ _ (fun h => if_neg h) (by simp) W h⟩, HO9, ⟨HJ'.out, HMa.out.2, HMb.out.2⟩, (by show _ ≤ _; simp; omega), HB9⟩
      case measure => simp [lnV]; omega
end Go.Proofs.YtkcnkjaeidbjbaaGreatDoor
