/- What a call leaves of the store and of what the document says, call by call. -/
import Derived.Test.YtlndgepoekllkaaGreatDoorZk34
import Derived.Test.YtlndgepoekllkaaGreatDoorZk17
import Derived.Test.YtlndgepoekllkaaGreatDoorZk22
import Derived.Test.YtlndgepoekllkaaGreatDoorZk23
import Derived.Test.YtlndgepoekllkaaGreatDoorZk12
import Derived.Test.YtlndgepoekllkaaGreatDoorZk16
import Derived.Test.YtlndgepoekllkaaGreatDoorZk18
namespace Go.Proofs.YtlndgepoekllkaaGreatDoor
open Go.RowKit Go.ChangeMaps

/-- Behind the store's call. -/
def StQ (w0 : World) (s m : Nat) (E : List (ByteArray × Nat)) (Q : List KR → Prop) (W w' : World) : Prop := ∃ E' X', StV w0.heap.size w' s m E' X' ∧ Stp W (SF m E) (SF m E') w' ∧ E'.length ≤ 200 ∧ ∀ M', Q M' → PlI E' X' M'
theorem RS.of {w0 w w1 w2 : World} {s m : Nat} {E : List (ByteArray × Nat)} {X : Nat → Kp} {v v' : Value} {M M' : List KR} {Q : List KR → Prop} (h : RS w0 w s m E X v M) (hb : Below w.heap.size w w1) (hk : Pst (SF m E) w1 fun W => IsKs W v' M') (hQ : Q M') (hS : StQ w0 s m E Q w1 w2) : ∃ E' X', RS w0 w2 s m E' X' v' M' ∧ Stp w1 (SF m E) (SF m E') w2 := by
  obtain ⟨E', X', s1, s2, s3, s4⟩ := hS
  refine ⟨E', X', ⟨s1, hk.move s2, ?_, s4 _ hQ, s3⟩, s2⟩
  have h1 := h.bel.trans (hb.mono h.bel.size)
  exact h1.trans (s2.below h1.size fun k hk => (h.st.sf hk).1)
theorem stq_stay {w0 w W w' : World} {s m : Nat} {E : List (ByteArray × Nat)} {X : Nat → Kp} {v : Value} {M : List KR} (h : RS w0 w s m E X v M) (hW : Below w.heap.size w W) (hb : Below W.heap.size W w') : StQ w0 s m E (fun M' => M' = M) W w' :=
  ⟨E, X, (h.st.below hW).below hb, Stp.of _ hb, h.le, fun M' e => by rw [e]; exact h.pl⟩
theorem RS.names {w0 w : World} {s m : Nat} {E : List (ByteArray × Nat)} {X : Nat → Kp} {v : Value} {M : List KR} (h : RS w0 w s m E X v M) : (∀ k ∈ M, k.y.t.n.size ≤ 200000) ∧ M.length ≤ 200 ∧ ∀ k ∈ M, k.y.t.n.size ≤ 1000000 :=
  ⟨fun k hk => by have := (one_okQ (h.pl.ok k hk).1).2.2.2; omega, by rw [h.pl.len]; exact h.le, fun k hk => by have := (one_okQ (h.pl.ok k hk).1).2.2.2; omega⟩
theorem zT_sm : SmT zT := ⟨by decide, by decide, by decide⟩
/-- Put of both. -/
def PutPair (w0 w : World) (s m : Nat) (E : List (ByteArray × Nat)) (v : Value) (M : List KR) (o : LT) (Q : List KR → Prop) (tt : Ty) (z : Int) : Prop :=
  (∀ (F : Nat → Prop) W y, (∀ k, F k → k < W.heap.size) → Pst F W (fun W => IsKs W v M) → Below w.heap.size w W → y.t = o.t → Pst F W (fun W => IsTy W y.t y.vo y.va y.vc) → Calls Tryz.prog 16 #[.agg #[v], ltV y] W fun e w' => ∃ a c M' yT, e = .returned (.agg #[.slice a (List.length M') c, .string (LT.t yT).n, .string yT.t.p, yT.vo, yT.va, yT.vc, .int .i64 yT.t.nd, .int .i64 yT.t.lf, .int .i64 yT.t.sq, .int .i64 z]) ∧ yT.t = tt ∧ Q M' ∧ Pst F w' (fun W => IsKs W (.slice a M'.length c) M' ∧ IsTy W yT.t yT.vo yT.va yT.vc) ∧ Below W.heap.size W w') ∧
  (∀ W, Below w.heap.size w W → Calls Tryz.prog 12 #[stP s, ltV o] W fun e w' => ∃ t2 : LT, e = .returned (.tuple #[ltV t2, .int .i64 z]) ∧ t2.t = tt ∧ IsTy w' t2.t t2.vo t2.va t2.vc ∧ StQ w0 s m E Q W w')
theorem lt_of_own {base : Nat} {w : World} {t : Ty} {v1 v2 v3 : Value} (h : OwnTy base w t v1 v2 v3) : ∃ y : LT, tyV t v1 v2 v3 = ltV y ∧ y.t = t ∧ IsTy w y.t y.vo y.va y.vc := by
  obtain ⟨a1, c1, rfl⟩ := (IsRow.own h.1).form
  obtain ⟨a2, c2, rfl⟩ := (IsRow.own h.2.1).form
  obtain ⟨a3, c3, rfl⟩ := (IsRow.own h.2.2).form
  exact ⟨⟨t, a1, c1, a2, c2, a3, c3⟩, rfl, rfl, IsRow.own h.1, IsRow.own h.2.1, IsRow.own h.2.2⟩
theorem put_pair {w0 w : World} {s m : Nat} {E : List (ByteArray × Nat)} {X : Nat → Kp} {v : Value} {M : List KR} (h : RS w0 w s m E X v M) (o : LT) (ho : IsTy w0 o.t o.vo o.va o.vc) (hk : oneB o.t = true) (hT : ∀ W, Below w0.heap.size w0 W → UT W ∧ ML W) :
    ∃ Q tt z, SmT tt ∧ PutPair w0 w s m E v M o Q tt z := by
  obtain ⟨a0, c0, rfl⟩ := h.ks.get.1.form
  obtain ⟨n1, n2, n3⟩ := h.names
  obtain ⟨oq, on, os, o2⟩ := one_okQ hk
  have hB : ∀ W, Below w.heap.size w W → Below w0.heap.size w0 W := fun W hb => h.bel.trans (hb.mono h.bel.size)
  have hF : ∀ k, SF m E k → k < w.heap.size := fun k hk => (h.st.sf hk).2
  have hFW : ∀ W, Below w.heap.size w W → ∀ k, SF m E k → k < W.heap.size := fun W hb k hk => Nat.lt_of_lt_of_le (hF k hk) hb.size
  have hR : ∀ W, Below w.heap.size w W → IsRow W 10 (.slice a0 M.length c0) M.length (kCells M) := fun W hb => (h.ks.below hb).get.1
  have hst : ∀ W w', Below w.heap.size w W → Below W.heap.size W w' → Pst (SF m E) w' fun W => IsKs W (.slice a0 M.length c0) M := fun W w' h1 h2 => h.ks.below (h1.trans (h2.mono h1.size))
  have hz : ∀ F w', Pst F w' fun W => IsTy W zLT.t zLT.vo zLT.va zLT.vc := fun F w' => pst_true fun W => ty_zLT W
  cases hc : chkT o.t with
  | false =>
    refine ⟨fun M' => M' = M, zT, 1, zT_sm, fun F W y hFl hK hb hy hI => ?_, fun W hb => ?_⟩
    · refine (put17_bad _ M y W hK.get.1 (by omega) n3 hI.get (by rw [hy]; exact oq) (by rw [hy]; omega) (by rw [hy]; exact hc)).mono ?_
      rintro e w' ⟨rfl, hb'⟩
      exact ⟨a0, c0, M, zLT, rfl, rfl, rfl, pst_and (hK.below hb') (hz F w'), hb'⟩
    · refine (put_bad s o.t _ _ _ W (ho.below (hB W hb)) on (hT W (hB W hb)).1 (hT W (hB W hb)).2 hc).mono ?_
      rintro e w' ⟨rfl, hb'⟩
      exact ⟨zLT, rfl, rfl, ty_zLT w', stq_stay h hb hb'⟩
  | true =>
  rcases h.pl.find o.t.n with ⟨f1, f2⟩ | ⟨i, hi, g, f1, f2, f3, f4, f5, f6, f7⟩
  · by_cases hl : 200 ≤ E.length
    · refine ⟨fun M' => M' = M, zT, 6, zT_sm, fun F W y hFl hK hb hy hI => ?_, fun W hb => ?_⟩
      · refine (put17_full _ M y W hK.get.1 (by omega) n3 hI.get (by rw [hy]; exact oq) (by rw [hy]; omega) (by rw [hy]; exact hc) (by rw [hy]; exact f2) (by rw [h.pl.len]; exact hl)).mono ?_
        rintro e w' ⟨rfl, hb'⟩
        exact ⟨a0, c0, M, zLT, rfl, rfl, rfl, pst_and (hK.below hb') (hz F w'), hb'⟩
      · refine (put_full (h.st.below hb) o.t _ _ _ (ho.below (hB W hb)) on (hT W (hB W hb)).1 (hT W (hB W hb)).2 hc f1 hl).mono ?_
        rintro e w' ⟨rfl, hb'⟩
        exact ⟨zLT, rfl, rfl, ty_zLT w', stq_stay h hb hb'⟩
    · refine ⟨fun M' => ∃ y : LT, y.t = o.t ∧ M' = wthR M (fndZ M o.t.n) ⟨y, false, [], none, 0⟩, o.t, 0, os, fun F W y hFl hK hb hy hI => ?_, fun W hb => ?_⟩
      · refine (put17_new _ M y W hK.get.1 (by omega) n1 hI.get (by rw [hy]; exact oq) (by rw [hy]; omega) (by rw [hy]; exact hc) (by rw [hy]; exact f2) (by rw [h.pl.len]; omega)).mono ?_
        rintro e w' ⟨a, c, rfl, hrow, hN, hb'⟩
        rw [hy] at hrow ⊢
        refine ⟨a, c, _, y, by rw [hy], hy, ⟨y, hy, rfl⟩, ?_, hb'⟩
        exact pst_and (pst_wth hFl hK hb' (.inl f2) hrow hN (pst_and (hI.below hb') pst_nil)) (hI.below hb')
      · refine (put_new (h.st.below hb) (Nat.le_trans h.bel.size hb.size) o.t _ _ _ (ho.below (hB W hb)) os.1 os.2.1 os.2.2 on (hT W (hB W hb)).1 (hT W (hB W hb)).2 hc (fun _ => by omega) (fun g0 e => by rw [f1] at e; cases e)).mono ?_
        rintro e w' ⟨g, v1, v2, v3, rfl, p1, p2, p3, p4⟩
        obtain ⟨t2, e2, e3, e4⟩ := lt_of_own p4
        refine ⟨t2, by rw [e2], e3, e4, _, _, p1, stp_map p3 (stS_blk p2), Nat.le_trans (stS_len _ _ _) (by omega), ?_⟩
        rintro M' ⟨y, hy, rfl⟩
        have hn := h.pl.put_new (o := y) (g := g) (fun hm => by
          obtain ⟨p, hp, e⟩ := List.mem_map.1 hm
          have := hFW W hb g (.inr hm)
          omega) (by rw [hy]; exact f1) (by rw [hy]; exact f2) (by rw [hy]; exact hk) (by rw [hy]; exact hc) (by rw [hy]; exact p1.mp.2) (by rw [hy]; exact p1.nd)
        rw [hy] at hn
        exact hn
  · by_cases hord : or3 (ordI o.t.nd M[i].y.t.nd) (ordI o.t.lf M[i].y.t.lf) (ordI o.t.sq M[i].y.t.sq) < 0
    · refine ⟨fun M' => ∃ y : LT, y.t = o.t ∧ M' = wthR M (i : Int) ⟨y, false, [], none, 0⟩, o.t, 0, os, fun F W y hFl hK hb hy hI => ?_, fun W hb => ?_⟩
      · refine (put17_over _ M y W hK.get.1 (by omega) n1 hI.get (by rw [hy]; exact oq) (by rw [hy]; omega) (by rw [hy]; exact hc) i hi (by rw [hy]; exact f1) (by rw [hy]; exact hord)).mono ?_
        rintro e w' ⟨a, c, rfl, hrow, hN, hb'⟩
        refine ⟨a, c, _, y, rfl, hy, ⟨y, hy, rfl⟩, ?_, hb'⟩
        exact pst_and (pst_wth hFl hK hb' (.inr ⟨i, rfl⟩) hrow hN (pst_and (hI.below hb') pst_nil)) (hI.below hb')
      · refine (put_new (h.st.below hb) (Nat.le_trans h.bel.size hb.size) o.t _ _ _ (ho.below (hB W hb)) os.1 os.2.1 os.2.2 on (hT W (hB W hb)).1 (hT W (hB W hb)).2 hc (fun e => by rw [f2] at e; cases e) (fun g0 e => by
          rw [f2] at e
          obtain rfl := Option.some.inj e
          rw [f4]
          exact hord)).mono ?_
        rintro e w' ⟨g', v1, v2, v3, rfl, p1, p2, p3, p4⟩
        obtain ⟨t2, e2, e3, e4⟩ := lt_of_own p4
        refine ⟨t2, by rw [e2], e3, e4, _, _, p1, stp_map p3 (stS_blk p2), ?_, ?_⟩
        · have := congrArg List.length (stS_keys E (fldB o.t.n) g' (by rw [f2]; exact fun e => by cases e))
          simp only [List.length_map] at this
          rw [this]
          exact h.le
        · rintro M' ⟨y, hy, rfl⟩
          have hn := h.pl.put_over (o := y) (g := g') (fun hm => by
            have := hFW W hb g' (.inr hm)
            omega) hi (by rw [hy]; exact f3) (by rw [hy]; exact hk) (by rw [hy]; exact hc) (by rw [hy]; exact p1.nd)
          rw [hy] at hn
          exact hn
    · obtain ⟨-, -, sm, -⟩ := one_okQ (h.pl.ok _ (List.getElem_mem hi)).1
      refine ⟨fun M' => M' = M, M[i].y.t, 0, sm, fun F W y hFl hK hb hy hI => ?_, fun W hb => ?_⟩
      · refine (put17_old _ M y W hK.get.1 (by omega) n1 hI.get (by rw [hy]; exact oq) (by rw [hy]; omega) (by rw [hy]; exact hc) i hi (by rw [hy]; exact f1) (by rw [hy]; omega)).mono ?_
        rintro e w' ⟨rfl, hb'⟩
        refine ⟨a0, c0, M, M[i].y, rfl, rfl, rfl, pst_and (hK.below hb') fun W' hW' => ?_, hb'⟩
        exact ((hK.below hb') W' hW').2 _ (List.getElem_mem hi) |>.1
      · refine (put_old (h.st.below hb) o.t _ _ _ (ho.below (hB W hb)) on (hT W (hB W hb)).1 (hT W (hB W hb)).2 hc f2 (by rw [f4]; exact hord) (by rw [f4]; exact sm.1) (by rw [f4]; exact sm.2.1) (by rw [f4]; exact sm.2.2)).mono ?_
        rintro e w' ⟨v1, v2, v3, rfl, p4, hb'⟩
        rw [f4] at p4 ⊢
        obtain ⟨t2, e2, e3, e4⟩ := lt_of_own p4
        exact ⟨t2, by rw [e2], e3, e4, stq_stay h hb hb'⟩
/-- Set of both. -/
def SetPair (w0 w : World) (s m : Nat) (E : List (ByteArray × Nat)) (v : Value) (M : List KR) (o : LT) (Q : List KR → Prop) (z : Int) : Prop :=
  (∀ (F : Nat → Prop) W y, (∀ k, F k → k < W.heap.size) → Pst F W (fun W => IsKs W v M) → Below w.heap.size w W → y.t = o.t → Pst F W (fun W => IsTy W y.t y.vo y.va y.vc) → Calls Tryz.prog 19 #[.agg #[v], ltV y] W fun e w' => ∃ a c M', e = .returned (.tuple #[.agg #[.slice a (List.length M') c], .int .i64 z]) ∧ Q M' ∧ Pst F w' (fun W => IsKs W (.slice a M'.length c) M') ∧ Below W.heap.size W w') ∧
  (∀ W, Below w.heap.size w W → Calls Tryz.prog 20 #[stP s, ltV o] W fun e w' => e = .returned (.int .i64 z) ∧ StQ w0 s m E Q W w')
theorem set_pair {w0 w : World} {s m : Nat} {E : List (ByteArray × Nat)} {X : Nat → Kp} {v : Value} {M : List KR} (h : RS w0 w s m E X v M) (o : LT) (ho : IsTy w0 o.t o.vo o.va o.vc) (hk : oneB o.t = true) (hT : ∀ W, Below w0.heap.size w0 W → UT W ∧ ML W) :
    ∃ Q z, SetPair w0 w s m E v M o Q z := by
  obtain ⟨a0, c0, rfl⟩ := h.ks.get.1.form
  obtain ⟨n1, n2, n3⟩ := h.names
  obtain ⟨oq, on, os, o2⟩ := one_okQ hk
  have hB : ∀ W, Below w.heap.size w W → Below w0.heap.size w0 W := fun W hb => h.bel.trans (hb.mono h.bel.size)
  have hFW : ∀ W, Below w.heap.size w W → ∀ k, SF m E k → k < W.heap.size := fun W hb k hk => Nat.lt_of_lt_of_le (h.st.sf hk).2 hb.size
  have hR : ∀ W, Below w.heap.size w W → IsRow W 10 (.slice a0 M.length c0) M.length (kCells M) := fun W hb => (h.ks.below hb).get.1
  have hst : ∀ W w', Below w.heap.size w W → Below W.heap.size W w' → Pst (SF m E) w' fun W => IsKs W (.slice a0 M.length c0) M := fun W w' h1 h2 => h.ks.below (h1.trans (h2.mono h1.size))
  cases hc : chkT o.t with
  | false =>
    refine ⟨fun M' => M' = M, 1, fun F W y hFl hK hb hy hI => ?_, fun W hb => ?_⟩
    · refine (set17_bad _ M y W hK.get.1 (by omega) n3 hI.get (by rw [hy]; exact oq) (by rw [hy]; omega) (by rw [hy]; exact hc)).mono ?_
      rintro e w' ⟨rfl, hb'⟩
      exact ⟨a0, c0, M, rfl, rfl, hK.below hb', hb'⟩
    · refine (set_bad s o.t _ _ _ W (ho.below (hB W hb)) on (hT W (hB W hb)).1 (hT W (hB W hb)).2 hc).mono ?_
      rintro e w' ⟨rfl, hb'⟩
      exact ⟨rfl, stq_stay h hb hb'⟩
  | true =>
  rcases h.pl.find o.t.n with ⟨f1, f2⟩ | ⟨i, hi, g, f1, f2, f3, f4, f5, f6, f7⟩
  · by_cases hl : 200 ≤ E.length
    · refine ⟨fun M' => M' = M, 6, fun F W y hFl hK hb hy hI => ?_, fun W hb => ?_⟩
      · refine (set17_full _ M y W hK.get.1 (by omega) n3 hI.get (by rw [hy]; exact oq) (by rw [hy]; omega) (by rw [hy]; exact hc) (by rw [hy]; exact f2) (by rw [h.pl.len]; exact hl)).mono ?_
        rintro e w' ⟨rfl, hb'⟩
        exact ⟨a0, c0, M, rfl, rfl, hK.below hb', hb'⟩
      · refine (set_full (h.st.below hb) o.t _ _ _ (ho.below (hB W hb)) on (hT W (hB W hb)).1 (hT W (hB W hb)).2 hc f1 hl).mono ?_
        rintro e w' ⟨rfl, hb'⟩
        exact ⟨rfl, stq_stay h hb hb'⟩
    · refine ⟨fun M' => ∃ y : LT, y.t = o.t ∧ M' = wthR M (fndZ M o.t.n) ⟨y, false, [], none, 0⟩, 0, fun F W y hFl hK hb hy hI => ?_, fun W hb => ?_⟩
      · refine (set17_new _ M y W hK.get.1 (by omega) n1 hI.get (by rw [hy]; exact oq) (by rw [hy]; omega) (by rw [hy]; exact hc) (by rw [hy]; exact f2) (by rw [h.pl.len]; omega)).mono ?_
        rintro e w' ⟨a, c, rfl, hrow, hN, hb'⟩
        rw [hy] at hrow ⊢
        exact ⟨a, c, _, rfl, ⟨y, hy, rfl⟩, pst_wth hFl hK hb' (.inl f2) hrow hN (pst_and (hI.below hb') pst_nil), hb'⟩
      · refine (set_new0 (h.st.below hb) o.t _ _ _ (ho.below (hB W hb)) on (hT W (hB W hb)).1 (hT W (hB W hb)).2 hc f1 (Nat.le_trans h.bel.size hb.size) os.1 os.2.1 os.2.2 (by omega)).mono ?_
        rintro e w' ⟨g, rfl, p1, p2, p3⟩
        refine ⟨rfl, _, _, p1, stp_map p3 (stS_blk p2), Nat.le_trans (stS_len _ _ _) (by omega), ?_⟩
        rintro M' ⟨y, hy, rfl⟩
        have hn := h.pl.put_new (o := y) (g := g) (fun hm => by
          have := hFW W hb g (.inr hm)
          omega) (by rw [hy]; exact f1) (by rw [hy]; exact f2) (by rw [hy]; exact hk) (by rw [hy]; exact hc) (by rw [hy]; exact p1.mp.2) (by rw [hy]; exact p1.nd)
        rw [hy] at hn
        exact hn
  · obtain ⟨-, -, sm, -⟩ := one_okQ (h.pl.ok _ (List.getElem_mem hi)).1
    have hiT : ∀ W, Below w.heap.size w W → IsTy W M[i].y.t M[i].y.vo M[i].y.va M[i].y.vc := fun W hb => ((h.ks.below hb).get.2 _ (List.getElem_mem hi)).1
    cases hs : sameT M[i].y.t o.t with
    | true =>
      refine ⟨fun M' => M' = M, 0, fun F W y hFl hK hb hy hI => ?_, fun W hb => ?_⟩
      · refine (set17_same _ M y W hK.get.1 (by omega) n1 hI.get (by rw [hy]; exact oq) (by rw [hy]; omega) (by rw [hy]; exact os) (by rw [hy]; exact hc) i hi (by rw [hy]; exact f1) sm (hK.get.2 _ (List.getElem_mem hi)).1 (by rw [hy]; exact hs)).mono ?_
        rintro e w' ⟨rfl, hb'⟩
        exact ⟨a0, c0, M, rfl, rfl, hK.below hb', hb'⟩
      · refine (set_same (h.st.below hb) o.t _ _ _ (ho.below (hB W hb)) on os (hT W (hB W hb)).1 (hT W (hB W hb)).2 hc f2 (by rw [f4]; exact sm) (by rw [f4]; exact (sameT_iff _ _).1 hs)).mono ?_
        rintro e w' ⟨rfl, hb'⟩
        exact ⟨rfl, stq_stay h hb hb'⟩
    | false =>
      refine ⟨fun M' => ∃ y : LT, y.t = o.t ∧ M' = wthR M (i : Int) ⟨y, false, [], none, 0⟩, 0, fun F W y hFl hK hb hy hI => ?_, fun W hb => ?_⟩
      · refine (set17_over _ M y W hK.get.1 (by omega) n1 hI.get (by rw [hy]; exact oq) (by rw [hy]; omega) (by rw [hy]; exact os) (by rw [hy]; exact hc) i hi (by rw [hy]; exact f1) sm (hK.get.2 _ (List.getElem_mem hi)).1 (by rw [hy]; exact hs)).mono ?_
        rintro e w' ⟨a, c, rfl, hrow, hN, hb'⟩
        exact ⟨a, c, _, rfl, ⟨y, hy, rfl⟩, pst_wth hFl hK hb' (.inr ⟨i, rfl⟩) hrow hN (pst_and (hI.below hb') pst_nil), hb'⟩
      · refine (set_new1 (h.st.below hb) o.t _ _ _ (ho.below (hB W hb)) on os (hT W (hB W hb)).1 (hT W (hB W hb)).2 hc f2 (by rw [f4]; exact sm) (by rw [f4]; exact fun e => by rw [(sameT_iff _ _).2 e] at hs; cases hs) (Nat.le_trans h.bel.size hb.size)).mono ?_
        rintro e w' ⟨g', rfl, p1, p2, p3⟩
        refine ⟨rfl, _, _, p1, stp_map p3 (stS_blk p2), ?_, ?_⟩
        · have := congrArg List.length (stS_keys E (fldB o.t.n) g' (by rw [f2]; exact fun e => by cases e))
          simp only [List.length_map] at this
          rw [this]
          exact h.le
        · rintro M' ⟨y, hy, rfl⟩
          have hn := h.pl.put_over (o := y) (g := g') (fun hm => by
            have := hFW W hb g' (.inr hm)
            omega) hi (by rw [hy]; exact f3) (by rw [hy]; exact hk) (by rw [hy]; exact hc) (by rw [hy]; exact p1.nd)
          rw [hy] at hn
          exact hn
end Go.Proofs.YtlndgepoekllkaaGreatDoor
/- What Begin, Stored and Loosen leave of both. -/
namespace Go.Proofs.YtlndgepoekllkaaGreatDoor
open Go.RowKit Go.ChangeMaps

/-- Begin or Stored of both: what the calls are is left to f and g. -/
def SurePair (w0 w : World) (s m : Nat) (E : List (ByteArray × Nat)) (v : Value) (M : List KR) (f g : FuncId) (xs ys : Array Value) (Q : List KR → Prop) (D : Bool) (z : Int) : Prop :=
  (∀ (F : Nat → Prop) W, (∀ k, F k → k < W.heap.size) → (∀ k, F k → w0.heap.size ≤ k) → Pst F W (fun W => IsKs W v M) → Below w.heap.size w W → Calls Tryz.prog f xs W fun e w' => ∃ a c M', e = .returned (.agg #[.slice a (List.length M') c, .bool D, .int .i64 z]) ∧ Q M' ∧ Pst F w' (fun W => IsKs W (.slice a M'.length c) M') ∧ Below W.heap.size W w') ∧
  (∀ W, Below w.heap.size w W → Calls Tryz.prog g ys W fun e w' => e = .returned (.tuple #[.bool D, .int .i64 z]) ∧ StQ w0 s m E Q W w')
theorem begin_pair {w0 w : World} {s m : Nat} {E : List (ByteArray × Nat)} {X : Nat → Kp} {v : Value} {M : List KR} (h : RS w0 w s m E X v M) (n : ByteArray) (hn : n.size ≤ 200000) (lp : Option Addr) (lc : Nat) (l : List Int) (hl : IsRow w0 1 (.slice lp l.length lc) l.length (iCells l)) (hll : l.length ≤ 1000) (hT : ∀ W, Below w0.heap.size w0 W → UT W ∧ ML W) :
    ∃ Q D z, SurePair w0 w s m E v M 21 13 #[.agg #[v], .string n, .slice lp l.length lc] #[stP s, .string n, .slice lp l.length lc] Q D z := by
  obtain ⟨a0, c0, rfl⟩ := h.ks.get.1.form
  obtain ⟨n1, n2, n3⟩ := h.names
  have hB : ∀ W, Below w.heap.size w W → Below w0.heap.size w0 W := fun W hb => h.bel.trans (hb.mono h.bel.size)
  by_cases hP : NodesP l
  rotate_left
  · refine ⟨fun M' => M' = M, false, 1, fun F W hFl hlo hK hb => ?_, fun W hb => ?_⟩
    · refine (begin17_bad _ _ M n l W hK.get.1 (by omega) n3 (by omega) (hl.below (hB W hb)) (by omega) (nodesB_false hP)).mono ?_
      rintro e w' ⟨rfl, hb'⟩
      exact ⟨a0, c0, M, rfl, rfl, hK.below hb', hb'⟩
    · refine (begin_bad W s n _ l (hl.below (hB W hb)) (by omega) hP).mono ?_
      rintro e w' ⟨rfl, rfl⟩
      exact ⟨rfl, stq_stay h hb (Below.refl _ _)⟩
  rcases h.pl.find n with ⟨f1, f2⟩ | ⟨i, hi, g, f1, f2, f3, f4, f5, f6, f7⟩
  · refine ⟨fun M' => M' = M, false, 4, fun F W hFl hlo hK hb => ?_, fun W hb => ?_⟩
    · refine (begin17_none _ _ M n l W hK.get.1 (by omega) n3 (by omega) (hl.below (hB W hb)) (by omega) (nodesB_true hP) f2).mono ?_
      rintro e w' ⟨rfl, hb'⟩
      exact ⟨a0, c0, M, rfl, rfl, hK.below hb', hb'⟩
    · refine (begin_none (h.st.below hb) n (by omega) f1 _ l (hl.below (hB W hb)) (by omega) hP (hT W (hB W hb)).1).mono ?_
      rintro e w' ⟨rfl, hb'⟩
      exact ⟨rfl, stq_stay h hb hb'⟩
  · refine ⟨fun M' => M' = wthR M (i : Int) ⟨M[i].y, decide (l.length = 0), l, lp, lc⟩, decide (l.length = 0), 0, fun F W hFl hlo hK hb => ?_, fun W hb => ?_⟩
    · refine (begin17_new _ _ M n l W hK.get.1 (by omega) n1 (by omega) (hl.below (hB W hb)) (by omega) (nodesB_true hP) i hi f1 lp lc rfl).mono ?_
      rintro e w' ⟨a, c, rfl, hrow, hN, hb'⟩
      refine ⟨a, c, _, rfl, rfl, pst_wth hFl hK hb' (.inr ⟨i, rfl⟩) hrow hN (pst_and (fun W' hW' => ((hK.below hb') W' hW').2 _ (List.getElem_mem hi) |>.1) ?_), hb'⟩
      exact pst_arg hlo hl (hl.below ((hB W hb).trans (hb'.mono (hB W hb).size)))
    · have hd : decide (l.length = 0) = decide (l = []) := by
        rw [Bool.eq_iff_iff, decide_eq_true_eq, decide_eq_true_eq]
        exact List.length_eq_zero_iff
      refine (begin_new (h.st.below hb) n (by omega) f2 _ l (hl.below (hB W hb)) (by omega) hP (fun hne p a c e => by
        obtain ⟨b, off, cap, hv, hlt, -⟩ := hl.open (by have := List.length_pos_iff.2 hne; omega)
        rw [hv] at e
        cases e
        have := (h.st.sf (.inr (lk_blk f2))).1
        exact fun e => by dsimp only at e; omega) (hT W (hB W hb)).1).mono ?_
      rintro e w' ⟨rfl, p1, p2⟩
      refine ⟨by rw [hd], E, _, p1, stp_sf p2 fun k hk => .inr (by rw [hk]; exact lk_blk f2), h.le, ?_⟩
      rintro M' rfl
      have ht := h.pl.told hi (g := g) (by rw [f3]; exact f2) (D := decide (l.length = 0)) lp lc hP
      rw [hd] at ht ⊢
      exact ht
theorem stored_pair {w0 w : World} {s m : Nat} {E : List (ByteArray × Nat)} {X : Nat → Kp} {v : Value} {M : List KR} (h : RS w0 w s m E X v M) (n : ByteArray) (hn : n.size ≤ 200000) (a b c N : Int) (hT : ∀ W, Below w0.heap.size w0 W → UT W ∧ ML W) :
    ∃ Q D z, SurePair w0 w s m E v M 22 14 #[.agg #[v], .string n, idV a b c, .int .i64 N] #[stP s, .string n, idV a b c, .int .i64 N] Q D z := by
  obtain ⟨a0, c0, rfl⟩ := h.ks.get.1.form
  obtain ⟨n1, n2, n3⟩ := h.names
  have hB : ∀ W, Below w.heap.size w W → Below w0.heap.size w0 W := fun W hb => h.bel.trans (hb.mono h.bel.size)
  rcases h.pl.find n with ⟨f1, f2⟩ | ⟨i, hi, g, f1, f2, f3, f4, f5, f6, f7⟩
  · refine ⟨fun M' => M' = M, false, 4, fun F W hFl hlo hK hb => ?_, fun W hb => ?_⟩
    · refine (stored17_no _ M n a b c N W hK.get.1 (by omega) n1 (by omega) f2).mono ?_
      rintro e w' ⟨rfl, hb'⟩
      exact ⟨a0, c0, M, rfl, rfl, hK.below hb', hb'⟩
    · refine (stored_none (h.st.below hb) n (by omega) f1 a b c N (hT W (hB W hb)).1).mono ?_
      rintro e w' ⟨rfl, hb'⟩
      exact ⟨rfl, stq_stay h hb hb'⟩
  have hwl : M[i].l.length ≤ 1000 := by have := nodes_len f7; omega
  by_cases hb3 : M[i].y.t.nd = a ∧ M[i].y.t.lf = b ∧ M[i].y.t.sq = c
  rotate_left
  · refine ⟨fun M' => M' = M, false, 4, fun F W hFl hlo hK hb => ?_, fun W hb => ?_⟩
    · have key : Calls Tryz.prog 22 #[.agg #[.slice a0 M.length c0], .string n, idV a b c, .int .i64 N] W fun e w' => e = .returned (.agg #[.slice a0 M.length c0, .bool false, .int .i64 4]) ∧ Below W.heap.size W w' := by
        by_cases e1 : M[i].y.t.nd = a
        · by_cases e2 : M[i].y.t.lf = b
          · exact stored17_by3 _ M n a b c N W hK.get.1 (by omega) n1 (by omega) i hi f1 e1 e2 fun e3 => hb3 ⟨e1, e2, e3⟩
          · exact stored17_by2 _ M n a b c N W hK.get.1 (by omega) n1 (by omega) i hi f1 e1 e2
        · exact stored17_by1 _ M n a b c N W hK.get.1 (by omega) n1 (by omega) i hi f1 e1
      refine key.mono ?_
      rintro e w' ⟨rfl, hb'⟩
      exact ⟨a0, c0, M, rfl, rfl, hK.below hb', hb'⟩
    · refine (stored_other (h.st.below hb) n (by omega) f2 a b c N (by rw [f4]; exact hb3) (hT W (hB W hb)).1).mono ?_
      rintro e w' ⟨rfl, hb'⟩
      exact ⟨rfl, stq_stay h hb hb'⟩
  have hid : idV (X g).t.nd (X g).t.lf (X g).t.sq = idV a b c := by rw [f4, hb3.1, hb3.2.1, hb3.2.2]
  by_cases hm : N ∈ M[i].l
  rotate_left
  · refine ⟨fun M' => M' = M, false, 4, fun F W hFl hlo hK hb => ?_, fun W hb => ?_⟩
    · refine (stored17_has _ M n a b c N W hK.get.1 (by omega) n1 (by omega) i hi f1 hb3 (hK.get.2 _ (List.getElem_mem hi)).2 hwl hm).mono ?_
      rintro e w' ⟨rfl, hb'⟩
      exact ⟨a0, c0, M, rfl, rfl, hK.below hb', hb'⟩
    · have key := stored_no (h.st.below hb) n (by omega) f2 N (hT W (hB W hb)).1 (by rw [f6, isN_in f7]; exact decide_eq_false hm)
      rw [hid] at key
      refine key.mono ?_
      rintro e w' ⟨rfl, hb'⟩
      exact ⟨rfl, stq_stay h hb hb'⟩
  · refine ⟨fun M' => ∃ va vc, M' = wthR M (i : Int) ⟨M[i].y, decide ((witho M[i].l N).length = 0), witho M[i].l N, va, vc⟩, decide ((witho M[i].l N).length = 0), 0, fun F W hFl hlo hK hb => ?_, fun W hb => ?_⟩
    · refine (stored17_yes _ M n a b c N W hK.get.1 (by omega) n1 (by omega) i hi f1 hb3 (hK.get.2 _ (List.getElem_mem hi)).2 hwl hm).mono ?_
      rintro e w' ⟨va, vc, ⟨a', c', rfl, hrow, hN, hb'⟩, hwv, hNv⟩
      exact ⟨a', c', _, rfl, ⟨va, vc, rfl⟩, pst_wth hFl hK hb' (.inr ⟨i, rfl⟩) hrow hN (pst_and (fun W' hW' => ((hK.below hb') W' hW').2 _ (List.getElem_mem hi) |>.1) (pst_new hFl hwv hNv)), hb'⟩
    · have hnm := nodes_mem f7 hm
      have hN0 : ((N.toNat : Nat) : Int) = N := by omega
      have key := stored_yes (h.st.below hb) n (by omega) f2 N (hT W (hB W hb)).1 (isN_of hnm.1 hnm.2) (by rw [f6]; unfold inW; rw [hN0]; exact decide_eq_true hm)
      have hu : updW (X g).f N.toNat false = inW (witho M[i].l N) := by rw [f6, updW_witho, hN0]
      have hw := witho_nodes f7 N
      have hd : (!anyW (inW (witho M[i].l N))) = decide ((witho M[i].l N).length = 0) := by
        rw [anyW_inW hw, Bool.eq_iff_iff, decide_eq_true_eq, decide_eq_true_eq]
        exact List.length_eq_zero_iff.symm
      rw [hid, hu, hd] at key
      refine key.mono ?_
      rintro e w' ⟨rfl, p1, p2⟩
      refine ⟨rfl, E, _, p1, stp_sf p2 fun k hk => .inr (by rw [hk]; exact lk_blk f2), h.le, ?_⟩
      rintro M' ⟨va, vc, rfl⟩
      exact h.pl.told hi (g := g) (by rw [f3]; exact f2) va vc hw
theorem loosen_st {w0 w : World} {s m : Nat} {E : List (ByteArray × Nat)} {X : Nat → Kp} {v : Value} {M : List KR} (h : RS w0 w s m E X v M) {W : World} (hb : Below w.heap.size w W) (hk : ∀ p ∈ E, p.1.size ≤ 1000000) :
    Calls Tryz.prog 23 #[stP s] W fun e w' => e = .returned (.tuple #[]) ∧ StQ w0 s m E (fun M' => M' = M.map lsR) W w' ∧ Stp W (SF m E) (SF m E) w' := by
  refine (loosen_any (h.st.below hb) hk (by have := h.le; omega)).mono ?_
  rintro e w' ⟨rfl, X', p1, p2, p3⟩
  have hs : Stp W (SF m E) (SF m E) w' := stp_sf p3 fun k hk => by
    obtain ⟨p, hp, rfl⟩ := hk
    exact .inr (List.mem_map.2 ⟨p, hp, rfl⟩)
  exact ⟨rfl, ⟨E, X', p1, hs, h.le, fun M' e => by rw [e]; exact h.pl.loosen p2⟩, hs⟩
end Go.Proofs.YtlndgepoekllkaaGreatDoor
