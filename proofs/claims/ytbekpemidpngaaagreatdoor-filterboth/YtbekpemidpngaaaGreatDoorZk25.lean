/- FilterBoth: a row of predicates behind another, the mathematics, the law's walk. -/
import Derived.Test.YtbekpemidpngaaaGreatDoorZk23
import Derived.Test.YtbekpemidpngaaaGreatDoorZk24
import Derived.Lib.AppendZeros
import Derived.Maps.AppendAt
namespace Go.Proofs.YtbekpemidpngaaaGreatDoor
open Go.RowKit Go.ChangeMaps

theorem run_app0P {P : Program} (w : World) (t ty e : TypeId) (i : TypeInfo) (ht : P.underlying t = some (.slice e)) (hi : P.info? e = some i) (a : Option Addr) (n c : Nat) (hc : n ≤ c) (xa : Option Addr) (xc : Nat) :
    (Builtin.append_ #[t, t] ty #[.slice a n c, .slice xa 0 xc]).run P w = .ok (.slice a n c) w := by
  have hs : (sizeOf e).run P w = .ok i.size w := by simp [sizeOf, typeInfo, hi, Sem.run_bind]
  cases xa <;> cases a <;> simp [Builtin.append_, run_underlying ht, hs, Builtin.lenOf, Builtin.firstCells, loadCells, loadCellsFrom, storeCells, Result.andThen, hc]
theorem oneP_cell (l : List PR) : ∀ u ∈ pCells l, u.oneCell' = true := by
  intro u hu
  obtain ⟨x, -, hx⟩ := List.mem_flatMap.1 hu
  simp only [enP, List.mem_cons, List.not_mem_nil, or_false] at hx
  rcases hx with rfl | rfl | rfl <;> rfl
theorem pCells_app (a b : List PR) : pCells (a ++ b) = pCells a ++ pCells b := by simp [pCells]
/-- A row of predicates is appended to one that is owned. -/
theorem wpl_prs (w : World) {ops : Array Oper} {rest : List Oper} {o : Oper} {a : Act} {Q : Exit → Act → World → Prop} (hgd : o.guard = none) (s x : Operand)
    (ho : o.op = .call { callee := .builtin .append, args := #[s, x], argTypes := #[22, 22] })
    (base : Nat) (v xv : Value) (l news : List PR) (hs : a.eval s = v) (hx : a.eval x = xv) (h : w.ownsRow base 45 3 v l.length (pCells l)) (hr : IsRow w 3 xv news.length (pCells news)) (hl : l.length + news.length ≤ 1000000) (hbase : base ≤ w.heap.size)
    (hk : ∀ v' w', w'.ownsRow base 45 3 v' (l ++ news).length (pCells (l ++ news)) → Below base w w' → wpList Tryz.prog ops Q rest (a.put o.dst v') w') : wpList Tryz.prog ops Q (o :: rest) a w := by
  obtain ⟨i0, hi0, hz0, hz1, hz2⟩ := info_parts info_pr
  rcases hr.2 with ⟨h0, xa, xc, rfl⟩ | ⟨b, off, cap, rfl, hb, hc, hm, hcell⟩
  · refine wpList_plain hgd fun K hK => ?_
    have hn : news = [] := List.eq_nil_of_length_eq_zero h0
    subst hn
    have hv : ∃ va vc, v = .slice va l.length vc ∧ l.length ≤ vc := by
      rcases h.2 with ⟨rfl, h1⟩ | ⟨g, cap, cur, rfl, _, _, hlc, _⟩
      · rw [h1]; exact ⟨none, 0, rfl, Nat.le_refl _⟩
      · exact ⟨_, cap, rfl, hlc⟩
    obtain ⟨va, vc, rfl, hvc⟩ := hv
    have hrun := run_app0P (P := Tryz.prog) w 22 o.type 45 i0 Tryz.underlying22 hi0 va l.length vc hvc xa xc
    unfold Oper.wp execOp
    simp only [ho, resolve, invoke, builtin, Sem.run_bind, Sem.run_pure, Result.andThen_ok, List.map_toArray, List.map_cons, List.map_nil, hs, hx, hrun]
    exact hK _ _ (hk _ w (by rw [List.append_nil]; exact h) (Below.refl _ _))
  · refine wpList_append_own_at w hgd s x 22 ho base 45 i0 _ 3 48 Tryz.underlying22 hi0 hz0 hz1 hz2 rfl (by decide) v l.length (pCells l) hs h ⟨b, off, none⟩ news.length cap (pCells news) hx (pCells_len _) (fun j u hu => ?_) (oneP_cell _) (by unfold maxLen; omega) (by omega) hbase fun v' w' h1 h2 _ h4 => hk v' w' ?_ ?_
    · have hadd : (⟨b, off, none⟩ : Addr).add j = ⟨b, off + j, none⟩ := by unfold Addr.add; split <;> simp_all
      rw [hadd]; exact hcell j u hu
    · rw [List.length_append, pCells_app]; exact h1
    · exact (Below.refl _ _).grown h2 hbase (fun k hk => (h.lt k hk).1)
theorem few8_nm {D : List Pd} (h : few8 D = true) : D.length ≤ 21 ∧ ∀ y ∈ D, NmP y := by
  unfold few8 at h
  rw [Bool.and_eq_true, decide_eq_true_eq, List.all_eq_true] at h
  refine ⟨h.1, fun y hy => ?_⟩
  have h1 := h.2 y hy
  unfold okP at h1
  rw [Bool.and_eq_true, Bool.and_eq_true, decide_eq_true_eq, decide_eq_true_eq, List.all_eq_true] at h1
  exact ⟨by omega, by omega, fun x hx => by have := of_decide_eq_true (h1.2.2 x hx); omega⟩
theorem fewA_nm {A : List At} (h : fewA A = true) : A.length ≤ 41 ∧ NmA A := by
  have h1 := of_decide_eq_true h
  refine ⟨?_, ?_⟩
  · by_cases hl : A.length ≤ 41
    · exact hl
    · have := (h1 41 (by omega)).1
      omega
  · intro x hx
    obtain ⟨i, hi, rfl⟩ := List.mem_iff_getElem.1 hx
    have := h1 i hi
    obtain ⟨q1, q2, q3⟩ := this
    exact ⟨by omega, by omega⟩
theorem chk_app {D E : List Pd} (h1 : chkFl D = true) (h2 : chkFl E = true) (h : D.length + E.length ≤ 12) : chkFl (D ++ E) = true := by
  unfold chkFl at h1 h2 ⊢
  rw [Bool.and_eq_true] at h1 h2 ⊢
  rw [List.length_append, List.all_append, Bool.and_eq_true]
  exact ⟨decide_eq_true h, h1.2, h2.2⟩
theorem lets_app {D E : List Pd} (A : List At) (h1 : chkFl D = true) (h2 : chkFl E = true) (h : D.length + E.length ≤ 12) : letsB (D ++ E) A = (letsB D A && letsB E A) := by
  unfold letsB
  rw [chk_app h1 h2 h, h1, h2, List.all_append]
  cases chkA A <;> simp
theorem lets_nil (A : List At) : letsB [] A = chkA A := by
  unfold letsB
  rw [show chkFl [] = true from rfl]
  simp
theorem fl_app {w : World} {v u : Value} {F G : List PR} (hf : IsFl w v F) (hg : IsFl w u G) : ∀ x ∈ F ++ G, IsRow w 3 x.v x.y.l.length (itCells x.y.l) := fun x hx => by
  rcases List.mem_append.1 hx with h | h
  · exact hf.2 x h
  · exact hg.2 x h
/-- A row of its own that holds no predicate yet. -/
theorem own0P (w : World) : (w.alloc (.cells #[] 45)).ownsRow w.heap.size 45 3 (.slice (some ⟨w.heap.size, 0, none⟩) 0 0) ([] : List PR).length (pCells []) := ⟨rfl, .inr ⟨w.heap.size, 0, #[], rfl, Nat.le_refl _, new_at w _, Nat.le_refl _, Nat.zero_le _, rfl, rfl⟩⟩
set_option maxRecDepth 100000 in
set_option maxHeartbeats 4000000 in
theorem filterBoth_walk (u1 : Value) (F : List PR) (u2 : Value) (G : List PR) (u3 : Value) (A : List At) (w : World) (hf : IsFl w u1 F) (hfl : F.length ≤ 140737488355328) (hfL : ∀ x ∈ F, x.y.l.length ≤ 140737488355328) (hg : IsFl w u2 G) (hgl : G.length ≤ 140737488355328) (hgL : ∀ x ∈ G, x.y.l.length ≤ 140737488355328)
    (ha : IsRow w 4 u3 A.length (aCells A)) (hal : A.length ≤ 140737488355328) (hW : W8 w) :
    Calls Tryz.prog 5 #[u1, u2, u3] w fun e w' => e = .returned (.bool true) ∧ Below w.heap.size w w' := by
  obtain ⟨a1, k1, rfl⟩ := hf.1.form
  obtain ⟨a2, k2, rfl⟩ := hg.1.form
  obtain ⟨a3, k3, rfl⟩ := ha.form
  obtain ⟨D, hD⟩ : ∃ D, F.map (·.y) = D := ⟨_, rfl⟩
  obtain ⟨E, hE⟩ : ∃ E, G.map (·.y) = E := ⟨_, rfl⟩
  have hDl : D.length = F.length := by rw [← hD, List.length_map]
  have hEl : E.length = G.length := by rw [← hE, List.length_map]
  have HFew1 : Hid (Calls Tryz.prog 7 #[.slice a1 F.length k1] w fun e w' => e = .returned (.bool (few8 D)) ∧ w' = w) := by rw [← hD]; exact few8_any _ F w hf hfl hfL
  have HFew2 : Hid (Calls Tryz.prog 7 #[.slice a2 G.length k2] w fun e w' => e = .returned (.bool (few8 E)) ∧ w' = w) := by rw [← hE]; exact few8_any _ G w hg hgl hgL
  have HFew3 : Hid (Calls Tryz.prog 18 #[.slice a3 A.length k3] w fun e w' => e = .returned (.bool (fewA A)) ∧ w' = w) := fewA_any _ A w ha hal
  have HAw : Hid (∀ W, Below w.heap.size w W → Calls Tryz.prog 9 #[] W fun e w' => e = .returned (.bool true) ∧ Below W.heap.size W w') := fun W hb => awake8_any W (hW.below hb)
  have HF : Hid (∀ W, Below w.heap.size w W → IsFl W (.slice a1 F.length k1) F) := fun W hb => hf.below hb
  have HG : Hid (∀ W, Below w.heap.size w W → IsFl W (.slice a2 G.length k2) G) := fun W hb => hg.below hb
  have HA : Hid (∀ W, Below w.heap.size w W → IsRow W 4 (.slice a3 A.length k3) A.length (aCells A)) := fun W hb => ha.below hb
  have HW : Hid (∀ W, Below w.heap.size w W → W8 W) := fun W hb => hW.below hb
  obtain ⟨X1, hX1⟩ : ∃ X, Hid (few8 D = X) := ⟨_, rfl⟩
  obtain ⟨X2, hX2⟩ : ∃ X, Hid (few8 E = X) := ⟨_, rfl⟩
  obtain ⟨X3, hX3⟩ : ∃ X, Hid (fewA A = X) := ⟨_, rfl⟩
  rw [hX1.out] at HFew1
  rw [hX2.out] at HFew2
  rw [hX3.out] at HFew3
  have HDl : Hid (D.length = F.length) := hDl
  have HEl : Hid (E.length = G.length) := hEl
  have HD : Hid (F.map (·.y) = D) := hD
  have HE : Hid (G.map (·.y) = E) := hE
  clear hf hg ha hW hDl hEl hD hE hfL hgL
  go_enter Tryz.func5, Tryz.ntmps5
  go_wp2_with fail
  refine HFew1.out.mono ?_
  rintro e w1 ⟨rfl, rfl⟩
  clear HFew1
  cases X1 with
  | false =>
    go_wp2_with fail
    refine (HAw.out _ (Below.refl _ _)).mono ?_
    rintro e w9 ⟨rfl, hb⟩
    have HB9 : Hid (Below w1.heap.size w1 w9) := hb
    clear hb
    go_wp2
    go_ret
    exact ⟨rfl, HB9.out⟩
  | true =>
  go_wp2_with fail
  refine HFew2.out.mono ?_
  rintro e w2 ⟨rfl, rfl⟩
  clear HFew2
  cases X2 with
  | false =>
    go_wp2_with fail
    refine (HAw.out _ (Below.refl _ _)).mono ?_
    rintro e w9 ⟨rfl, hb⟩
    have HB9 : Hid (Below w2.heap.size w2 w9) := hb
    clear hb
    go_wp2
    go_ret
    exact ⟨rfl, HB9.out⟩
  | true =>
  go_wp2_with fail
  refine HFew3.out.mono ?_
  rintro e w ⟨rfl, rfl⟩
  clear HFew3
  cases X3 with
  | false =>
    go_wp2_with fail
    refine (HAw.out _ (Below.refl _ _)).mono ?_
    rintro e w9 ⟨rfl, hb⟩
    have HB9 : Hid (Below w.heap.size w w9) := hb
    clear hb
    go_wp2
    go_ret
    exact ⟨rfl, HB9.out⟩
  | true =>
  have hd1 := few8_nm hX1.out
  have hd2 := few8_nm hX2.out
  have hd3 := fewA_nm hX3.out
  have HN1 : Hid (∀ y ∈ D, NmP y) := hd1.2
  have HN2 : Hid (∀ y ∈ E, NmP y) := hd2.2
  have HN3 : Hid (NmA A) := hd3.2
  have hL1 : F.length ≤ 21 := by rw [← HDl.out]; exact hd1.1
  have hL2 : G.length ≤ 21 := by rw [← HEl.out]; exact hd2.1
  have hL3 : A.length ≤ 41 := hd3.1
  clear hd1 hd2 hd3 hX1 hX2 hX3 hfl hgl hal
  have AW9 : Hid (∀ W, Below w.heap.size w W → Calls Tryz.prog 9 #[] W fun e w' => e = .returned (.bool true) ∧ Below w.heap.size w w') := fun W hb => (HAw.out W hb).mono (by rintro e w' ⟨rfl, h⟩; exact ⟨rfl, hb.trans (h.mono hb.size)⟩)
  by_cases h12 : 12 < F.length + G.length
  · have d12 : decide ((12 : Int) < (F.length : Int) + (G.length : Int)) = true := by simp; omega
    go_wp2_with fail
    refine (AW9.out _ (Below.refl _ _)).mono ?_
    rintro e w9 ⟨rfl, hb⟩
    have HB9 : Hid (Below w.heap.size w w9) := hb
    clear hb
    go_wp2
    go_ret
    exact ⟨rfl, HB9.out⟩
  have d12 : decide ((12 : Int) < (F.length : Int) + (G.length : Int)) = false := by simp; omega
  have HC1 : Hid (Calls Tryz.prog 10 #[.slice a1 F.length k1] w fun e w' => e = .returned (.bool (chkFl D)) ∧ Below w.heap.size w w') := checkP_any _ F D w (HF.out w (Below.refl _ _)) HD.out (by omega) HN1.out (HW.out w (Below.refl _ _)).f.u
  have HC2 : Hid (∀ W, Below w.heap.size w W → Calls Tryz.prog 10 #[.slice a2 G.length k2] W fun e w' => e = .returned (.bool (chkFl E)) ∧ Below W.heap.size W w') := fun W hb => checkP_any _ G E W (HG.out W hb) HE.out (by omega) HN2.out (HW.out W hb).f.u
  obtain ⟨Y1, hY1⟩ : ∃ X, Hid (chkFl D = X) := ⟨_, rfl⟩
  obtain ⟨Y2, hY2⟩ : ∃ X, Hid (chkFl E = X) := ⟨_, rfl⟩
  rw [hY1.out] at HC1
  rw [hY2.out] at HC2
  go_wp2_with fail
  refine HC1.out.mono ?_
  rintro e w1 ⟨rfl, hb⟩
  have B1 : Hid (Below w.heap.size w w1) := hb
  clear hb HC1
  cases Y1 with
  | false =>
    go_wp2_with fail
    refine (AW9.out _ B1.out).mono ?_
    rintro e w9 ⟨rfl, hb⟩
    have HB9 : Hid (Below w.heap.size w w9) := hb
    clear hb
    go_wp2
    go_ret
    exact ⟨rfl, HB9.out⟩
  | true =>
  go_wp2_with fail
  refine (HC2.out w1 B1.out).mono ?_
  rintro e w2 ⟨rfl, hb⟩
  have B2 : Hid (Below w.heap.size w w2) := B1.out.trans (hb.mono B1.out.size)
  clear hb HC2
  cases Y2 with
  | false =>
    go_wp2_with fail
    refine (AW9.out _ B2.out).mono ?_
    rintro e w9 ⟨rfl, hb⟩
    have HB9 : Hid (Below w.heap.size w w9) := hb
    clear hb
    go_wp2
    go_ret
    exact ⟨rfl, HB9.out⟩
  | true =>
  have HO4 : Hid ((w2.alloc (.cells #[] 45)).ownsRow w2.heap.size 45 3 (.slice (some ⟨w2.heap.size, 0, none⟩) 0 0) ([] : List PR).length (pCells [])) := own0P w2
  have BA4 : Hid (Below w2.heap.size w2 (w2.alloc (.cells #[] 45))) := al_b _ _
  have HR4 : Hid (IsRow (w2.alloc (.cells #[] 45)) 3 (.slice a1 F.length k1) F.length (pCells F)) := (HF.out _ (B2.out.trans ((al_b w2 _).mono B2.out.size))).1
  go_wp2_with (at_builtin; first
    | (refine wpl_prs _ (by rfl) (.tmp 42) (.tmp 43) (by rfl) w2.heap.size (.slice (some ⟨w2.heap.size, 0, none⟩) 0 0) (.slice a1 F.length k1) [] F (by rfl) (by rfl) HO4.out HR4.out (by simp; omega) (by simp) ?_
       intro v4 w4 hown hb
       rw [List.nil_append] at hown
       have HO5 : Hid (w4.ownsRow w2.heap.size 45 3 v4 F.length (pCells F)) := hown
       have BB4 : Hid (Below w2.heap.size w2 w4) := BA4.out.trans hb
       have HR5 : Hid (IsRow w4 3 (.slice a2 G.length k2) G.length (pCells G)) := (HG.out _ (B2.out.trans (BB4.out.mono B2.out.size))).1
       clear hown hb HO4 HR4 BA4)
    | (refine wpl_prs _ (by rfl) (.tmp 44) (.tmp 45) (by rfl) w2.heap.size v4 (.slice a2 G.length k2) F G (by rfl) (by rfl) HO5.out HR5.out (by omega) BB4.out.size ?_
       intro v5 w5 hown hb
       obtain ⟨q5, z5, hv5⟩ := (IsRow.own hown).form
       subst hv5
       have B5 : Hid (Below w.heap.size w w5) := B2.out.trans ((BB4.out.trans hb).mono B2.out.size)
       have HQ5 : Hid (IsRow w5 3 (.slice q5 (F ++ G).length z5) (F ++ G).length (pCells (F ++ G))) := IsRow.own hown
       rw [List.length_append]
       clear hown hb HO5 HR5 BB4
       have HO6 : Hid ((w5.alloc (.cells #[] 45)).ownsRow w5.heap.size 45 3 (.slice (some ⟨w5.heap.size, 0, none⟩) 0 0) ([] : List PR).length (pCells [])) := own0P w5
       have BA6 : Hid (Below w5.heap.size w5 (w5.alloc (.cells #[] 45))) := al_b _ _
       have HR6 : Hid (IsRow (w5.alloc (.cells #[] 45)) 3 (.slice a2 G.length k2) G.length (pCells G)) := (HG.out _ (B5.out.trans ((al_b w5 _).mono B5.out.size))).1)
    | (refine wpl_prs _ (by rfl) (.tmp 47) (.tmp 48) (by rfl) w5.heap.size (.slice (some ⟨w5.heap.size, 0, none⟩) 0 0) (.slice a2 G.length k2) [] G (by rfl) (by rfl) HO6.out HR6.out (by simp; omega) (by simp) ?_
       intro v6 w6 hown hb
       rw [List.nil_append] at hown
       have HO7 : Hid (w6.ownsRow w5.heap.size 45 3 v6 G.length (pCells G)) := hown
       have BB6 : Hid (Below w5.heap.size w5 w6) := BA6.out.trans hb
       have HR7 : Hid (IsRow w6 3 (.slice a1 F.length k1) F.length (pCells F)) := (HF.out _ (B5.out.trans (BB6.out.mono B5.out.size))).1
       clear hown hb HO6 HR6 BA6)
    | (refine wpl_prs _ (by rfl) (.tmp 49) (.tmp 50) (by rfl) w5.heap.size v6 (.slice a1 F.length k1) G F (by rfl) (by rfl) HO7.out HR7.out (by omega) BB6.out.size ?_
       intro v7 w7 hown hb
       obtain ⟨q7, z7, hv7⟩ := (IsRow.own hown).form
       subst hv7
       have B57 : Hid (Below w5.heap.size w5 w7) := BB6.out.trans hb
       have B7 : Hid (Below w.heap.size w w7) := B5.out.trans ((BB6.out.trans hb).mono B5.out.size)
       have HQ7 : Hid (IsRow w7 3 (.slice q7 (G ++ F).length z7) (G ++ F).length (pCells (G ++ F))) := IsRow.own hown
       rw [List.length_append]
       clear hown hb HO7 HR7 BB6))
  have hf7 : IsFl w7 (.slice q5 (F.length + G.length) z5) (F ++ G) := by
    refine ⟨?_, fl_app (HF.out w7 B7.out) (HG.out w7 B7.out)⟩
    have h1 := HQ5.out.below B57.out
    rw [show (F ++ G).length = F.length + G.length from List.length_append] at h1 ⊢
    exact h1
  have hg7 : IsFl w7 (.slice q7 (G.length + F.length) z7) (G ++ F) := by
    refine ⟨?_, fl_app (HG.out w7 B7.out) (HF.out w7 B7.out)⟩
    have h1 := HQ7.out
    rw [show (G ++ F).length = G.length + F.length from List.length_append] at h1 ⊢
    exact h1
  have m1 : (F ++ G).map (·.y) = D ++ E := by rw [List.map_append, HD.out, HE.out]
  have m2 : (G ++ F).map (·.y) = E ++ D := by rw [List.map_append, HD.out, HE.out]
  have l1 : (F ++ G).length ≤ 1000000 := by rw [List.length_append]; omega
  have l2 : (G ++ F).length ≤ 1000000 := by rw [List.length_append]; omega
  have n1 : ∀ y ∈ D ++ E, NmP y := fun y hy => (List.mem_append.1 hy).elim (HN1.out y) (HN2.out y)
  have n2 : ∀ y ∈ E ++ D, NmP y := fun y hy => (List.mem_append.1 hy).elim (HN2.out y) (HN1.out y)
  have c1 := chk_app hY1.out hY2.out (by rw [HDl.out, HEl.out]; omega)
  have g1 := lets_app A hY1.out hY2.out (by rw [HDl.out, HEl.out]; omega)
  have g2 := lets_app A hY2.out hY1.out (by rw [HDl.out, HEl.out]; omega)
  have hz : F.length = 0 → G.length = 0 → letsB D A = chkA A ∧ letsB E A = chkA A := fun h1 h2 => by
    rw [List.eq_nil_of_length_eq_zero (by rw [HDl.out]; exact h1 : D.length = 0), List.eq_nil_of_length_eq_zero (by rw [HEl.out]; exact h2 : E.length = 0), lets_nil]
    exact ⟨rfl, rfl⟩
  have HZ : Hid (F.length = 0 → G.length = 0 → letsB D A = chkA A ∧ letsB E A = chkA A) := hz
  have bw : ∀ W, Below w7.heap.size w7 W → Below w.heap.size w W := fun W h => B7.out.trans (h.mono B7.out.size)
  have HLf : Hid (∀ W, Below w7.heap.size w7 W → Calls Tryz.prog 22 #[.slice a1 F.length k1, .slice a3 A.length k3] W fun e w' => e = .returned (.bool (letsB D A)) ∧ Below w7.heap.size w7 w') := fun W h => by
    have h0 := lets_any _ F D _ A W (HF.out W (bw W h)) HD.out (by omega) HN1.out (HA.out W (bw W h)) (by omega) HN3.out (HW.out W (bw W h)).f.u (HW.out W (bw W h)).m
    exact h0.mono (by rintro e w' ⟨rfl, hc⟩; exact ⟨rfl, h.trans (hc.mono h.size)⟩)
  have HLg : Hid (∀ W, Below w7.heap.size w7 W → Calls Tryz.prog 22 #[.slice a2 G.length k2, .slice a3 A.length k3] W fun e w' => e = .returned (.bool (letsB E A)) ∧ Below w7.heap.size w7 w') := fun W h => by
    have h0 := lets_any _ G E _ A W (HG.out W (bw W h)) HE.out (by omega) HN2.out (HA.out W (bw W h)) (by omega) HN3.out (HW.out W (bw W h)).f.u (HW.out W (bw W h)).m
    exact h0.mono (by rintro e w' ⟨rfl, hc⟩; exact ⟨rfl, h.trans (hc.mono h.size)⟩)
  have HCb : Hid (∀ W, Below w7.heap.size w7 W → Calls Tryz.prog 10 #[.slice q5 (F.length + G.length) z5] W fun e w' => e = .returned (.bool true) ∧ Below w7.heap.size w7 w') := fun W h => by
    have h0 := checkP_any _ (F ++ G) (D ++ E) W (hf7.below h) m1 l1 n1 (HW.out W (bw W h)).f.u
    rw [c1] at h0
    exact h0.mono (by rintro e w' ⟨rfl, hc⟩; exact ⟨rfl, h.trans (hc.mono h.size)⟩)
  have HLb : Hid (∀ W, Below w7.heap.size w7 W → Calls Tryz.prog 22 #[.slice q5 (F.length + G.length) z5, .slice a3 A.length k3] W fun e w' => e = .returned (.bool (letsB D A && letsB E A)) ∧ Below w7.heap.size w7 w') := fun W h => by
    have h0 := lets_any _ (F ++ G) (D ++ E) _ A W (hf7.below h) m1 l1 n1 (HA.out W (bw W h)) (by omega) HN3.out (HW.out W (bw W h)).f.u (HW.out W (bw W h)).m
    rw [g1] at h0
    exact h0.mono (by rintro e w' ⟨rfl, hc⟩; exact ⟨rfl, h.trans (hc.mono h.size)⟩)
  have HLt : Hid (∀ W, Below w7.heap.size w7 W → Calls Tryz.prog 22 #[.slice q7 (G.length + F.length) z7, .slice a3 A.length k3] W fun e w' => e = .returned (.bool (letsB E A && letsB D A)) ∧ Below w7.heap.size w7 w') := fun W h => by
    have h0 := lets_any _ (G ++ F) (E ++ D) _ A W (hg7.below h) m2 l2 n2 (HA.out W (bw W h)) (by omega) HN3.out (HW.out W (bw W h)).f.u (HW.out W (bw W h)).m
    rw [g2] at h0
    exact h0.mono (by rintro e w' ⟨rfl, hc⟩; exact ⟨rfl, h.trans (hc.mono h.size)⟩)
  have HAt : Hid (∀ W, Below w7.heap.size w7 W → Calls Tryz.prog 24 #[.slice a3 A.length k3] W fun e w' => e = .returned (.bool (chkA A)) ∧ Below w7.heap.size w7 w') := fun W h => by
    have h0 := attrs_any _ A W (HA.out W (bw W h)) (by omega) HN3.out (HW.out W (bw W h)).f.u (HW.out W (bw W h)).m
    exact h0.mono (by rintro e w' ⟨rfl, hc⟩; exact ⟨rfl, h.trans (hc.mono h.size)⟩)
  have HAw7 : Hid (∀ W, Below w7.heap.size w7 W → Calls Tryz.prog 9 #[] W fun e w' => e = .returned (.bool true) ∧ Below w7.heap.size w7 w') := fun W h => by
    have h0 := HAw.out W (bw W h)
    exact h0.mono (by rintro e w' ⟨rfl, hc⟩; exact ⟨rfl, h.trans (hc.mono h.size)⟩)
  generalize letsB D A = P at *
  generalize letsB E A = Q at *
  generalize chkA A = R at *
  clear hf7 hg7 m1 m2 l1 l2 n1 n2 c1 g1 g2 hz bw HQ5 HQ7 HF HG HA HW HN1 HN2 HN3 HD HE HDl HEl hY1 hY2 AW9 HAw B57 B5 B2 B1
  generalize F.length = f at *
  generalize G.length = g at *
  go_wp2_with fail
  refine (HLf.out w7 (Below.refl _ _)).mono ?_
  rintro e w8 ⟨rfl, hb⟩
  have D8 : Hid (Below w7.heap.size w7 w8) := hb
  clear hb HLf
  cases P with
  | false =>
    go_wp2_with fail
    refine (HAw7.out w8 D8.out).mono ?_
    rintro e w9 ⟨rfl, hb⟩
    have D9 : Hid (Below w7.heap.size w7 w9) := hb
    clear hb HAw7
    go_wp2_with fail
    refine (HCb.out w9 D9.out).mono ?_
    rintro e w10 ⟨rfl, hb⟩
    have D10 : Hid (Below w7.heap.size w7 w10) := hb
    clear hb HCb
    go_wp2_with fail
    refine (HLb.out w10 D10.out).mono ?_
    rintro e w11 ⟨rfl, hb⟩
    have D11 : Hid (Below w7.heap.size w7 w11) := hb
    clear hb HLb
    go_wp2_with fail
    refine (HLt.out w11 D11.out).mono ?_
    rintro e w12 ⟨rfl, hb⟩
    have D12 : Hid (Below w7.heap.size w7 w12) := hb
    clear hb HLt
    by_cases h1 : f = 0
    rotate_left
    · have d1 : decide ((0 : Int) < (f : Int)) = true := decide_eq_true (by omega)
      have d1' : decide (0 < f) = true := decide_eq_true (by omega)
      go_wp2
      go_ret
      exact ⟨rfl, B7.out.trans (D12.out.mono B7.out.size)⟩
    by_cases h2 : g = 0
    rotate_left
    · have d1 : decide ((0 : Int) < (f : Int)) = false := decide_eq_false (by omega)
      have d1' : decide (0 < f) = false := decide_eq_false (by omega)
      have d2 : decide ((0 : Int) < (g : Int)) = true := decide_eq_true (by omega)
      have d2' : decide (0 < g) = true := decide_eq_true (by omega)
      clear h1
      go_wp2
      go_ret
      exact ⟨rfl, B7.out.trans (D12.out.mono B7.out.size)⟩
    obtain ⟨hz1, hz2⟩ := HZ.out h1 h2
    have d1 : decide ((0 : Int) < (f : Int)) = false := decide_eq_false (by omega)
    have d1' : decide (0 < f) = false := decide_eq_false (by omega)
    have d2 : decide ((0 : Int) < (g : Int)) = false := decide_eq_false (by omega)
    have d2' : decide (0 < g) = false := decide_eq_false (by omega)
    have HR : Hid (false = R) := hz1
    clear h1 h2 hz1 hz2
    go_wp2_with fail
    refine (HAt.out w12 D12.out).mono ?_
    rintro e w13 ⟨rfl, hb⟩
    have D13 : Hid (Below w7.heap.size w7 w13) := hb
    clear hb HAt
    obtain rfl := HR.out
    go_wp2
    go_ret
    exact ⟨rfl, B7.out.trans (D13.out.mono B7.out.size)⟩
  | true =>
    go_wp2_with fail
    refine (HLg.out w8 D8.out).mono ?_
    rintro e w9 ⟨rfl, hb⟩
    have D9 : Hid (Below w7.heap.size w7 w9) := hb
    clear hb HLg
    cases Q with
    | false =>
      go_wp2_with fail
      refine (HAw7.out w9 D9.out).mono ?_
      rintro e w10 ⟨rfl, hb⟩
      have D10 : Hid (Below w7.heap.size w7 w10) := hb
      clear hb HAw7
      go_wp2_with fail
      refine (HCb.out w10 D10.out).mono ?_
      rintro e w11 ⟨rfl, hb⟩
      have D11 : Hid (Below w7.heap.size w7 w11) := hb
      clear hb HCb
      go_wp2_with fail
      refine (HLb.out w11 D11.out).mono ?_
      rintro e w12 ⟨rfl, hb⟩
      have D12 : Hid (Below w7.heap.size w7 w12) := hb
      clear hb HLb
      go_wp2_with fail
      refine (HLt.out w12 D12.out).mono ?_
      rintro e w13 ⟨rfl, hb⟩
      have D13 : Hid (Below w7.heap.size w7 w13) := hb
      clear hb HLt
      by_cases h1 : f = 0
      rotate_left
      · have d1 : decide ((0 : Int) < (f : Int)) = true := decide_eq_true (by omega)
        have d1' : decide (0 < f) = true := decide_eq_true (by omega)
        go_wp2
        go_ret
        exact ⟨rfl, B7.out.trans (D13.out.mono B7.out.size)⟩
      by_cases h2 : g = 0
      rotate_left
      · have d1 : decide ((0 : Int) < (f : Int)) = false := decide_eq_false (by omega)
        have d1' : decide (0 < f) = false := decide_eq_false (by omega)
        have d2 : decide ((0 : Int) < (g : Int)) = true := decide_eq_true (by omega)
        have d2' : decide (0 < g) = true := decide_eq_true (by omega)
        clear h1
        go_wp2
        go_ret
        exact ⟨rfl, B7.out.trans (D13.out.mono B7.out.size)⟩
      obtain ⟨hz1, hz2⟩ := HZ.out h1 h2
      have d1 : decide ((0 : Int) < (f : Int)) = false := decide_eq_false (by omega)
      have d1' : decide (0 < f) = false := decide_eq_false (by omega)
      have d2 : decide ((0 : Int) < (g : Int)) = false := decide_eq_false (by omega)
      have d2' : decide (0 < g) = false := decide_eq_false (by omega)
      have HR : Hid (false = R) := hz2
      clear h1 h2 hz1 hz2
      go_wp2_with fail
      refine (HAt.out w13 D13.out).mono ?_
      rintro e w14 ⟨rfl, hb⟩
      have D14 : Hid (Below w7.heap.size w7 w14) := hb
      clear hb HAt
      obtain rfl := HR.out
      go_wp2
      go_ret
      exact ⟨rfl, B7.out.trans (D14.out.mono B7.out.size)⟩
    | true =>
      go_wp2_with fail
      refine (HAw7.out w9 D9.out).mono ?_
      rintro e w10 ⟨rfl, hb⟩
      have D10 : Hid (Below w7.heap.size w7 w10) := hb
      clear hb HAw7
      go_wp2_with fail
      refine (HCb.out w10 D10.out).mono ?_
      rintro e w11 ⟨rfl, hb⟩
      have D11 : Hid (Below w7.heap.size w7 w11) := hb
      clear hb HCb
      go_wp2_with fail
      refine (HLb.out w11 D11.out).mono ?_
      rintro e w12 ⟨rfl, hb⟩
      have D12 : Hid (Below w7.heap.size w7 w12) := hb
      clear hb HLb
      go_wp2_with fail
      refine (HLt.out w12 D12.out).mono ?_
      rintro e w13 ⟨rfl, hb⟩
      have D13 : Hid (Below w7.heap.size w7 w13) := hb
      clear hb HLt
      by_cases h1 : f = 0
      rotate_left
      · have d1 : decide ((0 : Int) < (f : Int)) = true := decide_eq_true (by omega)
        have d1' : decide (0 < f) = true := decide_eq_true (by omega)
        go_wp2
        go_ret
        exact ⟨rfl, B7.out.trans (D13.out.mono B7.out.size)⟩
      by_cases h2 : g = 0
      rotate_left
      · have d1 : decide ((0 : Int) < (f : Int)) = false := decide_eq_false (by omega)
        have d1' : decide (0 < f) = false := decide_eq_false (by omega)
        have d2 : decide ((0 : Int) < (g : Int)) = true := decide_eq_true (by omega)
        have d2' : decide (0 < g) = true := decide_eq_true (by omega)
        clear h1
        go_wp2
        go_ret
        exact ⟨rfl, B7.out.trans (D13.out.mono B7.out.size)⟩
      obtain ⟨hz1, hz2⟩ := HZ.out h1 h2
      have d1 : decide ((0 : Int) < (f : Int)) = false := decide_eq_false (by omega)
      have d1' : decide (0 < f) = false := decide_eq_false (by omega)
      have d2 : decide ((0 : Int) < (g : Int)) = false := decide_eq_false (by omega)
      have d2' : decide (0 < g) = false := decide_eq_false (by omega)
      have HR : Hid (true = R) := hz2
      clear h1 h2 hz1 hz2
      go_wp2_with fail
      refine (HAt.out w13 D13.out).mono ?_
      rintro e w14 ⟨rfl, hb⟩
      have D14 : Hid (Below w7.heap.size w7 w14) := hb
      clear hb HAt
      obtain rfl := HR.out
      go_wp2
      go_ret
      exact ⟨rfl, B7.out.trans (D14.out.mono B7.out.size)⟩
end Go.Proofs.YtbekpemidpngaaaGreatDoor
