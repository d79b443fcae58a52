/- The net's add, Send: walks. -/
import Derived.Test.YthbhgblgacoklaaHD
namespace Go.Proofs.Ythbhgblgacoklaa
open Go.RowKit

theorem wp_app_w (w : World) {o : Oper} {a : Act} {K : Act → World → Prop} {Q : Exit → Act → World → Prop} (s x : Operand)
    (ho : o.op = .call { callee := .builtin .append, args := #[s, x], argTypes := #[43, 43] })
    (base : Nat) (v : Value) (l : List Pk) (hs : a.eval s = v) (h : OwnW w base v l) (ad : Addr) (m c : Nat) (news : List Pk) (hm : m = news.length) (hne : 0 < m ∨ v ≠ .slice none 0 0) (hx : a.eval x = .slice (some ad) m c)
    (hn : ∀ j u, (pCells news)[j]? = some u → w.cell? (ad.add j) = some u) (hl : l.length + m ≤ 1000000) (hbase : base ≤ w.heap.size)
    (hk : ∀ g cap w', OwnW w' base (.slice (some ⟨g, 0, none⟩) (l.length + m) cap) (l ++ news) → w.grownBy w' v.ownBlock → (v.ownBlock = some g ∨ g = w.heap.size) → K (a.put o.dst (.slice (some ⟨g, 0, none⟩) (l.length + m) cap)) w') : o.wp Try.prog a w K Q := by
  obtain ⟨g, cap, w', hr, h2, h3, h4⟩ := run_app_w w o.type base v l h ad m c news hm hne hn hl hbase
  unfold Oper.wp execOp
  simp only [ho, resolve, invoke, builtin, Sem.run_bind, Sem.run_pure, Result.andThen_ok, List.map_toArray, List.map_cons, List.map_nil, hs, hx, hr]
  exact hk g cap w' h2 h3 h4
theorem step_app_w (w : World) {ops : Array Oper} {o : Oper} {a : Act} {K : Act → World → Prop} {Q : Exit → Act → World → Prop} {E : Prop} (hgd : o.guard = none) (s x : Operand)
    (ho : o.op = .call { callee := .builtin .append, args := #[s, x], argTypes := #[43, 43] })
    (base : Nat) (v : Value) (l : List Pk) (hs : a.eval s = v) (h : OwnW w base v l) (ad : Addr) (m c : Nat) (news : List Pk) (hm : m = news.length) (hne : 0 < m ∨ v ≠ .slice none 0 0) (hx : a.eval x = .slice (some ad) m c)
    (hn : ∀ j u, (pCells news)[j]? = some u → w.cell? (ad.add j) = some u) (hl : l.length + m ≤ 1000000) (hbase : base ≤ w.heap.size)
    (hk : ∀ g cap w', OwnW w' base (.slice (some ⟨g, 0, none⟩) (l.length + m) cap) (l ++ news) → w.grownBy w' v.ownBlock → (v.ownBlock = some g ∨ g = w.heap.size) → K (a.put o.dst (.slice (some ⟨g, 0, none⟩) (l.length + m) cap)) w') :
    if Region.wanted o (yielded ops a.tmps) = true then Oper.wp Try.prog o a w K Q else E := by
  have hw : Region.wanted o (yielded ops a.tmps) = true := by simp [Region.wanted, hgd]
  rw [if_pos hw]
  exact wp_app_w w s x ho base v l hs h ad m c news hm hne hx hn hl hbase hk
/-- What a call that turns a net leaves: the answer, and the net as it is then. -/
def NP (base : Nat) (w : World) (g : Nat) (V : Nat → Value) (R : Nat → List Pk) (A : Nat → Bool) (r : Value) (e : Ending) (w' : World) : Prop := e = .returned r ∧ ∃ V', NetV base w' g V' R A ∧ NStep w g V V' w'
theorem news_at {w : World} {B : Nat} {p : Pk} {t : TypeId} (hb : w.heap[B]? = some (.cells (pA p) t (0, 0))) : ∀ j u, (pCells [p])[j]? = some u → w.cell? ((⟨B, 0, none⟩ : Addr).add j) = some u := by
  rw [pCells_one]
  exact World.news_of_block (cs := pA p) hb
theorem NetV.bound {base : Nat} {w : World} {g : Nat} {V : Nat → Value} {R : Nat → List Pk} {A : Nat → Bool} (_ : NetV base w g V R A) (hc : cntN R 256 ≤ 1000) {c : Nat} (h : c < 256) : (R c).length ≤ 1000 := by
  have := cntN_mono R (show c + 1 ≤ 256 by omega)
  have e : cntN R (c + 1) = cntN R c + (R c).length := rfl
  rw [e] at this
  omega
theorem OwnW.al {w : World} {base : Nat} {v : Value} {l : List Pk} (h : OwnW w base v l) (o : Obj) : OwnW (w.alloc o) base v l := h.keep fun k hk => Below.heap_alloc w o k (h.lt k hk).2
theorem OwnW.drew {w : World} {base : Nat} {v : Value} {l : List Pk} (h : OwnW w base v l) : OwnW w.drew base v l := h.keep fun _ _ => rfl
set_option maxRecDepth 100000 in
set_option maxHeartbeats 4000000 in
theorem add_any {base : Nat} {w : World} {g : Nat} {V : Nat → Value} {R : Nat → List Pk} {A : Nat → Bool} (f t : Int) (p : Pk) (hv : NetV base w g V R A) (hc : cntN R 256 ≤ 1000) (hh : hopB f t = true) (hfull : cntN R 256 < 400) :
    Calls Try.prog 37 #[nP g, hV f t, pV p] w fun e w' => NP base w g V (up R (rix f t) (R (rix f t) ++ [p])) A (.int .i64 0) e w' := by
  obtain ⟨a, b, rfl, rfl, h1, h2, h3, h4, h5⟩ := hop_nat hh
  rw [rix_nat]
  clear hh
  have hB1 : Below w.heap.size w ((w.alloc (.cells #[.int .i64 a, .int .i64 b] 33)).alloc (.cells (pA p) 31)) := (al_b w _).trans ((al_b _ _).mono (by simp))
  have HB : Hid (Below w.heap.size w ((w.alloc (.cells #[.int .i64 a, .int .i64 b] 33)).alloc (.cells (pA p) 31))) := hB1
  have HV : Hid (NetV base ((w.alloc (.cells #[.int .i64 a, .int .i64 b] 33)).alloc (.cells (pA p) 31)) g V R A) := hv.below hB1
  have HH : Hid (((w.alloc (.cells #[.int .i64 a, .int .i64 b] 33)).alloc (.cells (pA p) 31)).heap[w.heap.size]? = some (.cells #[.int .i64 a, .int .i64 b] 33) ∧ ((w.alloc (.cells #[.int .i64 a, .int .i64 b] 33)).alloc (.cells (pA p) 31)).heap[w.heap.size + 1]? = some (.cells (pA p) 31) ∧ g < w.heap.size) := by
    refine ⟨?_, ?_, (hv.cell 0 (by omega)).2.2.2.2⟩
    · show ((w.heap.push _).push _)[w.heap.size]? = _
      rw [Array.getElem?_push, if_neg (by simp), Array.getElem?_push, if_pos rfl]
    · show ((w.heap.push _).push _)[w.heap.size + 1]? = _
      rw [Array.getElem?_push, if_pos (by simp)]
  have dn : decide ((400 : Int) ≤ ((cntN R 256 : Nat) : Int)) = false := by simp; omega
  have HC : Hid (Calls Try.prog 23 #[nP g] ((w.alloc (.cells #[.int .i64 a, .int .i64 b] 33)).alloc (.cells (pA p) 31)) fun e w' => e = .returned (.int .i64 (cntN R 256)) ∧ w' = ((w.alloc (.cells #[.int .i64 a, .int .i64 b] 33)).alloc (.cells (pA p) 31))) := count_any HV.out hc
  have hbd := hv.bound hc (c := a * 16 + b) (by omega)
  have hlo := hv.lo
  have HW : Hid (∀ k, (V (a * 16 + b)).ownBlock = some k → base ≤ k ∧ k < w.heap.size) := (hv.own (a * 16 + b) (by omega)).lt
  clear hv hB1 hfull hc
  generalize cntN R 256 = n at *
  obtain ⟨pf, pt, pfl, ptl, psq, pak, px⟩ := p
  dsimp only [pV, pA] at *
  go_enter Try.func37, Try.ntmps37
  go_wp2_with fail
  refine HC.out.mono ?_
  rintro e w1 ⟨rfl, rfl⟩
  generalize (w.alloc (.cells #[.int .i64 a, .int .i64 b] 33)).alloc (.cells #[.int .i64 pf, .int .i64 pt, .int .i64 pfl, .int .i64 ptl, .int .i64 psq, .int .i64 pak, .string px] 31) = W at *
  obtain ⟨k1, k2, hgl⟩ := HH.out
  obtain ⟨c1, -, fz, -, hg⟩ := HV.out.cell (a * 16 + b) (by omega)
  have HO : Hid (OwnW W base (V (a * 16 + b)) (R (a * 16 + b))) := HV.out.own (a * 16 + b) (by omega)
  have hne := HV.out.ne (a * 16 + b) (by omega)
  have q1 : (0 : Int) ≤ (a : Int) := by omega
  have q2 : (a : Int) < 16 := by omega
  have q3 : (0 : Int) ≤ (b : Int) := by omega
  have q4 : (b : Int) < 16 := by omega
  have z0 : W.cell? ⟨w.heap.size, 0, none⟩ = some (.int .i64 a) := by rw [Lib.cell_of_heap k1]; rfl
  have z1 : W.cell? ⟨w.heap.size, 1, none⟩ = some (.int .i64 b) := by rw [Lib.cell_of_heap k1]; rfl
  have z2 : W.cell? ⟨w.heap.size + 1, 0, none⟩ = some (.int .i64 pf) := by rw [Lib.cell_of_heap k2]; rfl
  have z3 : W.cell? ⟨w.heap.size + 1, 1, none⟩ = some (.int .i64 pt) := by rw [Lib.cell_of_heap k2]; rfl
  have z4 : W.cell? ⟨w.heap.size + 1, 2, none⟩ = some (.int .i64 pfl) := by rw [Lib.cell_of_heap k2]; rfl
  have z5 : W.cell? ⟨w.heap.size + 1, 3, none⟩ = some (.int .i64 ptl) := by rw [Lib.cell_of_heap k2]; rfl
  have z6 : W.cell? ⟨w.heap.size + 1, 4, none⟩ = some (.int .i64 psq) := by rw [Lib.cell_of_heap k2]; rfl
  have z7 : W.cell? ⟨w.heap.size + 1, 5, none⟩ = some (.int .i64 pak) := by rw [Lib.cell_of_heap k2]; rfl
  have z8 : W.cell? ⟨w.heap.size + 1, 6, none⟩ = some (.string px) := by rw [Lib.cell_of_heap k2]; rfl
  have hsz : w.heap.size + 1 < W.heap.size := (Array.getElem?_eq_some_iff.1 k2).1
  have hbs : base ≤ W.heap.size := by omega
  have n0 : some w.heap.size ≠ (V (a * 16 + b)).ownBlock := fun e => by have := (HW.out _ e.symm).2; omega
  have n1 : some (w.heap.size + 1) ≠ (V (a * 16 + b)).ownBlock := fun e => by have := (HW.out _ e.symm).2; omega
  have n2 : some g ≠ (V (a * 16 + b)).ownBlock := Ne.symm hne
  have HZ : Hid (∀ o, ((W.alloc o).drew).frozen? ⟨g, a * 16 + b, none⟩ = false) := fun o => (World.frozen?_of_block (a := ⟨g, a * 16 + b, none⟩) (Below.heap_alloc W o g hg)).trans fz
  generalize hR : R (a * 16 + b) = l at *
  generalize hVv : V (a * 16 + b) = vv at *
  have HS3 : Hid (∀ w' : World, w'.heap[w.heap.size]? = W.heap[w.heap.size]? → w'.heap[w.heap.size + 1]? = W.heap[w.heap.size + 1]? → (w'.cell? ⟨w.heap.size, 0, none⟩ = some (.int .i64 a) ∧ w'.cell? ⟨w.heap.size, 1, none⟩ = some (.int .i64 b) ∧ w'.cell? ⟨w.heap.size + 1, 0, none⟩ = some (.int .i64 pf) ∧ w'.cell? ⟨w.heap.size + 1, 1, none⟩ = some (.int .i64 pt) ∧ w'.cell? ⟨w.heap.size + 1, 2, none⟩ = some (.int .i64 pfl) ∧ w'.cell? ⟨w.heap.size + 1, 3, none⟩ = some (.int .i64 ptl) ∧ w'.cell? ⟨w.heap.size + 1, 4, none⟩ = some (.int .i64 psq) ∧ w'.cell? ⟨w.heap.size + 1, 5, none⟩ = some (.int .i64 pak) ∧ w'.cell? ⟨w.heap.size + 1, 6, none⟩ = some (.string px))) := fun w' e1 e2 => by
    rw [k1] at e1; rw [k2] at e2
    exact ⟨by rw [Lib.cell_of_heap e1]; rfl, by rw [Lib.cell_of_heap e1]; rfl, by rw [Lib.cell_of_heap e2]; rfl, by rw [Lib.cell_of_heap e2]; rfl, by rw [Lib.cell_of_heap e2]; rfl, by rw [Lib.cell_of_heap e2]; rfl, by rw [Lib.cell_of_heap e2]; rfl, by rw [Lib.cell_of_heap e2]; rfl, by rw [Lib.cell_of_heap e2]; rfl⟩
  have HS2 : Hid (∀ o : Obj, (fun w' : World => (w'.cell? ⟨w.heap.size, 0, none⟩ = some (.int .i64 a) ∧ w'.cell? ⟨w.heap.size, 1, none⟩ = some (.int .i64 b) ∧ w'.cell? ⟨w.heap.size + 1, 0, none⟩ = some (.int .i64 pf) ∧ w'.cell? ⟨w.heap.size + 1, 1, none⟩ = some (.int .i64 pt) ∧ w'.cell? ⟨w.heap.size + 1, 2, none⟩ = some (.int .i64 pfl) ∧ w'.cell? ⟨w.heap.size + 1, 3, none⟩ = some (.int .i64 ptl) ∧ w'.cell? ⟨w.heap.size + 1, 4, none⟩ = some (.int .i64 psq) ∧ w'.cell? ⟨w.heap.size + 1, 5, none⟩ = some (.int .i64 pak) ∧ w'.cell? ⟨w.heap.size + 1, 6, none⟩ = some (.string px))) (W.alloc o).drew) := fun o => HS3.out _ (Below.heap_alloc W o _ (by omega)) (Below.heap_alloc W o _ (by omega))
  go_wp2_with fail
  refine wp_region_held_drew (S := (fun w' => w'.cell? ⟨w.heap.size, 0, none⟩ = some (.int .i64 a) ∧ w'.cell? ⟨w.heap.size, 1, none⟩ = some (.int .i64 b) ∧ w'.cell? ⟨w.heap.size + 1, 0, none⟩ = some (.int .i64 pf) ∧ w'.cell? ⟨w.heap.size + 1, 1, none⟩ = some (.int .i64 pt) ∧ w'.cell? ⟨w.heap.size + 1, 2, none⟩ = some (.int .i64 pfl) ∧ w'.cell? ⟨w.heap.size + 1, 3, none⟩ = some (.int .i64 ptl) ∧ w'.cell? ⟨w.heap.size + 1, 4, none⟩ = some (.int .i64 psq) ∧ w'.cell? ⟨w.heap.size + 1, 5, none⟩ = some (.int .i64 pak) ∧ w'.cell? ⟨w.heap.size + 1, 6, none⟩ = some (.string px))) (by kernel_rfl) ⟨z0, z1, z2, z3, z4, z5, z6, z7, z8⟩ (fun hHeld => ?_)
  refine wpAnyH_take (i := 0) (v := ?_) rfl (by kernel_rfl) (by kernel_rfl) (by kernel_rfl) (fun _ _ _ h => h) (Or.inl ⟨by rfl, ?_⟩) hHeld ?_
  rotate_left 1
  · intro w' hSw; (try dsimp only at hSw); go_simp; try with_reducible rfl
  change wpAnyH _ _ _ _ _ _ _ (Act.put _ (some 10) _) _
  simp only [Act.put, List.setIfInBounds_toArray, List.set_cons_zero, List.set_cons_succ]
  refine wpAnyH_take (i := 1) (v := ?_) rfl (by kernel_rfl) (by kernel_rfl) (by kernel_rfl) (fun _ _ _ h => h) (Or.inl ⟨by rfl, ?_⟩) hHeld ?_
  rotate_left 1
  · intro w' hSw; (try dsimp only at hSw); go_simp; try with_reducible rfl
  change wpAnyH _ _ _ _ _ _ _ (Act.put _ (some 11) _) _
  simp only [Act.put, List.setIfInBounds_toArray, List.set_cons_zero, List.set_cons_succ]
  refine wpAnyH_take (i := 2) (v := ?_) rfl (by kernel_rfl) (by kernel_rfl) (by kernel_rfl) (fun _ _ _ h => h) (Or.inl ⟨by rfl, ?_⟩) hHeld ?_
  rotate_left 1
  · intro w' hSw; (try dsimp only at hSw); go_simp; try with_reducible rfl
  change wpAnyH _ _ _ _ _ _ _ (Act.put _ (some 12) _) _
  simp only [Act.put, List.setIfInBounds_toArray, List.set_cons_zero, List.set_cons_succ]
  refine wpAnyH_take (i := 3) (v := ?_) rfl (by kernel_rfl) (by kernel_rfl) (by kernel_rfl) (fun _ _ _ h => h) (Or.inl ⟨by rfl, ?_⟩) hHeld ?_
  rotate_left 1
  · intro w' hSw; (try dsimp only at hSw); go_simp; try with_reducible rfl
  change wpAnyH _ _ _ _ _ _ _ (Act.put _ (some 13) _) _
  simp only [Act.put, List.setIfInBounds_toArray, List.set_cons_zero, List.set_cons_succ]
  refine wpAnyH_take (i := 4) (v := ?_) rfl (by kernel_rfl) (by kernel_rfl) (by kernel_rfl) (fun _ _ _ h => h) (Or.inl ⟨by rfl, ?_⟩) hHeld ?_
  rotate_left 1
  · intro w' hSw; (try dsimp only at hSw); go_simp; try with_reducible rfl
  change wpAnyH _ _ _ _ _ _ _ (Act.put _ (some 14) _) _
  simp only [Act.put, List.setIfInBounds_toArray, List.set_cons_zero, List.set_cons_succ]
  refine wpAnyH_take (i := 5) (v := ?_) rfl (by kernel_rfl) (by kernel_rfl) (by kernel_rfl) (fun _ _ _ h => h) (Or.inl ⟨by rfl, ?_⟩) hHeld ?_
  rotate_left 1
  · intro w' hSw; (try dsimp only at hSw); go_simp; try with_reducible rfl
  change wpAnyH _ _ _ _ _ _ _ (Act.put _ (some 15) _) _
  simp only [Act.put, List.setIfInBounds_toArray, List.set_cons_zero, List.set_cons_succ]
  refine wpAnyH_take (i := 6) (v := ?_) rfl (by kernel_rfl) (by kernel_rfl) (by kernel_rfl) (fun _ _ _ h => h) (Or.inl ⟨by rfl, ?_⟩) hHeld ?_
  rotate_left 1
  · intro w' hSw; (try dsimp only at hSw); go_simp; try with_reducible rfl
  change wpAnyH _ _ _ _ _ _ _ (Act.put _ (some 16) _) _
  simp only [Act.put, List.setIfInBounds_toArray, List.set_cons_zero, List.set_cons_succ]
  refine wpAnyH_take (i := 7) (v := ?_) rfl (by kernel_rfl) (by kernel_rfl) (by kernel_rfl) (fun _ _ _ h => h) (Or.inl ⟨by rfl, ?_⟩) hHeld ?_
  rotate_left 1
  · intro w' hSw; (try dsimp only at hSw); go_simp; try with_reducible rfl
  change wpAnyH _ _ _ _ _ _ _ (Act.put _ (some 17) _) _
  simp only [Act.put, List.setIfInBounds_toArray, List.set_cons_zero, List.set_cons_succ]
  refine wpAnyH_take (i := 8) (v := ?_) rfl (by kernel_rfl) (by kernel_rfl) (by kernel_rfl) (fun _ _ _ h => h) (Or.inl ⟨by rfl, ?_⟩) hHeld ?_
  rotate_left 1
  · intro w' hSw; (try dsimp only at hSw); go_simp; try with_reducible rfl
  change wpAnyH _ _ _ _ _ _ _ (Act.put _ (some 18) _) _
  simp only [Act.put, List.setIfInBounds_toArray, List.set_cons_zero, List.set_cons_succ]
  refine wpAnyH_take (i := 9) (v := ?_) rfl (by kernel_rfl) (by kernel_rfl) (by kernel_rfl) (fun _ _ _ h => h) (Or.inl ⟨by rfl, ?_⟩) hHeld ?_
  rotate_left 1
  · intro w' hSw; (try dsimp only at hSw); go_simp; try with_reducible rfl
  change wpAnyH _ _ _ _ _ _ _ (Act.put _ (some 19) _) _
  simp only [Act.put, List.setIfInBounds_toArray, List.set_cons_zero, List.set_cons_succ]
  refine wpAnyH_take (i := 10) (v := ?_) rfl (by kernel_rfl) (by kernel_rfl) (by kernel_rfl) (fun _ _ _ h => h) (Or.inl ⟨by rfl, ?_⟩) hHeld ?_
  rotate_left 1
  · intro w' hSw; (try dsimp only at hSw); go_simp; try with_reducible rfl
  change wpAnyH _ _ _ _ _ _ _ (Act.put _ (some 20) _) _
  simp only [Act.put, List.setIfInBounds_toArray, List.set_cons_zero, List.set_cons_succ]
  refine wpAnyH_take (i := 11) (v := ?_) rfl (by kernel_rfl) (by kernel_rfl) (by kernel_rfl) (fun _ _ _ h => h) (Or.inl ⟨by rfl, ?_⟩) hHeld ?_
  rotate_left 1
  · intro w' hSw; (try dsimp only at hSw); go_simp; try with_reducible rfl
  change wpAnyH _ _ _ _ _ _ _ (Act.put _ (some 21) _) _
  simp only [Act.put, List.setIfInBounds_toArray, List.set_cons_zero, List.set_cons_succ]
  refine wpAnyH_take (i := 12) (v := ?_) rfl (by kernel_rfl) (by kernel_rfl) (by kernel_rfl) (fun _ _ _ h => h) (Or.inl ⟨by rfl, ?_⟩) hHeld ?_
  rotate_left 1
  · intro w' hSw; (try dsimp only at hSw); go_simp; try with_reducible rfl
  change wpAnyH _ _ _ _ _ _ _ (Act.put _ (some 22) _) _
  simp only [Act.put, List.setIfInBounds_toArray, List.set_cons_zero, List.set_cons_succ]
  refine wpAnyH_take (i := 13) (v := ?_) rfl (by kernel_rfl) (by kernel_rfl) (by kernel_rfl) (fun _ _ _ h => h) (Or.inl ⟨by rfl, ?_⟩) hHeld ?_
  rotate_left 1
  · intro w' hSw; (try dsimp only at hSw); go_simp; try with_reducible rfl
  change wpAnyH _ _ _ _ _ _ _ (Act.put _ (some 23) _) _
  simp only [Act.put, List.setIfInBounds_toArray, List.set_cons_zero, List.set_cons_succ]
  refine wpAnyH_take (i := 15) (v := ?_) rfl (by kernel_rfl) (by kernel_rfl) (by kernel_rfl) (fun _ _ _ h => h) (Or.inl ⟨by rfl, ?_⟩) hHeld ?_
  rotate_left 1
  · intro w' hSw; (try dsimp only at hSw); go_simp; try with_reducible rfl
  change wpAnyH _ _ _ _ _ _ _ (Act.put _ (some 25) _) _
  simp only [Act.put, List.setIfInBounds_toArray, List.set_cons_zero, List.set_cons_succ]
  refine wpAnyH_take (i := 18) (v := ?_) rfl (by kernel_rfl) (by kernel_rfl) (by kernel_rfl) (fun _ _ _ h => h) (Or.inl ⟨by rfl, ?_⟩) hHeld ?_
  rotate_left 1
  · intro w' hSw; (try dsimp only at hSw); go_simp; try with_reducible rfl
  change wpAnyH _ _ _ _ _ _ _ (Act.put _ (some 28) _) _
  simp only [Act.put, List.setIfInBounds_toArray, List.set_cons_zero, List.set_cons_succ]
  refine wpAnyH_take (i := 19) (v := ?_) rfl (by kernel_rfl) (by kernel_rfl) (by kernel_rfl) (fun _ _ _ h => h) (Or.inl ⟨by rfl, ?_⟩) hHeld ?_
  rotate_left 1
  · intro w' hSw; (try dsimp only at hSw); go_simp; try with_reducible rfl
  change wpAnyH _ _ _ _ _ _ _ (Act.put _ (some 29) _) _
  simp only [Act.put, List.setIfInBounds_toArray, List.set_cons_zero, List.set_cons_succ]
  refine wpAnyH_take (i := 20) (v := ?_) rfl (by kernel_rfl) (by kernel_rfl) (by kernel_rfl) (fun _ _ _ h => h) (Or.inl ⟨by rfl, ?_⟩) hHeld ?_
  rotate_left 1
  · intro w' hSw; (try dsimp only at hSw); go_simp; try with_reducible rfl
  change wpAnyH _ _ _ _ _ _ _ (Act.put _ (some 30) _) _
  simp only [Act.put, List.setIfInBounds_toArray, List.set_cons_zero, List.set_cons_succ]
  refine wpAnyH_ready (rs := [14, 16]) (by kernel_rfl) (by simp) ?_
  refine AllReadyH.cons rfl (fun K hK => ?_) (AllReadyH.cons rfl (fun K hK => ?_) AllReadyH.nil)
  · go_simp
    refine hK.out _ _ hHeld (fun hHeld => ?_)
    clear hK K
    refine wpAnyH_ready (rs := [16]) (by kernel_rfl) (by simp) ?_
    refine AllReadyH.cons rfl (fun K hK => ?_) AllReadyH.nil
    go_simp
    refine hK.out _ _ (HS2.out _) (fun hHeld => ?_)
    clear hK K
    refine wpAnyH_ready (rs := [17]) (by kernel_rfl) (by simp) ?_
    refine AllReadyH.cons rfl (fun K hK => ?_) AllReadyH.nil
    refine step_app_w _ (by rfl) _ _ (by rfl) base vv l (by rfl) (HO.out.al _).drew ⟨W.heap.size, 0, none⟩ 1 1 [⟨pf, pt, pfl, ptl, psq, pak, px⟩] (by rfl) (.inl (by omega)) (by rfl) (news_at (heap_alloc_new W _)) (by omega) (by simp; omega) ?_
    intro gg cap w1 hown1 hgrow hat
    have fz1 := (hgrow.frozen_far ⟨g, a * 16 + b, none⟩ (by simp; omega) n2).trans (HZ.out _)
    have cc1 : w1.cell? ⟨g, a * 16 + b, none⟩ = some vv := (hgrow.cell_far ⟨g, a * 16 + b, none⟩ (by simp; omega) n2).trans ((World.cell?_of_block (a := ⟨g, a * 16 + b, none⟩) (Below.heap_alloc W _ g hg)).trans c1)
    have b0 : w1.heap[w.heap.size]? = W.heap[w.heap.size]? := (hgrow.block _ (by simp; omega) n0).trans (Below.heap_alloc W _ _ (by omega))
    have b1 : w1.heap[w.heap.size + 1]? = W.heap[w.heap.size + 1]? := (hgrow.block _ (by simp; omega) n1).trans (Below.heap_alloc W _ _ (by omega))
    have HF : Hid (NetV base (w1.setCell ⟨g, a * 16 + b, none⟩ (.slice (some ⟨gg, 0, none⟩) (l.length + 1) cap)) g (up V (a * 16 + b) (.slice (some ⟨gg, 0, none⟩) (l.length + 1) cap)) (up R (a * 16 + b) (l ++ [⟨pf, pt, pfl, ptl, psq, pak, px⟩])) A ∧ NStep w g V (up V (a * 16 + b) (.slice (some ⟨gg, 0, none⟩) (l.length + 1) cap)) (w1.setCell ⟨g, a * 16 + b, none⟩ (.slice (some ⟨gg, 0, none⟩) (l.length + 1) cap))) := by
      have hbA := HB.out.trans ((al_b W (.cells #[.int .i64 pf, .int .i64 pt, .int .i64 pfl, .int .i64 ptl, .int .i64 psq, .int .i64 pak, .string px] 31)).drew.mono HB.out.size)
      have hVA := HV.out.below (al_b W (.cells #[.int .i64 pf, .int .i64 pt, .int .i64 pfl, .int .i64 ptl, .int .i64 psq, .int .i64 pak, .string px] 31)).drew
      have := net_put hVA (c := a * 16 + b) (by omega) (by rw [hVv]; exact hgrow) hown1 (by
        rw [hVv]
        rcases hat with h | h
        · exact .inl h.symm
        · exact .inr (.inr ⟨gg, rfl, by rw [h]; exact Nat.le_refl _⟩))
      exact ⟨this.1, (NStep.of g V hbA).trans this.2⟩
    have hS1 := HS3.out w1 b0 b1
    have HSf : Hid (∀ v, (w1.setCell ⟨g, a * 16 + b, none⟩ v).heap[w.heap.size]? = W.heap[w.heap.size]? ∧ (w1.setCell ⟨g, a * 16 + b, none⟩ v).heap[w.heap.size + 1]? = W.heap[w.heap.size + 1]?) := fun v => by
      obtain ⟨cur, hcur⟩ : ∃ cur, w1.heap[g]? = some (.cells cur 69 (0, 0)) := by
        obtain ⟨cur, hb, _⟩ := HV.out.blk
        exact ⟨cur, (hgrow.block g (by simp; omega) n2).trans ((Below.heap_alloc W _ g hg).trans hb)⟩
      obtain ⟨-, s2⟩ := setCell_at w1 (a * 16 + b) hcur v
      exact ⟨(s2 _ (by omega)).trans b0, (s2 _ (by omega)).trans b1⟩
    refine hK.out _ _ hS1 (fun hHeld => ?_)
    clear hK K hS1 hgrow hat hown1
    change wpAnyH _ _ _ _ _ _ _ (Act.put _ (some 27) _) _
    simp only [Act.put, List.setIfInBounds_toArray, List.set_cons_zero, List.set_cons_succ]
    refine wpAnyH_take (i := 21) (v := ?_) rfl (by kernel_rfl) (by kernel_rfl) (by kernel_rfl) (fun _ _ _ h => h) (Or.inl ⟨by rfl, ?_⟩) hHeld ?_
    rotate_left 1
    · intro w' hSw; (try dsimp only at hSw); go_simp; try with_reducible rfl
    change wpAnyH _ _ _ _ _ _ _ (Act.put _ (some 31) _) _
    simp only [Act.put, List.setIfInBounds_toArray, List.set_cons_zero, List.set_cons_succ]
    refine wpAnyH_ready (rs := [22]) (by kernel_rfl) (by simp) ?_
    refine AllReadyH.cons rfl (fun K hK => ?_) AllReadyH.nil
    go_simp
    refine hK.out _ _ (HS3.out _ (HSf.out _).1 (HSf.out _).2) (fun hHeld => ?_)
    clear hK K
    refine wpAnyH_done (by kernel_rfl) ?_ _
    clear hHeld b0 b1 cc1 fz1
    go_wp2
    go_ret
    exact ⟨rfl, _, by rw [hR]; exact HF.out.1, HF.out.2⟩
  · go_simp
    refine hK.out _ _ (HS2.out _) (fun hHeld => ?_)
    clear hK K
    refine wpAnyH_ready (rs := [14]) (by kernel_rfl) (by simp) ?_
    refine AllReadyH.cons rfl (fun K hK => ?_) AllReadyH.nil
    go_simp
    refine hK.out _ _ (HS2.out _) (fun hHeld => ?_)
    clear hK K
    refine wpAnyH_ready (rs := [17]) (by kernel_rfl) (by simp) ?_
    refine AllReadyH.cons rfl (fun K hK => ?_) AllReadyH.nil
    refine step_app_w _ (by rfl) _ _ (by rfl) base vv l (by rfl) (HO.out.al _).drew ⟨W.heap.size, 0, none⟩ 1 1 [⟨pf, pt, pfl, ptl, psq, pak, px⟩] (by rfl) (.inl (by omega)) (by rfl) (news_at (heap_alloc_new W _)) (by omega) (by simp; omega) ?_
    intro gg cap w1 hown1 hgrow hat
    have fz1 := (hgrow.frozen_far ⟨g, a * 16 + b, none⟩ (by simp; omega) n2).trans (HZ.out _)
    have cc1 : w1.cell? ⟨g, a * 16 + b, none⟩ = some vv := (hgrow.cell_far ⟨g, a * 16 + b, none⟩ (by simp; omega) n2).trans ((World.cell?_of_block (a := ⟨g, a * 16 + b, none⟩) (Below.heap_alloc W _ g hg)).trans c1)
    have b0 : w1.heap[w.heap.size]? = W.heap[w.heap.size]? := (hgrow.block _ (by simp; omega) n0).trans (Below.heap_alloc W _ _ (by omega))
    have b1 : w1.heap[w.heap.size + 1]? = W.heap[w.heap.size + 1]? := (hgrow.block _ (by simp; omega) n1).trans (Below.heap_alloc W _ _ (by omega))
    have HF : Hid (NetV base (w1.setCell ⟨g, a * 16 + b, none⟩ (.slice (some ⟨gg, 0, none⟩) (l.length + 1) cap)) g (up V (a * 16 + b) (.slice (some ⟨gg, 0, none⟩) (l.length + 1) cap)) (up R (a * 16 + b) (l ++ [⟨pf, pt, pfl, ptl, psq, pak, px⟩])) A ∧ NStep w g V (up V (a * 16 + b) (.slice (some ⟨gg, 0, none⟩) (l.length + 1) cap)) (w1.setCell ⟨g, a * 16 + b, none⟩ (.slice (some ⟨gg, 0, none⟩) (l.length + 1) cap))) := by
      have hbA := HB.out.trans ((al_b W (.cells #[.int .i64 pf, .int .i64 pt, .int .i64 pfl, .int .i64 ptl, .int .i64 psq, .int .i64 pak, .string px] 31)).drew.mono HB.out.size)
      have hVA := HV.out.below (al_b W (.cells #[.int .i64 pf, .int .i64 pt, .int .i64 pfl, .int .i64 ptl, .int .i64 psq, .int .i64 pak, .string px] 31)).drew
      have := net_put hVA (c := a * 16 + b) (by omega) (by rw [hVv]; exact hgrow) hown1 (by
        rw [hVv]
        rcases hat with h | h
        · exact .inl h.symm
        · exact .inr (.inr ⟨gg, rfl, by rw [h]; exact Nat.le_refl _⟩))
      exact ⟨this.1, (NStep.of g V hbA).trans this.2⟩
    have hS1 := HS3.out w1 b0 b1
    have HSf : Hid (∀ v, (w1.setCell ⟨g, a * 16 + b, none⟩ v).heap[w.heap.size]? = W.heap[w.heap.size]? ∧ (w1.setCell ⟨g, a * 16 + b, none⟩ v).heap[w.heap.size + 1]? = W.heap[w.heap.size + 1]?) := fun v => by
      obtain ⟨cur, hcur⟩ : ∃ cur, w1.heap[g]? = some (.cells cur 69 (0, 0)) := by
        obtain ⟨cur, hb, _⟩ := HV.out.blk
        exact ⟨cur, (hgrow.block g (by simp; omega) n2).trans ((Below.heap_alloc W _ g hg).trans hb)⟩
      obtain ⟨-, s2⟩ := setCell_at w1 (a * 16 + b) hcur v
      exact ⟨(s2 _ (by omega)).trans b0, (s2 _ (by omega)).trans b1⟩
    refine hK.out _ _ hS1 (fun hHeld => ?_)
    clear hK K hS1 hgrow hat hown1
    change wpAnyH _ _ _ _ _ _ _ (Act.put _ (some 27) _) _
    simp only [Act.put, List.setIfInBounds_toArray, List.set_cons_zero, List.set_cons_succ]
    refine wpAnyH_take (i := 21) (v := ?_) rfl (by kernel_rfl) (by kernel_rfl) (by kernel_rfl) (fun _ _ _ h => h) (Or.inl ⟨by rfl, ?_⟩) hHeld ?_
    rotate_left 1
    · intro w' hSw; (try dsimp only at hSw); go_simp; try with_reducible rfl
    change wpAnyH _ _ _ _ _ _ _ (Act.put _ (some 31) _) _
    simp only [Act.put, List.setIfInBounds_toArray, List.set_cons_zero, List.set_cons_succ]
    refine wpAnyH_ready (rs := [22]) (by kernel_rfl) (by simp) ?_
    refine AllReadyH.cons rfl (fun K hK => ?_) AllReadyH.nil
    go_simp
    refine hK.out _ _ (HS3.out _ (HSf.out _).1 (HSf.out _).2) (fun hHeld => ?_)
    clear hK K
    refine wpAnyH_done (by kernel_rfl) ?_ _
    clear hHeld b0 b1 cc1 fz1
    go_wp2
    go_ret
    exact ⟨rfl, _, by rw [hR]; exact HF.out.1, HF.out.2⟩
end Go.Proofs.Ythbhgblgacoklaa
