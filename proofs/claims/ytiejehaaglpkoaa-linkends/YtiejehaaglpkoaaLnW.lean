/- A pair's things: what becomes of them. -/
import Derived.Test.YtiejehaaglpkoaaLnV
namespace Go.Proofs.Ytiejehaaglpkoaa
open Go.RowKit Go.ChangeMaps

theorem wp_strs (w : World) {o : Oper} {a : Act} {K : Act → World → Prop} {Q : Exit → Act → World → Prop} (s x : Operand)
    (ho : o.op = .call { callee := .builtin .append, args := #[s, x], argTypes := #[30, 30] })
    (base : Nat) (v xv : Value) (l news : List ByteArray) (hs : a.eval s = v) (hx : a.eval x = xv) (h : w.ownsRow base 9 1 v l.length (l.map .string)) (hr : IsRow w 1 xv news.length (news.map .string)) (hl : l.length + news.length ≤ 1000000) (hbase : base ≤ w.heap.size)
    (hk : ∀ v' w', w'.ownsRow base 9 1 v' (l ++ news).length ((l ++ news).map .string) → w.grownBy w' v.ownBlock → (v'.ownBlock = v.ownBlock ∨ v'.ownBlock = some w.heap.size) → K (a.put o.dst v') w') : o.wp Try.prog a w K Q := by
  obtain ⟨i0, hi0, hz0, hz1, hz2⟩ := info_parts info_str
  rcases hr.2 with ⟨h0, xa, xc, rfl⟩ | ⟨b, off, cap, rfl, hb, hc, hm, hcell⟩
  · have hn : news = [] := List.eq_nil_of_length_eq_zero h0
    subst hn
    have hv : ∃ va vc, v = .slice va l.length vc ∧ l.length ≤ vc := by
      rcases h.2 with ⟨rfl, h1⟩ | ⟨g, cap, cur, rfl, _, _, hlc, _⟩
      · rw [h1]; exact ⟨none, 0, rfl, Nat.le_refl _⟩
      · exact ⟨_, cap, rfl, hlc⟩
    obtain ⟨va, vc, rfl, hvc⟩ := hv
    have hrun := run_app0 (P := Try.prog) w 30 o.type 9 i0 Try.underlying30 hi0 va l.length vc hvc xa xc
    unfold Oper.wp execOp
    simp only [ho, resolve, invoke, builtin, Sem.run_bind, Sem.run_pure, Result.andThen_ok, List.map_toArray, List.map_cons, List.map_nil, hs, hx, hrun]
    exact hk _ w (by rw [List.append_nil]; exact h) (grown_refl w _) (.inl rfl)
  · have hnews : ∀ j u, (news.map Value.string)[j]? = some u → w.cell? ((⟨b, off, none⟩ : Addr).add j) = some u := fun j u hu => by
      have hadd : (⟨b, off, none⟩ : Addr).add j = ⟨b, off + j, none⟩ := by unfold Addr.add; split <;> simp_all
      rw [hadd]; exact hcell j u hu
    obtain ⟨v', w', hrun, h2, h3, -, h5⟩ := run_append_own_at (P := Try.prog) w base 30 o.type 9 i0 _ 1 16 Try.underlying30 hi0 hz0 hz1 hz2 rfl (by decide) v l.length (l.map .string) h ⟨b, off, none⟩ news.length cap (news.map .string) (by simp) hnews (fun u hu => by obtain ⟨y, -, rfl⟩ := List.mem_map.1 hu; rfl) (by unfold maxLen; omega) (by omega) hbase
    unfold Oper.wp execOp
    simp only [ho, resolve, invoke, builtin, Sem.run_bind, Sem.run_pure, Result.andThen_ok, List.map_toArray, List.map_cons, List.map_nil, hs, hx, hrun]
    exact hk v' w' (by rw [List.length_append, List.map_append]; exact h2) h3 h5
theorem step_strs (w : World) {ops : Array Oper} {o : Oper} {a : Act} {K : Act → World → Prop} {Q : Exit → Act → World → Prop} {E : Prop} (hgd : o.guard = none) (s x : Operand)
    (ho : o.op = .call { callee := .builtin .append, args := #[s, x], argTypes := #[30, 30] })
    (base : Nat) (v xv : Value) (l news : List ByteArray) (hs : a.eval s = v) (hx : a.eval x = xv) (h : w.ownsRow base 9 1 v l.length (l.map .string)) (hr : IsRow w 1 xv news.length (news.map .string)) (hl : l.length + news.length ≤ 1000000) (hbase : base ≤ w.heap.size)
    (hk : ∀ v' w', w'.ownsRow base 9 1 v' (l ++ news).length ((l ++ news).map .string) → w.grownBy w' v.ownBlock → (v'.ownBlock = v.ownBlock ∨ v'.ownBlock = some w.heap.size) → K (a.put o.dst v') w') :
    if Region.wanted o (yielded ops a.tmps) = true then Oper.wp Try.prog o a w K Q else E := by
  have hw : Region.wanted o (yielded ops a.tmps) = true := by simp [Region.wanted, hgd]
  rw [if_pos hw]
  exact wp_strs w s x ho base v xv l news hs hx h hr hl hbase hk
theorem PSn.push {w0 w w' : World} {P : Nat} {a : Ad} {s : Pr} {ext : List (Tg w0.heap.size)} {R : Nat → List Pk} {t : Tg w0.heap.size} (h : PSn w0 P a s ext R w) (hb : Below w.heap.size w w') (ho : t.ok w') (hn : ∀ k, t.fp k → w.heap.size ≤ k) : PSn w0 P a s (t :: ext) R w' := by
  obtain ⟨V', h⟩ := h
  exact ⟨V', (h.new hb ho hn).perm List.perm_middle.symm⟩
theorem PSn.alloc {w0 w : World} {P : Nat} {a : Ad} {s : Pr} {ext : List (Tg w0.heap.size)} {R : Nat → List Pk} (h : PSn w0 P a s ext R w) (o : Obj) : PSn w0 P a s (blkT _ w.heap.size o :: ext) R (w.alloc o) := by
  obtain ⟨V', h⟩ := h
  exact ⟨V', (h.alloc o).perm List.perm_middle.symm⟩
theorem PSn.tl {w0 w : World} {P : Nat} {a : Ad} {s : Pr} {ext : List (Tg w0.heap.size)} {R : Nat → List Pk} {t : Tg w0.heap.size} (h : PSn w0 P a s (t :: ext) R w) : PSn w0 P a s ext R w := by
  obtain ⟨V', h⟩ := h
  exact ⟨V', (h.perm List.perm_middle).tl⟩
theorem PSn.rot {w0 w : World} {P : Nat} {a : Ad} {s : Pr} {ext : List (Tg w0.heap.size)} {R : Nat → List Pk} {t u : Tg w0.heap.size} (h : PSn w0 P a s (t :: u :: ext) R w) : PSn w0 P a s (u :: t :: ext) R w := by
  obtain ⟨V', h⟩ := h
  exact ⟨V', h.perm ((List.Perm.swap u t ext).append_left _)⟩
theorem PSn.to {w0 w : World} {P : Nat} {a : Ad} {s : Pr} {ext : List (Tg w0.heap.size)} {R : Nat → List Pk} (h : PSn w0 P a s ext R w) : Below w0.heap.size w0 w := by
  obtain ⟨V', h⟩ := h
  exact h.to
theorem PSn.turn {w0 w w' : World} {P : Nat} {a : Ad} {s : Pr} {ext : List (Tg w0.heap.size)} {R : Nat → List Pk} {t t' : Tg w0.heap.size} (h : PSn w0 P a s (t :: ext) R w) (hs : Stp w t.fp t'.fp w') (ho : t'.ok w') : PSn w0 P a s (t' :: ext) R w' := by
  obtain ⟨V', h⟩ := h
  exact ⟨V', ((h.perm List.perm_middle).step hs ho).perm List.perm_middle.symm⟩
theorem stp_set {w : World} {N o : Nat} {cur : Array Value} {t : TypeId} (hb : w.heap[N]? = some (.cells cur t (0, 0))) (v : Value) : Stp w (fun k => k = N) (fun k => k = N) (w.setCell ⟨N, o, none⟩ v) := by
  obtain ⟨-, s2⟩ := setCell_at w o hb v
  have z : (w.setCell ⟨N, o, none⟩ v).heap.size = w.heap.size := by rw [setCell_eq_setRow w N o cur _ (0, 0) v hb]; simp
  exact ⟨rfl, rfl, rfl, by rw [z]; exact Nat.le_refl _, fun k _ hn => s2 k hn, fun _ h => .inl h⟩
/-- A packet's box is written. -/
theorem PSn.set7 {w0 w : World} {P N : Nat} {a : Ad} {s : Pr} {ext : List (Tg w0.heap.size)} {R : Nat → List Pk} {t : TypeId} {c0 c1 c2 c3 c4 c5 c6 : Value} (h : PSn w0 P a s (blkT _ N (.cells #[c0, c1, c2, c3, c4, c5, c6] t (0, 0)) :: ext) R w) (x0 x1 x2 x3 x4 x5 x6 : Value) :
    PSn w0 P a s (blkT _ N (.cells #[x0, x1, x2, x3, x4, x5, x6] t (0, 0)) :: ext) R (set7 w N x0 x1 x2 x3 x4 x5 x6) := by
  have hk := h.ext (t := blkT _ N (.cells #[c0, c1, c2, c3, c4, c5, c6] t (0, 0))) (List.mem_cons_self ..)
  have hb : w.heap[N]? = some (.cells #[c0, c1, c2, c3, c4, c5, c6] t (0, 0)) := hk.2
  have b0 := (setCell_at w 0 hb x0).1
  have b1 := (setCell_at _ 1 b0 x1).1
  have b2 := (setCell_at _ 2 b1 x2).1
  have b3 := (setCell_at _ 3 b2 x3).1
  have b4 := (setCell_at _ 4 b3 x4).1
  have b5 := (setCell_at _ 5 b4 x5).1
  exact h.turn (t' := blkT _ N (.cells #[x0, x1, x2, x3, x4, x5, x6] t (0, 0))) (((((((stp_set (o := 0) hb x0).trans (stp_set (o := 1) b0 x1)).trans (stp_set (o := 2) b1 x2)).trans (stp_set (o := 3) b2 x3)).trans (stp_set (o := 4) b3 x4)).trans (stp_set (o := 5) b4 x5)).trans (stp_set (o := 6) b5 x6)) ⟨hk.1, set7_heap hb x0 x1 x2 x3 x4 x5 x6⟩
/-- A packet comes to one end. -/
theorem PSn.takeL {w0 w : World} {P : Nat} {a : Ad} {s : Pr} {ext : List (Tg w0.heap.size)} {R : Nat → List Pk} (h : PSn w0 P a s ext R w) {i : Nat} (hi : i < 2) (hok : LkOk (s.L i)) (hel : (s.L i).e.length ≤ 900) (p : Pk) (hx : p.x.size ≤ 140737488355328) :
    Calls Try.prog 17 #[lP (a.gl i), pV p] w fun e w' => ∃ tr r v', e = .returned (.tuple #[tr, r, .int .i64 (lookE (s.L i) p)]) ∧ PSn w0 P (adL a i v') (setL s i (tkL (s.L i) p)) (strT _ tr (tkT (s.L i) p) :: pkT _ r (tkO (s.L i) p) :: ext) R w' := by
  obtain ⟨V', h⟩ := h
  obtain ⟨rest, f1, f2⟩ := foc_link h hi
  have hS : St w0 (linkT _ (a.gl i) (a.ml i) (a.vl i) (s.L i) :: rest) w := f1
  refine (hS.take hok hel p hx).mono fun e w' hp => ?_
  obtain ⟨tr, r, v', he, hT⟩ := hp
  exact ⟨tr, r, v', he, V', f2 [strT _ tr (tkT (s.L i) p), pkT _ r (tkO (s.L i) p)] v' (tkL (s.L i) p) w' hT⟩
theorem PSn.sendL {w0 w : World} {P : Nat} {a : Ad} {s : Pr} {ext : List (Tg w0.heap.size)} {R : Nat → List Pk} (h : PSn w0 P a s ext R w) {i : Nat} (hi : i < 2) (hok : LkOk (s.L i)) (t : ByteArray) (hx : t.size ≤ 140737488355328) :
    Calls Try.prog 13 #[lP (a.gl i), .string t] w fun e w' => ∃ r v', e = .returned (.tuple #[r, .int .i64 (sndE (s.L i) t)]) ∧ PSn w0 P (adL a i v') (setL s i (sndL (s.L i) t)) (pkT _ r (sndO (s.L i) t) :: ext) R w' := by
  obtain ⟨V', h⟩ := h
  obtain ⟨rest, f1, f2⟩ := foc_link h hi
  have hS : St w0 (linkT _ (a.gl i) (a.ml i) (a.vl i) (s.L i) :: rest) w := f1
  refine (hS.send hok t hx).mono fun e w' hp => ?_
  obtain ⟨r, v', he, hT⟩ := hp
  exact ⟨r, v', he, V', f2 [pkT _ r (sndO (s.L i) t)] v' (sndL (s.L i) t) w' hT⟩
theorem PSn.tickL {w0 w : World} {P : Nat} {a : Ad} {s : Pr} {ext : List (Tg w0.heap.size)} {R : Nat → List Pk} (h : PSn w0 P a s ext R w) {i : Nat} (hi : i < 2) (hok : LkOk (s.L i)) :
    Calls Try.prog 20 #[lP (a.gl i)] w fun e w' => ∃ r, e = .returned r ∧ PSn w0 P a s (pkT _ r (pks (s.L i) 0 (s.L i).o) :: ext) R w' := by
  obtain ⟨V', h⟩ := h
  obtain ⟨rest, f1, -⟩ := foc_link h hi
  refine (tick_any (show LinkV _ w (a.gl i) (a.ml i) (a.vl i) (s.L i) from f1.hd) hok).mono fun e w' hp => ?_
  obtain ⟨r, he, h1, h2⟩ := hp
  exact ⟨r, he, V', (h.new h2 (t := pkT _ r (pks (s.L i) 0 (s.L i).o)) (h1.mono h.2.2.size) fun k hk => (h1.lt k hk).1).perm List.perm_middle.symm⟩
theorem PSn.lnk {w0 w : World} {P : Nat} {a : Ad} {s : Pr} {ext : List (Tg w0.heap.size)} {R : Nat → List Pk} (h : PSn w0 P a s ext R w) {i : Nat} (hi : i < 2) : LinkV w0.heap.size w (a.gl i) (a.ml i) (a.vl i) (s.L i) := by
  obtain ⟨V', h⟩ := h
  obtain ⟨rest, f1, -⟩ := foc_link h hi
  exact f1.hd
theorem PSn.rows {w0 w : World} {P : Nat} {a : Ad} {s : Pr} {ext : List (Tg w0.heap.size)} {R : Nat → List Pk} (h : PSn w0 P a s ext R w) {i : Nat} (hi : i < 2) : w.ownsRow w0.heap.size 9 1 (a.vs i) (s.S i).length ((s.S i).map .string) ∧ w.ownsRow w0.heap.size 9 1 (a.vg i) (s.G i).length ((s.G i).map .string) := by
  obtain ⟨V', h⟩ := h
  obtain ⟨rest, f1, -⟩ := foc_sent h hi
  obtain ⟨rest2, f2, -⟩ := foc_got h hi
  exact ⟨f1.hd, f2.hd⟩
/-- What was handed on is noted. -/
theorem PSn.got {w0 w w1 : World} {P : Nat} {a : Ad} {s : Pr} {ext : List (Tg w0.heap.size)} {R : Nat → List Pk} (h : PSn w0 P a s ext R w) {i : Nat} (hi : i < 2) {v' : Value} {l' : List ByteArray} (ho : w1.ownsRow w0.heap.size 9 1 v' l'.length (l'.map .string)) (hg : w.grownBy w1 (a.vg i).ownBlock) (hat : v'.ownBlock = (a.vg i).ownBlock ∨ v'.ownBlock = some w.heap.size) :
    PSn w0 P (adG a i v') (setG s i l') ext R (w1.setCell ⟨P, 5 + i, none⟩ v') := by
  obtain ⟨V', h⟩ := h
  obtain ⟨rest, f1, f2⟩ := foc_got h hi
  have h1 := f2 v' l' w1 (f1.appS ho hg hat)
  obtain ⟨rest2, g1, g2⟩ := foc_blk h1
  have hk : w0.heap.size ≤ P ∧ w1.heap[P]? = some (.cells (pairC a) 66 (0, 0)) := g1.hd
  have h2 := g2 (pairC (adG a i v')) (w1.setCell ⟨P, 5 + i, none⟩ v') (g1.step (t' := blkT _ P (.cells (pairC (adG a i v')) 66 (0, 0))) (stp_set hk.2 v') ⟨hk.1, by
    rw [(setCell_at w1 (5 + i) hk.2 v').1]
    match i, hi with
    | 0, _ => rfl
    | 1, _ => rfl⟩)
  exact ⟨V', h2⟩
theorem PSn.sent {w0 w w1 : World} {P : Nat} {a : Ad} {s : Pr} {ext : List (Tg w0.heap.size)} {R : Nat → List Pk} (h : PSn w0 P a s ext R w) {i : Nat} (hi : i < 2) {v' : Value} {l' : List ByteArray} (ho : w1.ownsRow w0.heap.size 9 1 v' l'.length (l'.map .string)) (hg : w.grownBy w1 (a.vs i).ownBlock) (hat : v'.ownBlock = (a.vs i).ownBlock ∨ v'.ownBlock = some w.heap.size) :
    PSn w0 P (adS a i v') (setS s i l') ext R (w1.setCell ⟨P, 3 + i, none⟩ v') := by
  obtain ⟨V', h⟩ := h
  obtain ⟨rest, f1, f2⟩ := foc_sent h hi
  have h1 := f2 v' l' w1 (f1.appS ho hg hat)
  obtain ⟨rest2, g1, g2⟩ := foc_blk h1
  have hk : w0.heap.size ≤ P ∧ w1.heap[P]? = some (.cells (pairC a) 66 (0, 0)) := g1.hd
  have h2 := g2 (pairC (adS a i v')) (w1.setCell ⟨P, 3 + i, none⟩ v') (g1.step (t' := blkT _ P (.cells (pairC (adS a i v')) 66 (0, 0))) (stp_set hk.2 v') ⟨hk.1, by
    rw [(setCell_at w1 (3 + i) hk.2 v').1]
    match i, hi with
    | 0, _ => rfl
    | 1, _ => rfl⟩)
  exact ⟨V', h2⟩
theorem PSn.far {w0 w : World} {P : Nat} {a : Ad} {s : Pr} {ext : List (Tg w0.heap.size)} {R : Nat → List Pk} (h : PSn w0 P a s ext R w) {i : Nat} (hi : i < 2) : (a.vg i).ownBlock ≠ some P ∧ (a.vs i).ownBlock ≠ some P := by
  obtain ⟨V', h⟩ := h
  have hp := (List.pairwise_cons.1 h.2.1).1
  match i, hi with
  | 0, _ => exact ⟨fun e => hp (strT _ (a.vg 0) (s.G 0)) (by simp [setR]) P rfl e, fun e => hp (strT _ (a.vs 0) (s.S 0)) (by simp [setR]) P rfl e⟩
  | 1, _ => exact ⟨fun e => hp (strT _ (a.vg 1) (s.G 1)) (by simp [setR]) P rfl e, fun e => hp (strT _ (a.vs 1) (s.S 1)) (by simp [setR]) P rfl e⟩
theorem PSn.keepP {w0 w w6 : World} {P : Nat} {a : Ad} {s : Pr} {ext : List (Tg w0.heap.size)} {R : Nat → List Pk} (h : PSn w0 P a s ext R w) {v : Value} (hv : v.ownBlock ≠ some P) (hg : w.grownBy w6 v.ownBlock) : w6.heap[P]? = some (.cells (pairC a) 66 (0, 0)) := by
  obtain ⟨h1, -, -, -, h5⟩ := h.cells
  exact (hg.block P h5 fun e => hv e.symm).trans h1
theorem pair_cells2 {w : World} {P : Nat} {a : Ad} (hk : w.heap[P]? = some (.cells (pairC a) 66 (0, 0))) {i : Nat} (hi : i < 2) : w.cell? ⟨P, 3 + i, none⟩ = some (a.vs i) ∧ w.cell? ⟨P, 5 + i, none⟩ = some (a.vg i) ∧ ∀ o, w.frozen? ⟨P, o, none⟩ = false := by
  refine ⟨?_, ?_, fun o => by simp [World.frozen?, hk]⟩
  · match i, hi with
    | 0, _ => rw [Lib.cell_of_heap hk]; rfl
    | 1, _ => rw [Lib.cell_of_heap hk]; rfl
  · match i, hi with
    | 0, _ => rw [Lib.cell_of_heap hk]; rfl
    | 1, _ => rw [Lib.cell_of_heap hk]; rfl
end Go.Proofs.Ytiejehaaglpkoaa
