/- Appends of whole rows; the law's at: walks. -/
import Derived.Test.YtiejehaaglpkoaaLnM
namespace Go.Proofs.Ytiejehaaglpkoaa
open Go.RowKit Go.ChangeMaps

theorem run_app0 {P : Program} (w : World) (t ty e : TypeId) (i : TypeInfo) (ht : P.underlying t = some (.slice e)) (hi : P.info? e = some i) (a : Option Addr) (n c : Nat) (hc : n ≤ c) (xa : Option Addr) (xc : Nat) :
    (Builtin.append_ #[t, t] ty #[.slice a n c, .slice xa 0 xc]).run P w = .ok (.slice a n c) w := by
  have hs : (sizeOf e).run P w = .ok i.size w := by simp [sizeOf, typeInfo, hi, Sem.run_bind]
  cases xa <;> cases a <;> simp [Builtin.append_, run_underlying ht, hs, Builtin.lenOf, Builtin.firstCells, loadCells, loadCellsFrom, storeCells, Result.andThen, hc]
theorem info_of {P : Program} {e : TypeId} {x : Option Value × Nat × Nat} (h : (P.info? e).map (fun i => (i.zero, i.size, i.bytes)) = some x) : ∃ i, P.info? e = some i := by
  cases h2 : P.info? e with
  | none => rw [h2] at h; cases h
  | some i => exact ⟨i, rfl⟩
/-- A row of packets is appended to one that is owned. -/
theorem wpl_apps (w : World) {ops : Array Oper} {rest : List Oper} {o : Oper} {a : Act} {Q : Exit → Act → World → Prop} (hgd : o.guard = none) (s x : Operand)
    (ho : o.op = .call { callee := .builtin .append, args := #[s, x], argTypes := #[40, 40] })
    (base : Nat) (v xv : Value) (l news : List Pk) (hs : a.eval s = v) (hx : a.eval x = xv) (h : OwnW w base v l) (hr : IsRow w 7 xv news.length (pCells news)) (hl : l.length + news.length ≤ 1000000) (hbase : base ≤ w.heap.size)
    (hk : ∀ v' w', OwnW w' base v' (l ++ news) → w.grownBy w' v.ownBlock → (v'.ownBlock = v.ownBlock ∨ v'.ownBlock = some w.heap.size) → wpList Try.prog ops Q rest (a.put o.dst v') w') : wpList Try.prog ops Q (o :: rest) a w := by
  refine wpList_plain hgd fun K hK => ?_
  rcases hr.2 with ⟨h0, xa, xc, rfl⟩ | ⟨b, off, cap, rfl, hb, hc, hm, hcell⟩
  · have hn : news = [] := List.eq_nil_of_length_eq_zero h0
    subst hn
    obtain ⟨i0, hi0⟩ := info_of info_pk
    have hv : ∃ va vc, v = .slice va l.length vc ∧ l.length ≤ vc := by
      rcases h with ⟨rfl, rfl⟩ | ⟨g, cap, cur, rfl, _, _, hlc, _⟩
      · exact ⟨none, 0, rfl, Nat.le_refl _⟩
      · exact ⟨_, cap, rfl, hlc⟩
    obtain ⟨va, vc, rfl, hvc⟩ := hv
    have hrun := run_app0 (P := Try.prog) w 40 o.type 37 i0 Try.underlying40 hi0 va l.length vc hvc xa xc
    unfold Oper.wp execOp
    simp only [ho, resolve, invoke, builtin, Sem.run_bind, Sem.run_pure, Result.andThen_ok, List.map_toArray, List.map_cons, List.map_nil, hs, hx, hrun]
    exact hK _ _ (hk _ w (by rw [List.append_nil]; exact h) (grown_refl w _) (.inl rfl))
  · rcases Nat.eq_zero_or_pos news.length with h0 | h0
    · have hn : news = [] := List.eq_nil_of_length_eq_zero h0
      subst hn
      obtain ⟨i0, hi0⟩ := info_of info_pk
      have hv : ∃ va vc, v = .slice va l.length vc ∧ l.length ≤ vc := by
        rcases h with ⟨rfl, rfl⟩ | ⟨g, cap, cur, rfl, _, _, hlc, _⟩
        · exact ⟨none, 0, rfl, Nat.le_refl _⟩
        · exact ⟨_, cap, rfl, hlc⟩
      obtain ⟨va, vc, rfl, hvc⟩ := hv
      have hrun := run_app0 (P := Try.prog) w 40 o.type 37 i0 Try.underlying40 hi0 va l.length vc hvc (some ⟨b, off, none⟩) cap
      unfold Oper.wp execOp
      simp only [ho, resolve, invoke, builtin, Sem.run_bind, Sem.run_pure, Result.andThen_ok, List.map_toArray, List.map_cons, List.map_nil, hs, hx, List.length_nil, hrun]
      exact hK _ _ (hk _ w (by rw [List.append_nil]; exact h) (grown_refl w _) (.inl rfl))
    · refine wp_app_w w s x ho base v l hs h ⟨b, off, none⟩ news.length cap news rfl (.inl h0) hx (fun j u hu => ?_) hl hbase fun g cap' w' h1 h2 h3 => hK _ _ (hk _ w' h1 h2 ?_)
      · have hadd : (⟨b, off, none⟩ : Addr).add j = ⟨b, off + j, none⟩ := by unfold Addr.add; split <;> simp_all
        rw [hadd]; exact hcell j u hu
      · rcases h3 with h3 | h3
        · exact .inl (by rw [h3]; rfl)
        · exact .inr (by rw [← h3]; rfl)
/-- A row of texts is appended to one that is owned. -/
theorem wpl_strs (w : World) {ops : Array Oper} {rest : List Oper} {o : Oper} {a : Act} {Q : Exit → Act → World → Prop} (hgd : o.guard = none) (s x : Operand)
    (ho : o.op = .call { callee := .builtin .append, args := #[s, x], argTypes := #[30, 30] })
    (base : Nat) (v xv : Value) (l news : List ByteArray) (hs : a.eval s = v) (hx : a.eval x = xv) (h : w.ownsRow base 9 1 v l.length (l.map .string)) (hr : IsRow w 1 xv news.length (news.map .string)) (hl : l.length + news.length ≤ 1000000) (hbase : base ≤ w.heap.size)
    (hk : ∀ v' w', w'.ownsRow base 9 1 v' (l ++ news).length ((l ++ news).map .string) → w.grownBy w' v.ownBlock → (v'.ownBlock = v.ownBlock ∨ v'.ownBlock = some w.heap.size) → wpList Try.prog ops Q rest (a.put o.dst v') w') : wpList Try.prog ops Q (o :: rest) a w := by
  obtain ⟨i0, hi0, hz0, hz1, hz2⟩ := info_parts info_str
  rcases hr.2 with ⟨h0, xa, xc, rfl⟩ | ⟨b, off, cap, rfl, hb, hc, hm, hcell⟩
  · refine wpList_plain hgd fun K hK => ?_
    have hn : news = [] := List.eq_nil_of_length_eq_zero h0
    subst hn
    have hv : ∃ va vc, v = .slice va l.length vc ∧ l.length ≤ vc := by
      rcases h.2 with ⟨rfl, h1⟩ | ⟨g, cap, cur, rfl, _, _, hlc, _⟩
      · rw [h1]; exact ⟨none, 0, rfl, Nat.le_refl _⟩
      · exact ⟨_, cap, rfl, hlc⟩
    obtain ⟨va, vc, rfl, hvc⟩ := hv
    have hrun := run_app0 (P := Try.prog) w 30 o.type 9 i0 Try.underlying30 hi0 va l.length vc hvc xa xc
    unfold Oper.wp execOp
    simp only [ho, resolve, invoke, builtin, Sem.run_bind, Sem.run_pure, Result.andThen_ok, List.map_toArray, List.map_cons, List.map_nil, hs, hx, hrun]
    exact hK _ _ (hk _ w (by rw [List.append_nil]; exact h) (grown_refl w _) (.inl rfl))
  · refine wpList_append_own_at w hgd s x 30 ho base 9 i0 _ 1 16 Try.underlying30 hi0 hz0 hz1 hz2 rfl (by decide) v l.length (l.map .string) hs h ⟨b, off, none⟩ news.length cap (news.map .string) hx (by simp) (fun j u hu => ?_) (fun u hu => ?_) (by unfold maxLen; omega) (by omega) hbase fun v' w' h1 h2 _ h4 => hk v' w' ?_ h2 h4
    · have hadd : (⟨b, off, none⟩ : Addr).add j = ⟨b, off + j, none⟩ := by unfold Addr.add; split <;> simp_all
      rw [hadd]; exact hcell j u hu
    · obtain ⟨y, -, rfl⟩ := List.mem_map.1 hu; rfl
    · rw [List.length_append, List.map_append]; exact h1
/-- A place in a list of so many, out of any number. -/
def atN (n : Int) (m : Nat) : Nat := ((n.tmod m + m) % m).toNat
theorem tmod_b (n : Int) (m : Nat) (hm : 0 < m) : -(m : Int) < n.tmod m ∧ n.tmod m < m := by
  have a := Int.tmod_lt_of_pos n (show (0 : Int) < m by omega)
  have b := Int.tmod_lt_of_pos (-n) (show (0 : Int) < m by omega)
  rw [Int.neg_tmod] at b
  omega
theorem atN_lt (n : Int) (m : Nat) (hm : 0 < m) : atN n m < m := by
  unfold atN
  have := Int.emod_lt_of_pos (n.tmod m + m) (show (0 : Int) < m by omega)
  have := Int.emod_nonneg (n.tmod m + m) (show (m : Int) ≠ 0 by omega)
  omega
set_option maxRecDepth 100000 in
theorem at_any (n : Int) (m : Nat) (hm : 0 < m) (hm2 : m ≤ 100000) (w : World) : Calls Try.prog 32 #[.int .i64 n, .int .i64 (m : Int)] w fun e w' => e = .returned (.int .i64 (atN n m : Int)) ∧ w' = w := by
  obtain ⟨h1, h2⟩ := tmod_b n m hm
  have w1 : IntKind.i64.wrap (n.tmod m) = n.tmod m := wrapI (by omega) (by omega)
  have w2 : IntKind.i64.wrap (n.tmod m + m) = n.tmod m + m := wrapI (by omega) (by omega)
  have e3 : (n.tmod m + m).tmod m = (atN n m : Int) := by
    rw [Int.tmod_eq_emod_of_nonneg (by omega)]
    unfold atN
    have := Int.emod_nonneg (n.tmod m + m) (show (m : Int) ≠ 0 by omega)
    omega
  have hlt := atN_lt n m hm
  have w3 : IntKind.i64.wrap (atN n m : Int) = (atN n m : Int) := wrapI (by omega) (by omega)
  have hm0 : (m : Int) ≠ 0 := by omega
  have hm1 : ((m : Int) == 0) = false := by simpa using hm0
  have hmn : m ≠ 0 := by omega
  generalize atN n m = r at *
  go_enter Try.func32, Try.ntmps32
  go_wp2
  go_ret
  exact ⟨rfl, rfl⟩
end Go.Proofs.Ytiejehaaglpkoaa
