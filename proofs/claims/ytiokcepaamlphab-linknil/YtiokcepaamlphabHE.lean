/- The net's add, Send: walks. -/
import Derived.Test.YtiokcepaamlphabHD
namespace Go.Proofs.Ytiokcepaamlphab
open Go.RowKit

theorem wp_app_w (w : World) {o : Oper} {a : Act} {K : Act → World → Prop} {Q : Exit → Act → World → Prop} (s x : Operand)
    (ho : o.op = .call { callee := .builtin .append, args := #[s, x], argTypes := #[28, 28] })
    (base : Nat) (v : Value) (l : List Pk) (hs : a.eval s = v) (h : OwnW w base v l) (ad : Addr) (m c : Nat) (news : List Pk) (hm : m = news.length) (hne : 0 < m ∨ v ≠ .slice none 0 0) (hx : a.eval x = .slice (some ad) m c)
    (hn : ∀ j u, (pCells news)[j]? = some u → w.cell? (ad.add j) = some u) (hl : l.length + m ≤ 1000000) (hbase : base ≤ w.heap.size)
    (hk : ∀ g cap w', OwnW w' base (.slice (some ⟨g, 0, none⟩) (l.length + m) cap) (l ++ news) → w.grownBy w' v.ownBlock → (v.ownBlock = some g ∨ g = w.heap.size) → K (a.put o.dst (.slice (some ⟨g, 0, none⟩) (l.length + m) cap)) w') : o.wp Try.prog a w K Q := by
  obtain ⟨g, cap, w', hr, h2, h3, h4⟩ := run_app_w w o.type base v l h ad m c news hm hne hn hl hbase
  unfold Oper.wp execOp
  simp only [ho, resolve, invoke, builtin, Sem.run_bind, Sem.run_pure, Result.andThen_ok, List.map_toArray, List.map_cons, List.map_nil, hs, hx, hr]
  exact hk g cap w' h2 h3 h4
theorem step_app_w (w : World) {ops : Array Oper} {o : Oper} {a : Act} {K : Act → World → Prop} {Q : Exit → Act → World → Prop} {E : Prop} (hgd : o.guard = none) (s x : Operand)
    (ho : o.op = .call { callee := .builtin .append, args := #[s, x], argTypes := #[28, 28] })
    (base : Nat) (v : Value) (l : List Pk) (hs : a.eval s = v) (h : OwnW w base v l) (ad : Addr) (m c : Nat) (news : List Pk) (hm : m = news.length) (hne : 0 < m ∨ v ≠ .slice none 0 0) (hx : a.eval x = .slice (some ad) m c)
    (hn : ∀ j u, (pCells news)[j]? = some u → w.cell? (ad.add j) = some u) (hl : l.length + m ≤ 1000000) (hbase : base ≤ w.heap.size)
    (hk : ∀ g cap w', OwnW w' base (.slice (some ⟨g, 0, none⟩) (l.length + m) cap) (l ++ news) → w.grownBy w' v.ownBlock → (v.ownBlock = some g ∨ g = w.heap.size) → K (a.put o.dst (.slice (some ⟨g, 0, none⟩) (l.length + m) cap)) w') :
    if Region.wanted o (yielded ops a.tmps) = true then Oper.wp Try.prog o a w K Q else E := by
  have hw : Region.wanted o (yielded ops a.tmps) = true := by simp [Region.wanted, hgd]
  rw [if_pos hw]
  exact wp_app_w w s x ho base v l hs h ad m c news hm hne hx hn hl hbase hk
theorem news_at {w : World} {B : Nat} {p : Pk} {t : TypeId} (hb : w.heap[B]? = some (.cells (pA p) t (0, 0))) : ∀ j u, (pCells [p])[j]? = some u → w.cell? ((⟨B, 0, none⟩ : Addr).add j) = some u := by
  rw [pCells_one]
  exact World.news_of_block (cs := pA p) hb
theorem OwnW.al {w : World} {base : Nat} {v : Value} {l : List Pk} (h : OwnW w base v l) (o : Obj) : OwnW (w.alloc o) base v l := h.keep fun k hk => Below.heap_alloc w o k (h.lt k hk).2
theorem OwnW.drew {w : World} {base : Nat} {v : Value} {l : List Pk} (h : OwnW w base v l) : OwnW w.drew base v l := h.keep fun _ _ => rfl
end Go.Proofs.Ytiokcepaamlphab
