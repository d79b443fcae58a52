/- A queue and blocks beside it that stay: what each call leaves. -/
import Derived.Test.YtnldibcfpbignaaDoorQK
namespace Go.Proofs.YtnldibcfpbignaaDoor
open Go.RowKit Go.ChangeMaps

/-- A queue of one's own, and blocks of one's own beside it. -/
def QS (w : World) (Q : Qu) (g : Nat) (K : List (Nat × Obj)) (W : World) : Prop := ∃ m vq, QuV w.heap.size W g m vq Q ∧ Below w.heap.size w W ∧ (∀ p ∈ K, W.heap[p.1]? = some p.2 ∧ ¬ QF g m vq p.1 ∧ w.heap.size ≤ p.1) ∧ (K.map (·.1)).Nodup
theorem QS.to {w W : World} {Q : Qu} {g : Nat} {K : List (Nat × Obj)} (h : QS w Q g K W) : Below w.heap.size w W := by
  obtain ⟨m, vq, hv, hb, hk, hn⟩ := h
  exact hb
theorem QS.blk {w W : World} {Q : Qu} {g : Nat} {K : List (Nat × Obj)} (h : QS w Q g K W) : ∀ p ∈ K, W.heap[p.1]? = some p.2 := by
  obtain ⟨m, vq, hv, hb, hk, hn⟩ := h
  exact fun p hp => (hk p hp).1
theorem QS.new {w W : World} {Q : Qu} {g m : Nat} {vq : Value} (hv : QuV w.heap.size W g m vq Q) (hb : Below w.heap.size w W) : QS w Q g [] W := ⟨m, vq, hv, hb, fun p hp => by simp at hp, by simp⟩
theorem QS.sub {w W : World} {Q : Qu} {g : Nat} {K K' : List (Nat × Obj)} (h : QS w Q g K W) (hs : K'.Sublist K) : QS w Q g K' W := by
  obtain ⟨m, vq, hv, hb, hk, hn⟩ := h
  exact ⟨m, vq, hv, hb, fun p hp => hk p (hs.subset hp), hn.sublist (hs.map _)⟩
theorem QS.perm {w W : World} {Q : Qu} {g : Nat} {K K' : List (Nat × Obj)} (h : QS w Q g K W) (hs : K'.Perm K) : QS w Q g K' W := by
  obtain ⟨m, vq, hv, hb, hk, hn⟩ := h
  exact ⟨m, vq, hv, hb, fun p hp => hk p (hs.subset hp), (hs.map _).nodup_iff.2 hn⟩
theorem QS.below {w W W' : World} {Q : Qu} {g : Nat} {K : List (Nat × Obj)} (h : QS w Q g K W) (hb : Below W.heap.size W W') : QS w Q g K W' := by
  obtain ⟨m, vq, hv, hb', hk, hn⟩ := h
  refine ⟨m, vq, hv.below hb, hb'.trans (hb.mono hb'.size), fun p hp => ?_, hn⟩
  obtain ⟨h1, h2⟩ := hk p hp
  exact ⟨(hb.block p.1 (Array.getElem?_eq_some_iff.1 h1).1).trans h1, h2⟩
theorem QS.drew {w W : World} {Q : Qu} {g : Nat} {K : List (Nat × Obj)} (h : QS w Q g K W) : QS w Q g K W.drew := h.below (below_dr2 W)
theorem QS.alloc {w W : World} {Q : Qu} {g : Nat} {K : List (Nat × Obj)} (h : QS w Q g K W) (o : Obj) : QS w Q g ((W.heap.size, o) :: K) (W.alloc o) := by
  have h' := h.below (al_b W o)
  obtain ⟨m0, vq0, hv0, hb0, hk0, hn0⟩ := h
  have hlt : ∀ p ∈ K, p.1 < W.heap.size := fun p hp => (Array.getElem?_eq_some_iff.1 (hk0 p hp).1).1
  refine ⟨m0, vq0, hv0.below (al_b W o), hb0.trans ((al_b W o).mono hb0.size), fun p hp => ?_, ?_⟩
  · rcases List.mem_cons.1 hp with rfl | hp
    · exact ⟨heap_alloc_new W o, fun hf => by have := (hv0.lt hf).2; simp at this, hb0.size⟩
    · obtain ⟨h1, h2⟩ := hk0 p hp
      exact ⟨((al_b W o).block p.1 (hlt p hp)).trans h1, h2⟩
  · rw [List.map_cons, List.nodup_cons]
    refine ⟨fun hm => ?_, hn0⟩
    obtain ⟨p, hp, e⟩ := List.mem_map.1 hm
    have := hlt p hp
    omega
/-- A cell of the first block beside is written. -/
theorem QS.set {w W : World} {Q : Qu} {g N : Nat} {C : Array Value} {t : TypeId} {K : List (Nat × Obj)} (h : QS w Q g ((N, .cells C t (0, 0)) :: K) W) (o : Nat) (v : Value) : QS w Q g ((N, .cells (C.setIfInBounds o v) t (0, 0)) :: K) (W.setCell ⟨N, o, none⟩ v) := by
  obtain ⟨m, vq, hv, hb, hk, hn⟩ := h
  obtain ⟨h1, h2, h3⟩ := hk (N, .cells C t (0, 0)) (List.mem_cons_self ..)
  obtain ⟨s1, s2⟩ := setCell_at W o h1 v
  rw [List.map_cons, List.nodup_cons] at hn
  refine ⟨m, vq, hv.keep fun k hf => s2 k fun e => h2 (by rw [← e]; exact hf), ?_, fun p hp => ?_, by rw [List.map_cons, List.nodup_cons]; exact hn⟩
  · have z : (W.setCell ⟨N, o, none⟩ v).heap.size = W.heap.size := by rw [setCell_eq_setRow W N o _ _ (0, 0) v h1]; simp
    exact ⟨hb.os, hb.tape, hb.output, by rw [z]; exact hb.size, fun k hkk => (s2 k (by have h3' : w.heap.size ≤ N := h3; omega)).trans (hb.block k hkk)⟩
  · rcases List.mem_cons.1 hp with rfl | hp
    · exact ⟨s1, h2, h3⟩
    · obtain ⟨q1, q2⟩ := hk p (List.mem_cons_of_mem _ hp)
      exact ⟨(s2 p.1 fun e => hn.1 (by rw [← e]; exact List.mem_map.2 ⟨p, hp, rfl⟩)).trans q1, q2⟩
/-- A call that turns the queue alone. -/
theorem QS.step {w W W' : World} {Q Q' : Qu} {g m : Nat} {vq vq' : Value} {K : List (Nat × Obj)} (hv : QuV w.heap.size W g m vq Q) (hb : Below w.heap.size w W) (hk : ∀ p ∈ K, W.heap[p.1]? = some p.2 ∧ ¬ QF g m vq p.1 ∧ w.heap.size ≤ p.1) (hn : (K.map (·.1)).Nodup) (hv' : QuV w.heap.size W' g m vq' Q') (hs : Stp W (QF g m vq) (QF g m vq') W') : QS w Q' g K W' := by
  refine ⟨m, vq', hv', hb.trans (hv.stpB hs), fun p hp => ?_, hn⟩
  obtain ⟨h1, h2, h3⟩ := hk p hp
  obtain ⟨q1, q2⟩ := hs.far (Array.getElem?_eq_some_iff.1 h1).1 h2
  exact ⟨q1.trans h1, q2, h3⟩
theorem QS.offer {w W : World} {Q : Qu} {g : Nat} {K : List (Nat × Obj)} (h : QS w Q g K W) (s q : Int) (hs : 1 ≤ s) (h1 : 1 ≤ q) (h2 : q ≤ 1099511627775) (hl : Q.l.length ≤ 1000) (ho : 0 ≤ Q.ov s) (ho2 : Q.ov s ≤ 100000) :
    Calls Tryd.prog 13 #[qP g, gV (gk s q)] W fun e w' => e = .returned (.int .i64 (offE Q)) ∧ QS w (offQ Q (gk s q)) g K w' := by
  obtain ⟨m, vq, hv, hb, hk, hn⟩ := h
  refine (offer_ok hv s q hs h1 h2 hl ho ho2).mono ?_
  rintro e w' ⟨vq', rfl, hv', hs'⟩
  exact ⟨rfl, QS.step hv hb hk hn hv' hs'⟩
theorem QS.forget {w W : World} {Q : Qu} {g : Nat} {K : List (Nat × Obj)} (h : QS w Q g K W) (hl : Q.l.length ≤ 1000) (sub : Int) :
    Calls Tryd.prog 18 #[qP g, .int .i64 sub] W fun e w' => e = .returned (.int .i64 ((Q.l.length - (stay sub Q.l).length : Nat) : Int)) ∧ QS w (fgQ Q sub) g K w' := by
  obtain ⟨m, vq, hv, hb, hk, hn⟩ := h
  refine (forget_any hv hl sub).mono ?_
  rintro e w' ⟨vq', rfl, hv', hs'⟩
  exact ⟨rfl, QS.step hv hb hk hn hv' hs'⟩
theorem QS.over {w W : World} {Q : Qu} {g : Nat} {K : List (Nat × Obj)} (h : QS w Q g K W) (s : Int) : Calls Tryd.prog 20 #[qP g, .int .i64 s] W fun e w' => e = .returned (.int .i64 (Q.ov s)) ∧ w' = W := by
  obtain ⟨m, vq, hv, hb, hk, hn⟩ := h
  exact overQ_any hv s
theorem QS.len {w W : World} {Q : Qu} {g : Nat} {K : List (Nat × Obj)} (h : QS w Q g K W) : Calls Tryd.prog 19 #[qP g] W fun e w' => e = .returned (.int .i64 Q.l.length) ∧ w' = W := by
  obtain ⟨m, vq, hv, hb, hk, hn⟩ := h
  exact lenQ_any hv
theorem QS.room {w W : World} {Q : Qu} {g : Nat} {K : List (Nat × Obj)} (h : QS w Q g K W) : Calls Tryd.prog 9 #[qP g] W fun e w' => e = .returned (.int .i64 Q.r) ∧ w' = W := by
  obtain ⟨m, vq, hv, hb, hk, hn⟩ := h
  exact roomQ_any hv
/-- Blocks that hold a row, whatever else is. -/
def RowB (K : List (Nat × Obj)) (r : Value) (l : List Gv) : Prop := ∀ W : World, (∀ p ∈ K, W.heap[p.1]? = some p.2) → IsRow W 7 r l.length (gCells l)
theorem rowB_own {W : World} {base : Nat} {r : Value} {l : List Gv} (h : W.ownsRow base 38 7 r l.length (gCells l)) : ∃ K : List (Nat × Obj), RowB K r l ∧ (∀ p ∈ K, W.heap[p.1]? = some p.2 ∧ base ≤ p.1) ∧ K.length ≤ 1 := by
  rcases h.2 with ⟨h1, h2⟩ | ⟨b, cap, cur, h1, hb, hg, r0⟩
  · refine ⟨[], fun W' _ => ?_, fun p hp => by simp at hp, by simp⟩
    obtain rfl : l = [] := List.eq_nil_of_length_eq_zero h2
    exact ⟨rfl, .inl ⟨rfl, _, _, h1⟩⟩
  · refine ⟨[(b, .cells cur 38 (0, 0))], fun W' hk => ?_, fun p hp => ?_, by simp⟩
    · have := hk _ (List.mem_singleton.2 rfl)
      exact IsRow.own (base := base) (e := 38) ⟨h.1, .inr ⟨b, cap, cur, h1, hb, this, r0⟩⟩
    · obtain rfl := List.mem_singleton.1 hp
      exact ⟨hg, hb⟩
theorem QS.row {w W : World} {Q : Qu} {g : Nat} {K K1 : List (Nat × Obj)} {r : Value} {l : List Gv} (h : QS w Q g K W) (hr : RowB K1 r l) (hs : K1 ⊆ K) : IsRow W 7 r l.length (gCells l) := hr W fun p hp => h.blk p (hs hp)
theorem QS.fresh {w W0 W : World} {Q : Qu} {g m : Nat} {vq : Value} {K K1 : List (Nat × Obj)} (hv0 : QuV w.heap.size W0 g m vq Q) {Q' : Qu} {vq' : Value} (hv : QuV w.heap.size W g m vq' Q') (hb : Below w.heap.size w W) (hk0 : ∀ p ∈ K, p.1 < W0.heap.size) (hk : ∀ p ∈ K, W.heap[p.1]? = some p.2 ∧ ¬ QF g m vq' p.1 ∧ w.heap.size ≤ p.1) (hn : (K.map (·.1)).Nodup) (hlt : ∀ k, QF g m vq' k → k < W0.heap.size) (h1 : ∀ p ∈ K1, W.heap[p.1]? = some p.2 ∧ W0.heap.size ≤ p.1) (hK1 : K1.length ≤ 1) : QS w Q' g (K1 ++ K) W := by
  have hws : w.heap.size ≤ W0.heap.size := hv0.size.2.2
  refine ⟨m, vq', hv, hb, fun p hp => ?_, ?_⟩
  · rcases List.mem_append.1 hp with hp | hp
    · obtain ⟨a1, a2⟩ := h1 p hp
      exact ⟨a1, fun hf => by have := hlt _ hf; omega, by omega⟩
    · exact hk p hp
  · rw [List.map_append, List.nodup_append]
    refine ⟨?_, hn, fun a ha b hb' => ?_⟩
    · match K1, hK1 with
      | [], _ => simp
      | [p], _ => simp
    · obtain ⟨p, hp, rfl⟩ := List.mem_map.1 ha
      obtain ⟨q, hq, rfl⟩ := List.mem_map.1 hb'
      have := (h1 p hp).2
      have := hk0 q hq
      omega
theorem QS.peek {w W : World} {Q : Qu} {g : Nat} {K : List (Nat × Obj)} (h : QS w Q g K W) (hl : Q.l.length ≤ 1000) (hG : GkL Q.l) :
    Calls Tryd.prog 22 #[qP g] W fun e w' => ∃ r K1, e = .returned r ∧ QS w Q g (K1 ++ K) w' ∧ RowB K1 r Q.l := by
  obtain ⟨m, vq, hv, hb, hk, hn⟩ := h
  refine (peek_ok hv hl hG).mono ?_
  rintro e w' ⟨r, rfl, hr, hb'⟩
  obtain ⟨K1, a1, a2, a3⟩ := rowB_own hr
  refine ⟨r, K1, rfl, QS.fresh hv (hv.below hb') (hb.trans (hb'.mono hb.size)) (fun p hp => (Array.getElem?_eq_some_iff.1 (hk p hp).1).1) (fun p hp => ?_) hn (fun k hf => (hv.lt hf).2) a2 a3, a1⟩
  obtain ⟨h1, h2⟩ := hk p hp
  exact ⟨(hb'.block p.1 (Array.getElem?_eq_some_iff.1 h1).1).trans h1, h2⟩
theorem QS.poll {w W : World} {Q : Qu} {g : Nat} {K : List (Nat × Obj)} (h : QS w Q g K W) (hl : Q.l.length ≤ 1000) (most : Int) :
    Calls Tryd.prog 16 #[qP g, .int .i64 most] W fun e w' => ∃ r K1, e = .returned r ∧ QS w ⟨Q.r, Q.l.drop (polN Q most), Q.ov⟩ g (K1 ++ K) w' ∧ RowB K1 r (Q.l.take (polN Q most)) := by
  obtain ⟨m, vq, hv, hb, hk, hn⟩ := h
  refine (poll_any hv hl most).mono ?_
  rintro e w' ⟨r, vq', rfl, hv', hs', hr, hat⟩
  obtain ⟨K1, a1, a2, a3⟩ := rowB_own hr
  refine ⟨r, K1, rfl, QS.fresh hv hv' (hb.trans (hv.stpB hs')) (fun p hp => (Array.getElem?_eq_some_iff.1 (hk p hp).1).1) (fun p hp => ?_) hn (fun k hf => ?_) a2 a3, a1⟩
  · obtain ⟨h1, h2, h3⟩ := hk p hp
    obtain ⟨q1, q2⟩ := hs'.far (Array.getElem?_eq_some_iff.1 h1).1 h2
    exact ⟨q1.trans h1, q2, h3⟩
  · refine (hv.lt (k := k) ?_).2
    rcases hf with hf | hf | hf
    · exact .inl hf
    · exact .inr (.inl hf)
    · exact .inr (.inr (hat.symm.trans hf))
theorem qs_new (r : Int) (w : World) (h1 : 1 ≤ r) (h2 : r ≤ 100) : Calls Tryd.prog 7 #[.int .i64 r] w fun e w' => ∃ g, e = .returned (qP g) ∧ QS w (newQ r) g [] w' := by
  refine (newQ_ok r w h1 h2).mono ?_
  rintro e w' ⟨g, m, rfl, hv, hb⟩
  exact ⟨g, rfl, QS.new hv hb⟩
/-- What k offers leave. -/
structure OkQ (r : Int) (k : Nat) (Q : Qu) : Prop where
  rm : Q.r = r
  len : Q.l.length ≤ k
  ov : ∀ s, 0 ≤ Q.ov s ∧ Q.ov s ≤ k
  gs : GkL Q.l
theorem OkQ.new (r : Int) : OkQ r 0 (newQ r) := ⟨rfl, by simp [newQ], fun s => by simp [newQ], fun x hx => by simp [newQ] at hx⟩
theorem OkQ.offer {r : Int} {k : Nat} {Q : Qu} (h : OkQ r k Q) (s q : Int) : OkQ r (k + 1) (offQ Q (gk s q)) := by
  unfold offQ
  have h2 := h.len
  split
  · refine ⟨h.rm, by show Q.l.length ≤ _; omega, fun s' => ?_, h.gs⟩
    show 0 ≤ upI Q.ov s (Q.ov s + 1) s' ∧ upI Q.ov s (Q.ov s + 1) s' ≤ _
    unfold upI
    have a1 := h.ov s
    have a2 := h.ov s'
    push_cast
    split <;> omega
  · refine ⟨h.rm, by show (Q.l ++ [_]).length ≤ _; rw [List.length_append, List.length_singleton]; omega, fun s' => ?_, fun x hx => ?_⟩
    · have a2 := h.ov s'
      show 0 ≤ Q.ov s' ∧ Q.ov s' ≤ _
      push_cast
      omega
    · rcases List.mem_append.1 hx with hx | hx
      · exact h.gs x hx
      · exact ⟨s, q, List.mem_singleton.1 hx⟩
end Go.Proofs.YtnldibcfpbignaaDoor
