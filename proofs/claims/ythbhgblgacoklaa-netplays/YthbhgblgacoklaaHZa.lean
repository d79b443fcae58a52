/- A net and blocks beside it that stay; NetOnce plainly: what is under way, by numbers. -/
import Derived.Test.YthbhgblgacoklaaHO
namespace Go.Proofs.Ythbhgblgacoklaa
open Go.RowKit

/-- A net of one's own, and blocks of one's own beside it. -/
def NQ (w : World) (R : Nat → List Pk) (A : Nat → Bool) (g : Nat) (K : List (Nat × Obj)) (W : World) : Prop := ∃ V, NetV w.heap.size W g V R A ∧ Below w.heap.size w W ∧ (∀ p ∈ K, W.heap[p.1]? = some p.2 ∧ ¬ Fp g V p.1 ∧ w.heap.size ≤ p.1) ∧ (K.map (·.1)).Nodup
theorem NQ.to {w W : World} {R : Nat → List Pk} {A : Nat → Bool} {g : Nat} {K : List (Nat × Obj)} (h : NQ w R A g K W) : Below w.heap.size w W := by
  obtain ⟨V, hv, hb, hk, hn⟩ := h
  exact hb
theorem NQ.blk {w W : World} {R : Nat → List Pk} {A : Nat → Bool} {g : Nat} {K : List (Nat × Obj)} (h : NQ w R A g K W) : ∀ p ∈ K, W.heap[p.1]? = some p.2 := by
  obtain ⟨V, hv, hb, hk, hn⟩ := h
  exact fun p hp => (hk p hp).1
theorem NQ.sub {w W : World} {R : Nat → List Pk} {A : Nat → Bool} {g : Nat} {K K' : List (Nat × Obj)} (h : NQ w R A g K W) (hs : K'.Sublist K) : NQ w R A g K' W := by
  obtain ⟨V, hv, hb, hk, hn⟩ := h
  exact ⟨V, hv, hb, fun p hp => hk p (hs.subset hp), hn.sublist (hs.map _)⟩
theorem NQ.perm {w W : World} {R : Nat → List Pk} {A : Nat → Bool} {g : Nat} {K K' : List (Nat × Obj)} (h : NQ w R A g K W) (hs : K'.Perm K) : NQ w R A g K' W := by
  obtain ⟨V, hv, hb, hk, hn⟩ := h
  exact ⟨V, hv, hb, fun p hp => hk p (hs.subset hp), (hs.map _).nodup_iff.2 hn⟩
theorem NQ.below {w W W' : World} {R : Nat → List Pk} {A : Nat → Bool} {g : Nat} {K : List (Nat × Obj)} (h : NQ w R A g K W) (hb : Below W.heap.size W W') : NQ w R A g K W' := by
  obtain ⟨V, hv, hb', hk, hn⟩ := h
  refine ⟨V, hv.below hb, hb'.trans (hb.mono hb'.size), fun p hp => ?_, hn⟩
  obtain ⟨h1, h2⟩ := hk p hp
  exact ⟨(hb.block p.1 (Array.getElem?_eq_some_iff.1 h1).1).trans h1, h2⟩
theorem below_drw (w : World) : Below w.heap.size w w.drew := ⟨rfl, rfl, rfl, Nat.le_refl _, fun _ _ => rfl⟩
theorem NQ.alloc {w W : World} {R : Nat → List Pk} {A : Nat → Bool} {g : Nat} {K : List (Nat × Obj)} (h : NQ w R A g K W) (o : Obj) : NQ w R A g ((W.heap.size, o) :: K) (W.alloc o) := by
  obtain ⟨V, hv0, hb0, hk0, hn0⟩ := h
  have hlt : ∀ p ∈ K, p.1 < W.heap.size := fun p hp => (Array.getElem?_eq_some_iff.1 (hk0 p hp).1).1
  refine ⟨V, hv0.below (al_b W o), hb0.trans ((al_b W o).mono hb0.size), fun p hp => ?_, ?_⟩
  · rcases List.mem_cons.1 hp with rfl | hp
    · exact ⟨heap_alloc_new W o, fun hf => by have := (hv0.lt hf).2; simp at this, hb0.size⟩
    · obtain ⟨h1, h2⟩ := hk0 p hp
      exact ⟨((al_b W o).block p.1 (hlt p hp)).trans h1, h2⟩
  · rw [List.map_cons, List.nodup_cons]
    refine ⟨fun hm => ?_, hn0⟩
    obtain ⟨p, hp, e⟩ := List.mem_map.1 hm
    have := hlt p hp
    omega
/-- A cell of the first block beside is written. -/
theorem NQ.set {w W : World} {R : Nat → List Pk} {A : Nat → Bool} {g N : Nat} {C : Array Value} {t : TypeId} {K : List (Nat × Obj)} (h : NQ w R A g ((N, .cells C t (0, 0)) :: K) W) (o : Nat) (v : Value) : NQ w R A g ((N, .cells (C.setIfInBounds o v) t (0, 0)) :: K) (W.setCell ⟨N, o, none⟩ v) := by
  obtain ⟨V, hv, hb, hk, hn⟩ := h
  obtain ⟨h1, h2, h3⟩ := hk (N, .cells C t (0, 0)) (List.mem_cons_self ..)
  obtain ⟨s1, s2⟩ := setCell_at W o h1 v
  rw [List.map_cons, List.nodup_cons] at hn
  refine ⟨V, hv.keep fun k hf => s2 k fun e => h2 (by rw [← e]; exact hf), ?_, fun p hp => ?_, by rw [List.map_cons, List.nodup_cons]; exact hn⟩
  · have z : (W.setCell ⟨N, o, none⟩ v).heap.size = W.heap.size := by rw [setCell_eq_setRow W N o _ _ (0, 0) v h1]; simp
    exact ⟨hb.os, hb.tape, hb.output, by rw [z]; exact hb.size, fun k hkk => (s2 k (by have h3' : w.heap.size ≤ N := h3; omega)).trans (hb.block k hkk)⟩
  · rcases List.mem_cons.1 hp with rfl | hp
    · exact ⟨s1, h2, h3⟩
    · obtain ⟨q1, q2⟩ := hk p (List.mem_cons_of_mem _ hp)
      exact ⟨(s2 p.1 fun e => hn.1 (by rw [← e]; exact List.mem_map.2 ⟨p, hp, rfl⟩)).trans q1, q2⟩
theorem NQ.set2 {w W : World} {R : Nat → List Pk} {A : Nat → Bool} {g N : Nat} {C : Array Value} {t : TypeId} {p : Nat × Obj} {K : List (Nat × Obj)} (h : NQ w R A g (p :: (N, .cells C t (0, 0)) :: K) W) (o : Nat) (v : Value) : NQ w R A g (p :: (N, .cells (C.setIfInBounds o v) t (0, 0)) :: K) (W.setCell ⟨N, o, none⟩ v) :=
  ((h.perm (List.Perm.swap _ _ _)).set o v).perm (List.Perm.swap _ _ _)
/-- A call that turns the net alone. -/
theorem NQ.call {w W : World} {R R' : Nat → List Pk} {A A' : Nat → Bool} {g : Nat} {K : List (Nat × Obj)} {f : FuncId} {args : Array Value} {r : Value} (h : NQ w R A g K W)
    (hc : ∀ V, NetV w.heap.size W g V R A → Calls Try.prog f args W fun e w' => NP w.heap.size W g V R' A' r e w') : Calls Try.prog f args W fun e w' => e = .returned r ∧ NQ w R' A' g K w' := by
  obtain ⟨V, h1, h2, h3, h4⟩ := h
  refine (hc V h1).mono fun e w' hp => ?_
  obtain ⟨he, V', k1, k2⟩ := hp
  refine ⟨he, V', k1, h2.trans (k2.below h1), fun p hp => ?_, h4⟩
  obtain ⟨m1, m2, m3⟩ := h3 p hp
  obtain ⟨n1, n2⟩ := k2.far (Array.getElem?_eq_some_iff.1 m1).1 m2
  exact ⟨n1.trans m1, n2, m3⟩
theorem NQ.new (w : World) : NQ w noR noA w.heap.size [] (w.alloc (.cells zNet 69)) := ⟨noV, net_new w, al_b w _, fun p hp => by simp at hp, by simp⟩

/-- How many packets of a number are under way, in the first rows. -/
def akN (R : Nat → List Pk) (a : Nat) : Nat → Nat
  | 0 => 0
  | n + 1 => akN R a n + (R n).countP fun p => p.ak == (a : Int)
theorem akN_up (R : Nat → List Pk) (a c : Nat) (l : List Pk) : ∀ n, c < n → akN (up R c l) a n + ((R c).countP fun p => p.ak == (a : Int)) = akN R a n + (l.countP fun p => p.ak == (a : Int))
  | 0, h => absurd h (by omega)
  | n + 1, h => by
    have far : ∀ m, m ≤ c → akN (up R c l) a m = akN R a m := fun m => by
      induction m with
      | zero => intro _; rfl
      | succ m ih =>
        intro hm
        show akN (up R c l) a m + _ = akN R a m + _
        rw [ih (by omega), up_other R l (by omega)]
    show akN (up R c l) a n + ((up R c l n).countP _) + _ = akN R a n + ((R n).countP _) + _
    by_cases e : n = c
    · subst e
      rw [up_same, far n (Nat.le_refl _)]
      omega
    · have := akN_up R a c l n (by omega)
      rw [up_other R l e]
      omega
theorem akN_le {R R' : Nat → List Pk} (a : Nat) (h : ∀ c, c < 256 → ((R' c).countP fun p => p.ak == (a : Int)) ≤ ((R c).countP fun p => p.ak == (a : Int))) : ∀ n, n ≤ 256 → akN R' a n ≤ akN R a n
  | 0, _ => Nat.le_refl _
  | n + 1, hn => by
    have := akN_le a h n (by omega)
    have := h n (by omega)
    show akN R' a n + _ ≤ akN R a n + _
    omega
theorem akN_none (a : Nat) : ∀ n, akN noR a n = 0
  | 0 => rfl
  | n + 1 => by show akN noR a n + 0 = 0; rw [akN_none a n]
/-- An act. -/
structure Ac where
  k : Int
  p : Pk
  f : Int
  t : Int
  i : Int
  on : Bool
def zAc : Ac := ⟨0, zP, 0, 0, 0, false⟩
def enAc (x : Ac) : List Value := [.int .i64 x.k, .int .i64 x.p.f, .int .i64 x.p.t, .int .i64 x.p.fl, .int .i64 x.p.tl, .int .i64 x.p.sq, .int .i64 x.p.ak, .string x.p.x, .int .i64 x.f, .int .i64 x.t, .int .i64 x.i, .bool x.on]
abbrev acA (x : Ac) : Array Value := #[.int .i64 x.k, .int .i64 x.p.f, .int .i64 x.p.t, .int .i64 x.p.fl, .int .i64 x.p.tl, .int .i64 x.p.sq, .int .i64 x.p.ak, .string x.p.x, .int .i64 x.f, .int .i64 x.t, .int .i64 x.i, .bool x.on]
abbrev acV (x : Ac) : Value := .agg (acA x)
/-- A packet of a row, as it may be behind k acts. -/
def OkP (l : List Ac) (k c : Nat) (p : Pk) : Prop := ∃ a : Nat, p.ak = (a : Int) ∧ a < k ∧ a < 60 ∧ p.sq = (a : Int) + 1 ∧ p.f = ((c / 16 : Nat) : Int) ∧ p.t = ((c % 16 : Nat) : Int) ∧ p.x = (l.getD a zAc).p.x
theorem OkP.more {l : List Ac} {k k' c : Nat} {p : Pk} (h : OkP l k c p) (hk : k ≤ k') : OkP l k' c p := by
  obtain ⟨a, h1, h2, h3⟩ := h
  exact ⟨a, h1, by omega, h3⟩
/-- What holds behind k acts. -/
structure OI (l : List Ac) (k : Nat) (R : Nat → List Pk) (fs ft : Nat → Nat) : Prop where
  el : ∀ c, c < 256 → ∀ p ∈ R c, OkP l k c p
  wf : WFr R
  cn : cntN R 256 ≤ 400
  ct : ∀ a, a < 60 → ft a + akN R a 256 ≤ fs a
  fb : ∀ a, fs a ≤ k
theorem OI.new (l : List Ac) : OI l 0 noR (fun _ => 0) (fun _ => 0) := ⟨fun c _ p hp => by simp [noR] at hp, fun c _ h => absurd rfl h, by rw [cnt_none]; omega, fun a _ => by rw [akN_none]; omega, fun _ => Nat.le_refl _⟩
def upN (f : Nat → Nat) (a v : Nat) : Nat → Nat := fun b => if b = a then v else f b
theorem OI.more {l : List Ac} {k : Nat} {R : Nat → List Pk} {fs ft : Nat → Nat} (h : OI l k R fs ft) : OI l (k + 1) R fs ft :=
  ⟨fun c hc p hp => (h.el c hc p hp).more (by omega), h.wf, h.cn, h.ct, fun a => Nat.le_succ_of_le (h.fb a)⟩
theorem rix_lt {f t : Int} (h : hopB f t = true) : rix f t < 256 ∧ ((rix f t / 16 : Nat) : Int) = f ∧ ((rix f t % 16 : Nat) : Int) = t := by
  obtain ⟨a, b, rfl, rfl, h1, h2, h3, h4, h5⟩ := hop_nat h
  rw [rix_nat]
  omega
theorem wf_up {R : Nat → List Pk} (h : WFr R) {f t : Int} (hh : hopB f t = true) (l : List Pk) : WFr (up R (rix f t) l) := by
  intro c hc hne
  by_cases e : c = rix f t
  · obtain ⟨-, h2, h3⟩ := rix_lt hh
    rw [e, h2, h3]
    exact hh
  · rw [up_other R l e] at hne
    exact h c hc hne
theorem cut_count (l : List Pk) {i : Nat} (hi : i < l.length) (q : Pk → Bool) : (cutP l i).countP q + (if q l[i] then 1 else 0) = l.countP q := by
  have e : l = l.take i ++ (l[i] :: l.drop (i + 1)) := by rw [← List.drop_eq_getElem_cons hi, List.take_append_drop]
  have h2 : l.countP q = (l.take i).countP q + ((l.drop (i + 1)).countP q + if q l[i] then 1 else 0) := by
    have h3 : l.countP q = (l.take i ++ (l[i] :: l.drop (i + 1))).countP q := by rw [← e]
    rw [h3, List.countP_append, List.countP_cons]
  unfold cutP
  rw [List.countP_append]
  omega
theorem cut_len {l : List Pk} {i : Nat} (hi : i < l.length) : (cutP l i).length + 1 = l.length := by
  unfold cutP
  rw [List.length_append, List.length_take, List.length_drop]
  omega
theorem cut_mem {l : List Pk} {i : Nat} {p : Pk} (h : p ∈ cutP l i) : p ∈ l := by
  unfold cutP at h
  rcases List.mem_append.1 h with h | h
  · exact List.mem_of_mem_take h
  · exact List.mem_of_mem_drop h
/-- One that was there goes. -/
theorem OI.cut {l : List Ac} {k : Nat} {R : Nat → List Pk} {fs ft : Nat → Nat} (h : OI l k R fs ft) {f t : Int} (hh : hopB f t = true) {i : Nat} (hi : i < (R (rix f t)).length) : ∃ a : Nat, (R (rix f t))[i].ak = (a : Int) ∧ a < 60 ∧ OkP l k (rix f t) (R (rix f t))[i] ∧ OI l k (up R (rix f t) (cutP (R (rix f t)) i)) fs (upN ft a (ft a + 1)) := by
  obtain ⟨hlt, -, -⟩ := rix_lt hh
  have hok := h.el _ hlt _ (List.getElem_mem hi)
  obtain ⟨a, h1, h2, h3, h4⟩ := hok
  refine ⟨a, h1, h3, h.el _ hlt _ (List.getElem_mem hi), fun c hc p hp => ?_, wf_up h.wf hh _, ?_, fun b hb => ?_, h.fb⟩
  · by_cases e : c = rix f t
    · subst e
      rw [up_same] at hp
      exact h.el _ hc p (cut_mem hp)
    · rw [up_other R _ e] at hp
      exact h.el c hc p hp
  · have := cntN_up R (rix f t) (cutP (R (rix f t)) i) 256 hlt
    have := cut_len hi
    have := h.cn
    omega
  · have e1 := akN_up R b (rix f t) (cutP (R (rix f t)) i) 256 hlt
    have e2 := cut_count (R (rix f t)) hi (fun p => p.ak == (b : Int))
    have e3 := h.ct b hb
    unfold upN
    by_cases e : b = a
    · subst e
      rw [if_pos rfl]
      rw [if_pos (by simp [h1])] at e2
      omega
    · rw [if_neg e]
      have : ¬ ((R (rix f t))[i].ak == (b : Int)) = true := by rw [h1]; simp; omega
      rw [if_neg this] at e2
      omega
theorem OI.less {l : List Ac} {k : Nat} {R : Nat → List Pk} {fs ft ft' : Nat → Nat} (h : OI l k R fs ft) (hl : ∀ a, ft' a ≤ ft a) : OI l k R fs ft' := ⟨h.el, h.wf, h.cn, fun a ha => by have := h.ct a ha; have := hl a; omega, h.fb⟩
/-- One more comes. -/
theorem OI.add {l : List Ac} {k : Nat} {R : Nat → List Pk} {fs ft : Nat → Nat} (h : OI l k R fs ft) {f t : Int} (hh : hopB f t = true) {p : Pk} {a : Nat} (ha : p.ak = (a : Int)) (hp : OkP l (k + 1) (rix f t) p) (hc : cntN R 256 < 400) : OI l (k + 1) (up R (rix f t) (R (rix f t) ++ [p])) (upN fs a (fs a + 1)) ft := by
  obtain ⟨hlt, -, -⟩ := rix_lt hh
  refine ⟨fun c hc' q hq => ?_, wf_up h.wf hh _, ?_, fun b hb => ?_, fun b => ?_⟩
  · by_cases e : c = rix f t
    · subst e
      rw [up_same] at hq
      rcases List.mem_append.1 hq with hq | hq
      · exact (h.el _ hc' q hq).more (by omega)
      · rw [List.mem_singleton.1 hq]; exact hp
    · rw [up_other R _ e] at hq
      exact (h.el c hc' q hq).more (by omega)
  · have := cntN_up R (rix f t) (R (rix f t) ++ [p]) 256 hlt
    rw [List.length_append, List.length_singleton] at this
    omega
  · have e1 := akN_up R b (rix f t) (R (rix f t) ++ [p]) 256 hlt
    rw [List.countP_append, List.countP_cons, List.countP_nil] at e1
    have e3 := h.ct b hb
    unfold upN
    by_cases e : b = a
    · subst e
      rw [if_pos rfl]
      rw [if_pos (by simp [ha])] at e1
      omega
    · rw [if_neg e]
      have : ¬ (p.ak == (b : Int)) = true := by rw [ha]; simp; omega
      rw [if_neg this] at e1
      omega
  · unfold upN
    have := h.fb b
    have := h.fb a
    split <;> omega
/-- A node's rows go. -/
theorem OI.clear {l : List Ac} {k : Nat} {R : Nat → List Pk} {fs ft : Nat → Nat} (h : OI l k R fs ft) (n m : Nat) (hcl : cntN (clrK R n m) 256 ≤ cntN R 256) : OI l k (clrK R n m) fs ft := by
  have hs : ∀ c, clrK R n m c = [] ∨ clrK R n m c = R c := fun c => by unfold clrK; split; exact .inl rfl; exact .inr rfl
  refine ⟨fun c hc p hp => ?_, fun c hc hne => ?_, Nat.le_trans hcl h.cn, fun a ha => ?_, h.fb⟩
  · rcases hs c with e | e
    · rw [e] at hp; simp at hp
    · rw [e] at hp; exact h.el c hc p hp
  · rcases hs c with e | e
    · exact absurd e hne
    · rw [e] at hne; exact h.wf c hc hne
  · have := akN_le (R := R) (R' := clrK R n m) a (fun c _ => by
      rcases hs c with e | e
      · rw [e]; simp
      · rw [e]; exact Nat.le_refl _) 256 (Nat.le_refl _)
    have := h.ct a ha
    omega
end Go.Proofs.Ythbhgblgacoklaa
