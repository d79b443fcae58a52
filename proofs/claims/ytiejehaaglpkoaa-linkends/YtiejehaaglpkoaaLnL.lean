/- Things in memory that lie apart from one another, and what becomes of them when one is turned. -/
import Derived.Test.YtiejehaaglpkoaaLnK
namespace Go.Proofs.Ytiejehaaglpkoaa
open Go.RowKit Go.ChangeMaps

/-- A thing: its blocks, what is said of them. -/
structure Tg (base : Nat) where
  fp : Nat → Prop
  ok : World → Prop
  fr : ∀ w w', ok w → (∀ k, fp k → w'.heap[k]? = w.heap[k]?) → ok w'
  lt : ∀ w k, ok w → fp k → base ≤ k ∧ k < w.heap.size
def linkT (base g m : Nat) (vq : Value) (L : Lk) : Tg base := ⟨LF g m vq, fun w => LinkV base w g m vq L, fun _ _ h hk => h.keep hk, fun _ _ h hf => h.lt hf⟩
def strT (base : Nat) (v : Value) (q : List ByteArray) : Tg base := ⟨fun k => v.ownBlock = some k, fun w => w.ownsRow base 9 1 v q.length (q.map .string), fun _ _ h hk => row_keep h hk, fun _ k h hf => h.lt k hf⟩
def pkT (base : Nat) (v : Value) (O : List Pk) : Tg base := ⟨fun k => v.ownBlock = some k, fun w => OwnW w base v O, fun _ _ h hk => h.keep hk, fun _ k h hf => h.lt k hf⟩
def netT (base g : Nat) (V : Nat → Value) (R : Nat → List Pk) (A : Nat → Bool) : Tg base := ⟨Fp g V, fun w => NetV base w g V R A, fun _ _ h hk => h.keep hk, fun _ _ h hf => h.lt hf⟩
def blkT (base b : Nat) (o : Obj) : Tg base := ⟨fun k => k = b, fun w => base ≤ b ∧ w.heap[b]? = some o, fun _ _ h hk => ⟨h.1, (hk b rfl).trans h.2⟩, fun _ k h hf => by subst hf; exact ⟨h.1, (Array.getElem?_eq_some_iff.1 h.2).1⟩⟩
def Apt {base : Nat} (s t : Tg base) : Prop := ∀ k, s.fp k → ¬ t.fp k
theorem Apt.symm {base : Nat} {s t : Tg base} (h : Apt s t) : Apt t s := fun k h1 h2 => h k h2 h1
/-- All of these are there, apart from one another; what was there ahead of all is untouched. -/
def St (w0 : World) (l : List (Tg w0.heap.size)) (w : World) : Prop := (∀ t ∈ l, t.ok w) ∧ l.Pairwise Apt ∧ Below w0.heap.size w0 w
theorem St.nil (w : World) : St w [] w := ⟨fun _ h => by simp at h, List.Pairwise.nil, Below.refl _ _⟩
theorem St.to {w0 w : World} {l : List (Tg w0.heap.size)} (h : St w0 l w) : Below w0.heap.size w0 w := h.2.2
theorem St.get {w0 w : World} {l : List (Tg w0.heap.size)} (h : St w0 l w) {t : Tg w0.heap.size} (ht : t ∈ l) : t.ok w := h.1 t ht
theorem St.hd {w0 w : World} {l : List (Tg w0.heap.size)} {t : Tg w0.heap.size} (h : St w0 (t :: l) w) : t.ok w := h.1 t (List.mem_cons_self ..)
theorem St.tl {w0 w : World} {l : List (Tg w0.heap.size)} {t : Tg w0.heap.size} (h : St w0 (t :: l) w) : St w0 l w := ⟨fun s hs => h.1 s (List.mem_cons_of_mem _ hs), (List.pairwise_cons.1 h.2.1).2, h.2.2⟩
theorem St.below {w0 w w' : World} {l : List (Tg w0.heap.size)} (h : St w0 l w) (hb : Below w.heap.size w w') : St w0 l w' :=
  ⟨fun t ht => t.fr w w' (h.1 t ht) fun k hk => hb.block k (t.lt w k (h.1 t ht) hk).2, h.2.1, h.2.2.trans (hb.mono h.2.2.size)⟩
theorem St.drewN {w0 w : World} {l : List (Tg w0.heap.size)} (h : St w0 l w) (n : Nat) : St w0 l (w.drewN n) := h.below ⟨rfl, rfl, rfl, Nat.le_refl _, fun _ _ => rfl⟩
theorem St.drew {w0 w : World} {l : List (Tg w0.heap.size)} (h : St w0 l w) : St w0 l w.drew := h.below ⟨rfl, rfl, rfl, Nat.le_refl _, fun _ _ => rfl⟩
/-- One is turned. -/
theorem St.step {w0 w w' : World} {l : List (Tg w0.heap.size)} {t t' : Tg w0.heap.size} (h : St w0 (t :: l) w) (hs : Stp w t.fp t'.fp w') (ho : t'.ok w') : St w0 (t' :: l) w' := by
  obtain ⟨h1, h2, h3⟩ := h
  rw [List.pairwise_cons] at h2
  have ht := h1 t (List.mem_cons_self ..)
  refine ⟨fun s hs' => ?_, List.pairwise_cons.2 ⟨fun s hs' k hk hf => ?_, h2.2⟩, h3.trans (hs.below h3.size fun k hk => (t.lt w k ht hk).1)⟩
  · rcases List.mem_cons.1 hs' with rfl | hs'
    · exact ho
    · have hk := h1 s (List.mem_cons_of_mem _ hs')
      exact s.fr w w' hk fun k hf => hs.block k (s.lt w k hk hf).2 fun hf' => h2.1 s hs' k hf' hf
  · have hk' := h1 s (List.mem_cons_of_mem _ hs')
    rcases hs.fp k hk with h | h
    · exact h2.1 s hs' k h hf
    · have := (s.lt w k hk' hf).2; omega
/-- A new one. -/
theorem St.new {w0 w w' : World} {l : List (Tg w0.heap.size)} {t : Tg w0.heap.size} (h : St w0 l w) (hb : Below w.heap.size w w') (ho : t.ok w') (hn : ∀ k, t.fp k → w.heap.size ≤ k) : St w0 (t :: l) w' := by
  have h' := h.below hb
  refine ⟨fun s hs => ?_, List.pairwise_cons.2 ⟨fun s hs k hk hf => ?_, h.2.1⟩, h'.2.2⟩
  · rcases List.mem_cons.1 hs with rfl | hs
    · exact ho
    · exact h'.1 s hs
  · have := (s.lt w k (h.1 s hs) hf).2; have := hn k hk; omega
/-- One is turned, and a new one comes. -/
theorem St.step1 {w0 w w' : World} {l : List (Tg w0.heap.size)} {t t' n : Tg w0.heap.size} (h : St w0 (t :: l) w) (hs : Stp w t.fp t'.fp w') (ho : t'.ok w') (hn : n.ok w') (hf : ∀ k, n.fp k → w.heap.size ≤ k ∧ ¬ t'.fp k) : St w0 (n :: t' :: l) w' := by
  have h' := h.step hs ho
  refine ⟨fun s hs => ?_, List.pairwise_cons.2 ⟨fun s hs' k hk hf' => ?_, h'.2.1⟩, h'.2.2⟩
  · rcases List.mem_cons.1 hs with rfl | hs
    · exact hn
    · exact h'.1 s hs
  · rcases List.mem_cons.1 hs' with rfl | hs'
    · exact (hf k hk).2 hf'
    · have := (s.lt w k (h.1 s (List.mem_cons_of_mem _ hs')) hf').2; have := (hf k hk).1; omega
theorem St.alloc {w0 w : World} {l : List (Tg w0.heap.size)} (h : St w0 l w) (o : Obj) : St w0 (blkT w0.heap.size w.heap.size o :: l) (w.alloc o) :=
  h.new (al_b w o) ⟨h.2.2.size, heap_alloc_new w o⟩ fun k hk => by rw [hk]; exact Nat.le_refl _
theorem St.perm {w0 w : World} {l l' : List (Tg w0.heap.size)} (h : St w0 l w) (hp : l.Perm l') : St w0 l' w :=
  ⟨fun t ht => h.1 t (hp.mem_iff.2 ht), hp.pairwise h.2.1 fun hab => hab.symm, h.2.2⟩
theorem St.rot2 {w0 w : World} {a b : Tg w0.heap.size} {l : List (Tg w0.heap.size)} (h : St w0 (a :: b :: l) w) : St w0 (b :: a :: l) w := h.perm (List.Perm.swap b a l)
theorem St.rot3 {w0 w : World} {a b c : Tg w0.heap.size} {l : List (Tg w0.heap.size)} (h : St w0 (a :: b :: c :: l) w) : St w0 (c :: a :: b :: l) w := (h.perm ((List.Perm.swap c b l).cons a)).perm (List.Perm.swap c a (b :: l))
theorem St.rot4 {w0 w : World} {a b c d : Tg w0.heap.size} {l : List (Tg w0.heap.size)} (h : St w0 (a :: b :: c :: d :: l) w) : St w0 (d :: a :: b :: c :: l) w :=
  ((h.perm (((List.Perm.swap d c l).cons b).cons a)).perm ((List.Perm.swap d b (c :: l)).cons a)).perm (List.Perm.swap d a (b :: c :: l))
theorem St.drop {w0 w : World} {l : List (Tg w0.heap.size)} (h : St w0 l w) (l' : List (Tg w0.heap.size)) (hs : l'.Sublist l) : St w0 l' w := ⟨fun t ht => h.1 t (hs.subset ht), h.2.1.sublist hs, h.2.2⟩
/-- Calls of a link. -/
theorem St.send {w0 w : World} {l : List (Tg w0.heap.size)} {g m : Nat} {vq : Value} {L : Lk} (h : St w0 (linkT _ g m vq L :: l) w) (hok : LkOk L) (s : ByteArray) (hs : s.size ≤ 140737488355328) :
    Calls Try.prog 13 #[lP g, .string s] w fun e w' => ∃ r vq', e = .returned (.tuple #[r, .int .i64 (sndE L s)]) ∧ St w0 (pkT _ r (sndO L s) :: linkT _ g m vq' (sndL L s) :: l) w' := by
  have hv : LinkV _ w g m vq L := h.hd
  refine (sendL_any hv hok s hs).mono fun e w' hp => ?_
  obtain ⟨r, he, vq', h1, h2, h3, h4⟩ := hp
  refine ⟨r, vq', he, h.step1 (t' := linkT _ g m vq' (sndL L s)) h3 h2 (h1.mono h.2.2.size) fun k hk => ⟨(h1.lt k hk).1, h4 k hk⟩⟩
theorem St.take {w0 w : World} {l : List (Tg w0.heap.size)} {g m : Nat} {vq : Value} {L : Lk} (h : St w0 (linkT _ g m vq L :: l) w) (hok : LkOk L) (hel : L.e.length ≤ 900) (p : Pk) (hx : p.x.size ≤ 140737488355328) :
    Calls Try.prog 17 #[lP g, pV p] w fun e w' => ∃ tr r vq', e = .returned (.tuple #[tr, r, .int .i64 (lookE L p)]) ∧ St w0 (strT _ tr (tkT L p) :: pkT _ r (tkO L p) :: linkT _ g m vq' (tkL L p) :: l) w' := by
  have hv : LinkV _ w g m vq L := h.hd
  refine (takeL_any hv hok hel p hx).mono fun e w' hp => ?_
  obtain ⟨tr, r, he, vq', h0, h1, h2, h3, h4, h5, h6⟩ := hp
  have hA : St w0 (pkT _ r (tkO L p) :: linkT _ g m vq' (tkL L p) :: l) w' := h.step1 (t' := linkT _ g m vq' (tkL L p)) h3 h2 (h1.mono h.2.2.size) fun k hk => ⟨(h1.lt k hk).1, h5 k hk⟩
  have h0' : w'.ownsRow w0.heap.size 9 1 tr (tkT L p).length ((tkT L p).map .string) := row_mono h0 h.2.2.size
  refine ⟨tr, r, vq', he, fun s hs => ?_, List.pairwise_cons.2 ⟨fun s hs k hk hf => ?_, hA.2.1⟩, hA.2.2⟩
  · rcases List.mem_cons.1 hs with rfl | hs
    · exact h0'
    · exact hA.1 s hs
  · rcases List.mem_cons.1 hs with rfl | hs
    · exact h6 k hk hf
    · rcases List.mem_cons.1 hs with rfl | hs
      · exact h4 k hk hf
      · have := (s.lt w k (h.1 s (List.mem_cons_of_mem _ hs)) hf).2; have := (h0.lt k hk).1; omega
theorem St.tick {w0 w : World} {l : List (Tg w0.heap.size)} {g m : Nat} {vq : Value} {L : Lk} (h : St w0 (linkT _ g m vq L :: l) w) (hok : LkOk L) :
    Calls Try.prog 20 #[lP g] w fun e w' => ∃ r, e = .returned r ∧ St w0 (pkT _ r (pks L 0 L.o) :: linkT _ g m vq L :: l) w' := by
  have hv : LinkV _ w g m vq L := h.hd
  refine (tick_any hv hok).mono fun e w' hp => ?_
  obtain ⟨r, he, h1, h2⟩ := hp
  exact ⟨r, he, h.new h2 (t := pkT _ r (pks L 0 L.o)) (h1.mono h.2.2.size) fun k hk => (h1.lt k hk).1⟩
theorem St.newLink {w0 w : World} {l : List (Tg w0.heap.size)} (h : St w0 l w) (x : Ed) (hx : mayX x = true) :
    Calls Try.prog 8 #[eV x] w fun e w' => ∃ g m, e = .returned (lP g) ∧ St w0 (linkT _ g m (.slice none 0 0) (newL x) :: l) w' := by
  refine (newL_ok x w hx).mono fun e w' hp => ?_
  obtain ⟨g, m, he, h1, h2⟩ := hp
  have hz := h.2.2.size
  exact ⟨g, m, he, h.new h2 (t := linkT _ g m (.slice none 0 0) (newL x)) ⟨Nat.le_trans hz h1.lo, Nat.le_trans hz h1.lm, h1.blk, h1.mp, row_mono h1.own hz, h1.ng, h1.nm⟩ fun k hk => (h1.lt hk).1⟩
end Go.Proofs.Ytiejehaaglpkoaa
