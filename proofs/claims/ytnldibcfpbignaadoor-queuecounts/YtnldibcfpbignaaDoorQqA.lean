/- QueueCounts, plainly: what was offered was taken, is there, or did not come in. -/
import Derived.Test.YtnldibcfpbignaaDoorQP
namespace Go.Proofs.YtnldibcfpbignaaDoor
open Go.RowKit Go.ChangeMaps

def cnS (s : Int) (L : List Gv) : Int := ((L.countP fun x => x.s == s : Nat) : Int)
theorem cnS_nil (s : Int) : cnS s [] = 0 := rfl
theorem cnS_cons (s : Int) (x : Gv) (L : List Gv) : cnS s (x :: L) = cnS s L + if x.s = s then 1 else 0 := by
  unfold cnS
  rw [List.countP_cons]
  by_cases h : x.s = s
  · have : (x.s == s) = true := by simpa using h
    rw [if_pos this, if_pos h]; push_cast; rfl
  · have : ¬ (x.s == s) = true := by simpa using h
    rw [if_neg this, if_neg h]; push_cast; rfl
theorem cnS_app (s : Int) (A B : List Gv) : cnS s (A ++ B) = cnS s A + cnS s B := by
  unfold cnS
  rw [List.countP_append]; push_cast; rfl
theorem cnS_pos (s : Int) (L : List Gv) : 0 ≤ cnS s L := by unfold cnS; omega
structure CI (k : Nat) (L : List Gv) (fo ft ov : Int → Int) (la : Int) : Prop where
  el : ∀ x ∈ L, ∃ s q, x = gk s q ∧ 1 ≤ s ∧ s ≤ 4 ∧ la < q ∧ q ≤ k
  so : L.Pairwise fun a b => a.q < b.q
  ob : ∀ s, 0 ≤ ov s ∧ ov s ≤ k
  ct : ∀ s, 1 ≤ s → s ≤ 4 → fo s = ft s + cnS s L + ov s
  fb : ∀ s, 0 ≤ ft s ∧ fo s ≤ k
  la0 : la ≤ k
theorem CI.new : CI 0 [] (fun _ => 0) (fun _ => 0) (fun _ => 0) 0 := ⟨fun x hx => by simp at hx, List.Pairwise.nil, fun s => by simp, fun s _ _ => by simp [cnS_nil], fun s => by simp, by simp⟩
/-- The first one is taken. -/
theorem CI.eat {k : Nat} {x : Gv} {L : List Gv} {fo ft ov : Int → Int} {la : Int} (h : CI k (x :: L) fo ft ov la) : CI k L fo (upI ft x.s (ft x.s + 1)) ov x.q ∧ la < x.q ∧ 1 ≤ x.s ∧ x.s ≤ 4 ∧ ft x.s < k := by
  obtain ⟨s, q, rfl, h1, h2, h3, h4⟩ := h.el x (List.mem_cons_self ..)
  have hso := h.so
  rw [List.pairwise_cons] at hso
  have hc := h.ct s h1 h2
  rw [cnS_cons, if_pos rfl] at hc
  have hp := cnS_pos s L
  have ho := (h.ob s).1
  have hf := (h.fb s).2
  refine ⟨⟨fun y hy => ?_, hso.2, h.ob, fun s' a1 a2 => ?_, fun s' => ?_, h4⟩, h3, h1, h2, by show ft s < _; omega⟩
  · obtain ⟨s', q', rfl, b1, b2, b3, b4⟩ := h.el y (List.mem_cons_of_mem _ hy)
    exact ⟨s', q', rfl, b1, b2, hso.1 _ hy, b4⟩
  · have := h.ct s' a1 a2
    rw [cnS_cons] at this
    unfold upI
    by_cases e : s' = s
    · subst e
      rw [if_pos rfl] at this ⊢
      show _ = ft s' + 1 + _ + _
      omega
    · rw [if_neg (fun e2 => e e2.symm)] at this
      rw [if_neg (show ¬ s' = (gk s q).s from e)]
      omega
  · have b := h.fb s'
    unfold upI
    split
    · have := (h.fb s).1
      refine ⟨?_, b.2⟩
      show 0 ≤ ft s + 1
      omega
    · exact b
/-- One more is offered. -/
theorem CI.off {k : Nat} {Q : Qu} {fo ft : Int → Int} {la : Int} (h : CI k Q.l fo ft Q.ov la) {s : Int} (h1 : 1 ≤ s) (h2 : s ≤ 4) : CI (k + 1) (offQ Q (gk s ((k : Int) + 1))).l (upI fo s (fo s + 1)) ft (offQ Q (gk s ((k : Int) + 1))).ov la := by
  have hfb : ∀ s', 0 ≤ ft s' ∧ upI fo s (fo s + 1) s' ≤ ((k + 1 : Nat) : Int) := fun s' => by
    have a := h.fb s'
    have b := h.fb s
    refine ⟨a.1, ?_⟩
    unfold upI
    push_cast
    split <;> omega
  have hla : la ≤ ((k + 1 : Nat) : Int) := by have := h.la0; push_cast; omega
  unfold offQ
  split
  · refine ⟨fun x hx => ?_, h.so, fun s' => ?_, fun s' a1 a2 => ?_, hfb, hla⟩
    · obtain ⟨s', q', rfl, b1, b2, b3, b4⟩ := h.el x hx
      exact ⟨s', q', rfl, b1, b2, b3, by push_cast; omega⟩
    · have a := h.ob s'
      have b := h.ob s
      show 0 ≤ upI Q.ov s (Q.ov s + 1) s' ∧ upI Q.ov s (Q.ov s + 1) s' ≤ _
      unfold upI
      push_cast
      split <;> omega
    · have := h.ct s' a1 a2
      show upI fo s (fo s + 1) s' = ft s' + cnS s' Q.l + upI Q.ov s (Q.ov s + 1) s'
      unfold upI
      split
      · rename_i e; subst e; omega
      · exact this
  · refine ⟨fun x hx => ?_, ?_, fun s' => ?_, fun s' a1 a2 => ?_, hfb, hla⟩
    · rcases List.mem_append.1 hx with hx | hx
      · obtain ⟨s', q', rfl, b1, b2, b3, b4⟩ := h.el x hx
        exact ⟨s', q', rfl, b1, b2, b3, by push_cast; omega⟩
      · have := h.la0
        exact ⟨s, (k : Int) + 1, List.mem_singleton.1 hx, h1, h2, by omega, by push_cast; omega⟩
    · show (Q.l ++ [gk s ((k : Int) + 1)]).Pairwise _
      rw [List.pairwise_append]
      refine ⟨h.so, List.pairwise_singleton _ _, fun a ha b hb => ?_⟩
      obtain rfl := List.mem_singleton.1 hb
      obtain ⟨s', q', rfl, b1, b2, b3, b4⟩ := h.el a ha
      show q' < (k : Int) + 1
      omega
    · have a := h.ob s'
      show 0 ≤ Q.ov s' ∧ Q.ov s' ≤ _
      push_cast
      omega
    · have := h.ct s' a1 a2
      show upI fo s (fo s + 1) s' = ft s' + cnS s' (Q.l ++ [gk s ((k : Int) + 1)]) + Q.ov s'
      rw [cnS_app, cnS_cons, cnS_nil]
      unfold upI
      by_cases e : s' = s
      · subst e
        rw [if_pos rfl, if_pos (show (gk s' ((k : Int) + 1)).s = s' from rfl)]
        omega
      · rw [if_neg e, if_neg (show ¬ (gk s ((k : Int) + 1)).s = s' from fun e2 => e e2.symm)]
        omega
theorem off_len {Q : Qu} (h : (Q.l.length : Int) ≤ Q.r) (x : Gv) : ((offQ Q x).l.length : Int) ≤ (offQ Q x).r ∧ (offQ Q x).r = Q.r ∧ (offQ Q x).l.length ≤ Q.l.length + 1 := by
  unfold offQ
  split
  · exact ⟨h, rfl, by show Q.l.length ≤ _; omega⟩
  · refine ⟨?_, rfl, by show (Q.l ++ [x]).length ≤ _; simp⟩
    show ((Q.l ++ [x]).length : Int) ≤ Q.r
    rw [List.length_append, List.length_singleton]
    push_cast
    omega
theorem CI.gs {k : Nat} {L : List Gv} {fo ft ov : Int → Int} {la : Int} (h : CI k L fo ft ov la) : GkL L := fun x hx => by
  obtain ⟨s, q, e, _⟩ := h.el x hx
  exact ⟨s, q, e⟩
/-- An array of five numbers. -/
def Arr (C : Array Value) (f : Int → Int) : Prop := C.size = 5 ∧ ∀ t : Nat, 1 ≤ t → t ≤ 4 → C[t]? = some (.int .i64 (f (t : Int)))
theorem Arr.up {C : Array Value} {f : Int → Int} (h : Arr C f) {s : Nat} (v : Int) (h4 : s ≤ 4) : Arr (C.setIfInBounds s (.int .i64 v)) (upI f (s : Int) v) := by
  refine ⟨by simpa using h.1, fun t h1 h2 => ?_⟩
  unfold upI
  have := h.1
  by_cases e : t = s
  · subst e
    rw [if_pos rfl, Array.getElem?_setIfInBounds_self_of_lt (by omega)]
  · rw [if_neg (fun e2 => e (by omega)), Array.getElem?_setIfInBounds_ne (by omega)]
    exact h.2 t h1 h2
theorem Arr.zero : Arr #[.int .i64 0, .int .i64 0, .int .i64 0, .int .i64 0, .int .i64 0] (fun _ => 0) := ⟨rfl, fun t h1 h2 => by
  match t, h1, h2 with
  | 1, _, _ => rfl
  | 2, _, _ => rfl
  | 3, _, _ => rfl
  | 4, _, _ => rfl⟩
theorem QS.set2 {w W : World} {Q : Qu} {g N : Nat} {C : Array Value} {t : TypeId} {p : Nat × Obj} {K : List (Nat × Obj)} (h : QS w Q g (p :: (N, .cells C t (0, 0)) :: K) W) (o : Nat) (v : Value) : QS w Q g (p :: (N, .cells (C.setIfInBounds o v) t (0, 0)) :: K) (W.setCell ⟨N, o, none⟩ v) :=
  ((h.perm (List.Perm.swap _ _ _)).set o v).perm (List.Perm.swap _ _ _)
/-- The cells of such an array. -/
theorem arr_cell {W : World} {N : Nat} {C : Array Value} {f : Int → Int} (h : Arr C f) (hb : W.heap[N]? = some (.cells C 62 (0, 0))) {s : Nat} (h1 : 1 ≤ s) (h4 : s ≤ 4) : W.cell? ⟨N, s, none⟩ = some (.int .i64 (f (s : Int))) ∧ ∀ o, W.frozen? ⟨N, o, none⟩ = false :=
  ⟨by rw [cell_of_row W N s C _ (0, 0) hb]; exact h.2 s h1 h4, fun o => by simp [World.frozen?, hb]⟩
end Go.Proofs.YtnldibcfpbignaaDoor
