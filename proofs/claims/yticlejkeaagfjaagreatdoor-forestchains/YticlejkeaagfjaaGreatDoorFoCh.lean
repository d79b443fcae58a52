/- Chains of a forest: plain mathematics. -/
import Derived.Test.YticlejkeaagfjaaGreatDoorZg
namespace Go.Proofs.YticlejkeaagfjaaGreatDoor
open Go.RowKit

/-- What is below another one is its name ahead of that one's chain, and has all of its fields. -/
theorem bel_chain {t o : Ty} (hc : chkT t = true) (h : belB t o = true) : t.ch = t.n :: o.ch ∧ ∀ f ∈ o.all, f ∈ t.all := by
  unfold belB sameS at h
  simp only [Bool.and_eq_true, decide_eq_true_eq, sameR_iff] at h
  obtain ⟨h1, h2, h3⟩ := h
  obtain ⟨c1, -, c3, -, -⟩ := (chkT_iff t).1 hc
  constructor
  · cases hch : t.ch with
    | nil => rw [hch] at c1; simp at c1
    | cons u r =>
      rw [hch] at c3 h3
      simp at c3 h3
      rw [c3, h3]
  · intro f hf
    obtain ⟨-, -, m3⟩ := mgL_ok h1
    rw [← h2, m3]
    exact (srtF_perm _).mem_iff.2 (List.mem_append.2 (.inl hf))
theorem root_chain {t : Ty} (hc : chkT t = true) (h : t.p.size = 0) : t.ch = [t.n] := by
  obtain ⟨c1, -, c3, ⟨c4, -⟩, c5⟩ := (chkT_iff t).1 hc
  unfold chkR at c5
  simp only [Bool.and_eq_true] at c5
  by_cases h1 : t.ch.length = 1
  · match hch : t.ch, h1 with
    | [u], _ =>
      rw [hch] at c3
      simp at c3
      rw [c3]
  · rw [if_neg h1] at c5
    simp only [Bool.and_eq_true, decide_eq_true_eq] at c5
    have hm := List.mem_of_getElem? c5.2.2.2.1
    exact absurd h (size_name (c4 _ hm))
theorem par_chain {t : Ty} (hc : chkT t = true) (h : t.p.size ≠ 0) : t.ch[1]? = some t.p := by
  obtain ⟨c1, -, c3, -, c5⟩ := (chkT_iff t).1 hc
  unfold chkR at c5
  simp only [Bool.and_eq_true] at c5
  by_cases h1 : t.ch.length = 1
  · rw [if_pos h1] at c5
    simp only [Bool.and_eq_true, decide_eq_true_eq] at c5
    exact absurd c5.2.2.2.1 h
  · rw [if_neg h1] at c5
    simp only [Bool.and_eq_true, decide_eq_true_eq] at c5
    exact c5.2.2.2.1
/-- Each name of a chain is that of a type of the forest, whose chain is the rest, and whose fields are among them. -/
theorem chain_all {l : List Ty} (hi : isB l = true) : ∀ (n : Nat) (t : Ty), t ∈ l → t.ch.length = n → ∀ (i : Nat) (h : i < t.ch.length), ∃ b ∈ l, b.n = t.ch[i] ∧ b.ch = t.ch.drop i ∧ ∀ f ∈ b.all, f ∈ t.all := by
  obtain ⟨-, i2, i3, i4⟩ := (isB_iff l).1 hi
  intro n
  induction n with
  | zero => intro t ht hn i h; omega
  | succ n ih =>
    intro t ht hn i h
    have hck := i2 t ht
    cases i with
    | zero =>
      obtain ⟨-, -, c3, -, -⟩ := (chkT_iff t).1 hck
      refine ⟨t, ht, ?_, by simp, fun f hf => hf⟩
      rw [List.getElem?_eq_getElem h] at c3
      exact (Option.some.inj c3).symm
    | succ i =>
      have hp : t.p.size ≠ 0 := fun hp => by
        have := root_chain hck hp
        rw [this] at h
        simp at h
      have hpar := i4 t ht
      unfold parB at hpar
      rw [decide_eq_false hp, Bool.false_or] at hpar
      cases ho : parN l t.p with
      | none => rw [ho] at hpar; cases hpar
      | some o =>
        rw [ho] at hpar
        obtain ⟨e1, e2⟩ := bel_chain hck hpar
        have hol := (parN_some ho).1
        have hlen : o.ch.length = n := by
          have := congrArg List.length e1
          simp at this
          omega
        obtain ⟨b, hb, b1, b2, b3⟩ := ih o hol hlen i (by rw [hlen]; omega)
        refine ⟨b, hb, ?_, ?_, fun f hf => e2 f (b3 f hf)⟩
        · rw [b1]
          simp only [e1, List.getElem_cons_succ]
        · rw [b2, e1]
          simp
/-- A type that another one is of has the rest of its chain. -/
theorem of_chain {l : List Ty} (hi : isB l = true) {a b : Ty} (ha : a ∈ l) (hb : b ∈ l) (h : ofB a b.n = true) : ∃ i, i < a.ch.length ∧ b.ch = a.ch.drop i ∧ ∀ f ∈ b.all, f ∈ a.all := by
  obtain ⟨-, i2, i3, i4⟩ := (isB_iff l).1 hi
  unfold ofB at h
  obtain ⟨u, hu, hs⟩ := List.any_eq_true.1 h
  obtain ⟨i, hil, rfl⟩ := List.mem_iff_getElem.1 hu
  obtain ⟨b', hb', e1, e2, e3⟩ := chain_all hi a.ch.length a ha rfl i hil
  have h0 : nmC b' b.n = 0 := by
    unfold nmC
    rw [e1]
    exact sameL_iff.1 hs
  have p1 := parN_mem i3 hb' h0
  have p2 := parN_mem i3 hb (cmpL_irr b.n.data.toList)
  have : b' = b := by
    have := p1.symm.trans p2
    exact Option.some.inj this
  subst this
  exact ⟨i, hil, e2, e3⟩
theorem of_self {l : List Ty} (hi : isB l = true) {a : Ty} (ha : a ∈ l) : ofB a a.n = true := by
  obtain ⟨-, -, c3, -, -⟩ := (chkT_iff a).1 (((isB_iff l).1 hi).2.1 a ha)
  exact List.any_eq_true.2 ⟨_, List.mem_of_getElem? c3, by simp [sameL]⟩
theorem of_par {l : List Ty} (hi : isB l = true) {a : Ty} (ha : a ∈ l) (hp : a.p.size ≠ 0) : ofB a a.p = true := by
  have := par_chain (((isB_iff l).1 hi).2.1 a ha) hp
  exact List.any_eq_true.2 ⟨_, List.mem_of_getElem? this, by simp [sameL]⟩
theorem of_trans {l : List Ty} (hi : isB l = true) {a b c : Ty} (ha : a ∈ l) (hb : b ∈ l) (h1 : ofB a b.n = true) (h2 : ofB b c.n = true) : ofB a c.n = true := by
  obtain ⟨i, -, e, -⟩ := of_chain hi ha hb h1
  unfold ofB at *
  obtain ⟨u, hu, hs⟩ := List.any_eq_true.1 h2
  rw [e] at hu
  exact List.any_eq_true.2 ⟨u, List.mem_of_mem_drop hu, hs⟩
theorem of_anti {l : List Ty} (hi : isB l = true) {a b : Ty} (ha : a ∈ l) (hb : b ∈ l) (h1 : ofB a b.n = true) (h2 : ofB b a.n = true) : a = b := by
  obtain ⟨i, hi1, e1, -⟩ := of_chain hi ha hb h1
  obtain ⟨j, hj1, e2, -⟩ := of_chain hi hb ha h2
  have l1 := congrArg List.length e1
  have l2 := congrArg List.length e2
  rw [List.length_drop] at l1 l2
  have hi0 : i = 0 := by omega
  subst hi0
  obtain ⟨-, i2, i3, -⟩ := (isB_iff l).1 hi
  obtain ⟨-, -, ca, -, -⟩ := (chkT_iff a).1 (i2 a ha)
  obtain ⟨-, -, cb, -, -⟩ := (chkT_iff b).1 (i2 b hb)
  rw [e1, List.drop_zero, ca] at cb
  have hn : a.n = b.n := Option.some.inj cb
  have p1 := parN_mem i3 ha (s := b.n) (by unfold nmC; rw [hn]; exact cmpL_irr _)
  have p2 := parN_mem i3 hb (cmpL_irr b.n.data.toList)
  exact Option.some.inj (p1.symm.trans p2)
end Go.Proofs.YticlejkeaagfjaaGreatDoor
