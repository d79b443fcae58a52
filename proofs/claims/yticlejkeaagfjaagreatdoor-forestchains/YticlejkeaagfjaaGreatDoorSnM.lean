/- Fields that are sorted: plain mathematics of a merge. -/
import Derived.Test.YticlejkeaagfjaaGreatDoorZc
import Derived.Test.YticlejkeaagfjaaGreatDoorNG
namespace Go.Proofs.YticlejkeaagfjaaGreatDoor
open Go.RowKit

/-- Ahead, by the names. -/
def ltF (x y : Fd) : Prop := cmpL x.n.data.toList y.n.data.toList = -1
theorem cmpL_lt {a b : List UInt8} : cmpL a b < 0 ↔ cmpL a b = -1 := by
  have := cmp_vals (foldL a) (foldL b)
  unfold cmpL
  omega
theorem ltF_trans {x y z : Fd} (h1 : ltF x y) (h2 : ltF y z) : ltF x z := cmp_trans _ _ _ h1 h2
theorem ltF_irr (x : Fd) : ¬ ltF x x := by
  unfold ltF cmpL
  rw [cmp_self]
  decide
/-- Not the same names. -/
def neF (x y : Fd) : Prop := sameL x.n.data.toList y.n.data.toList = false
theorem neF_symm {x y : Fd} (h : neF x y) : neF y x := by
  unfold neF sameL at *
  rw [decide_eq_false_iff_not] at *
  exact fun e => h e.symm
theorem ltF_ne {x y : Fd} (h : ltF x y) : neF x y := by
  unfold neF sameL
  rw [decide_eq_false_iff_not]
  intro e
  unfold ltF cmpL at h
  rw [e, cmp_self] at h
  cases h
theorem ltF_of {x y : Fd} (h1 : ¬ cmpL y.n.data.toList x.n.data.toList < 0) (h2 : neF x y) : ltF x y := by
  unfold ltF
  have hv := cmp_vals (foldL x.n.data.toList) (foldL y.n.data.toList)
  have ha := cmp_anti (foldL y.n.data.toList) (foldL x.n.data.toList)
  unfold cmpL at *
  rcases hv with h | h | h
  · exact h
  · have := cmp_zero _ _ h
    unfold neF sameL at h2
    rw [decide_eq_false_iff_not] at h2
    exact absurd this h2
  · omega
theorem chk_sorted {l : List Fd} (h : chkF l = true) : l.Pairwise ltF := by
  unfold chkF at h
  simp only [Bool.and_eq_true, decide_eq_true_eq] at h
  have key : ∀ (j i : Nat) (hi : i < j) (hj : j < l.length), ltF (l[i]'(by omega)) l[j] := by
    intro j
    induction j with
    | zero => intro i hi; omega
    | succ j ih =>
      intro i hi hj
      have h1 : ltF l[j] l[j + 1] := cmpL_lt.1 ((h.2 (j + 1) hj).2 j rfl)
      by_cases e : i = j
      · subst e; exact h1
      · exact ltF_trans (ih i (by omega) (by omega)) h1
  rw [List.pairwise_iff_getElem]
  exact fun i j hi hj hij => key j i hij hj
theorem chk_mayF {l : List Fd} (h : chkF l = true) : ∀ x ∈ l, mayF x = true := by
  unfold chkF at h
  simp only [Bool.and_eq_true, decide_eq_true_eq] at h
  intro x hx
  obtain ⟨i, hi, rfl⟩ := List.mem_iff_getElem.1 hx
  exact (h.2 i hi).1
theorem chk_of {l : List Fd} (h1 : l.length ≤ 24) (h2 : ∀ x ∈ l, mayF x = true) (h3 : l.Pairwise ltF) : chkF l = true := by
  unfold chkF
  simp only [Bool.and_eq_true, decide_eq_true_eq]
  refine ⟨h1, fun k hk => ⟨h2 _ (List.getElem_mem hk), fun j e => ?_⟩⟩
  subst e
  exact cmpL_lt.2 ((List.pairwise_iff_getElem.1 h3) j (j + 1) (by omega) hk (by omega))
/-- Not behind. -/
def leF (x y : Fd) : Prop := ¬ cmpL y.n.data.toList x.n.data.toList < 0
/-- What two schemas make together, sorted. -/
def MrgD (a b D : List Fd) : Prop := D.Perm (a ++ b) ∧ D.Pairwise ltF
theorem clash_iff {a b : List Fd} : clashL a b = false ↔ ∀ x ∈ a, ∀ y ∈ b, neF x y := by
  unfold clashL
  rw [List.any_eq_false]
  constructor
  · intro h x hx y hy
    have := h y hy
    unfold neF
    cases e : sameL x.n.data.toList y.n.data.toList
    · rfl
    · exfalso
      apply this
      unfold getF
      rw [List.find?_isSome]
      exact ⟨x, hx, e⟩
  · intro h y hy hs
    unfold getF at hs
    rw [List.find?_isSome] at hs
    obtain ⟨x, hx, e⟩ := hs
    have := h x hx y hy
    unfold neF at this
    rw [this] at e
    cases e
theorem clash_symm (a b : List Fd) : clashL a b = clashL b a := by
  have key : ∀ a b : List Fd, clashL a b = false → clashL b a = false := fun a b h => clash_iff.2 fun x hx y hy => neF_symm (clash_iff.1 h y hy x hx)
  cases h1 : clashL a b <;> cases h2 : clashL b a <;> first | rfl | (rw [key _ _ h1] at h2; cases h2) | (rw [key _ _ h2] at h1; cases h1)
theorem mergeE_symm (a b : List Fd) : mergeE a b = mergeE b a := by
  unfold mergeE
  rw [clash_symm a b]
  by_cases h1 : chkF a = true <;> by_cases h2 : chkF b = true <;> simp [h1, h2]
theorem mergeE_ok {a b : List Fd} (h : mergeE a b = 0) : chkF a = true ∧ chkF b = true ∧ clashL a b = false := by
  unfold mergeE at h
  split at h
  · rename_i hc
    split at h
    · cases h
    · rename_i hn
      exact ⟨hc.1, hc.2, by simpa using hn⟩
  · cases h
theorem app_ne {a b : List Fd} (h : mergeE a b = 0) : (a ++ b).Pairwise neF := by
  obtain ⟨ha, hb, hc⟩ := mergeE_ok h
  rw [List.pairwise_append]
  exact ⟨(chk_sorted ha).imp ltF_ne, (chk_sorted hb).imp ltF_ne, clash_iff.1 hc⟩
theorem app_may {a b : List Fd} (h : mergeE a b = 0) : ∀ x ∈ a ++ b, mayF x = true := by
  obtain ⟨ha, hb, -⟩ := mergeE_ok h
  intro x hx
  rcases List.mem_append.1 hx with hx | hx
  · exact chk_mayF ha x hx
  · exact chk_mayF hb x hx
/-- What is sorted so is what both make together. -/
theorem mrg_of {a b D : List Fd} (h : mergeE a b = 0) (hp : D.Perm (a ++ b)) (hs : D.Pairwise leF) : MrgD a b D := by
  refine ⟨hp, ?_⟩
  have hne : D.Pairwise neF := (hp.pairwise_iff neF_symm).2 (app_ne h)
  exact (hs.and hne).imp fun ⟨h1, h2⟩ => ltF_of h1 h2
theorem mrg_chk {a b D : List Fd} (h : mergeE a b = 0) (hm : MrgD a b D) (hl : a.length + b.length ≤ 24) : chkF D = true :=
  chk_of (by rw [hm.1.length_eq, List.length_append]; exact hl) (fun x hx => app_may h x (hm.1.mem_iff.1 hx)) hm.2
theorem mrg_uniq {a b D D' : List Fd} (h : MrgD a b D) (h' : MrgD b a D') : D = D' := by
  refine List.Perm.eq_of_pairwise (le := ltF) (fun x y _ _ h1 h2 => ?_) h.2 h'.2 (h.1.trans (List.perm_append_comm.trans h'.1.symm))
  exact absurd (ltF_trans h1 h2) (ltF_irr x)
theorem mrg_len {a b D : List Fd} (h : MrgD a b D) : D.length = a.length + b.length := by rw [h.1.length_eq, List.length_append]
theorem sameF_self (x : Fd) : sameF x x = true := by simp [sameF, sameL]
theorem mrg_within {a b D : List Fd} (h : MrgD a b D) : withinL a D = true ∧ withinL b D = true := by
  have key : ∀ x ∈ D, isInL x D = true := fun x hx => List.any_eq_true.2 ⟨x, hx, sameF_self x⟩
  exact ⟨List.all_eq_true.2 fun x hx => key x (h.1.mem_iff.2 (by simp [hx])), List.all_eq_true.2 fun x hx => key x (h.1.mem_iff.2 (by simp [hx]))⟩
/-! ### what fits a part fits the whole -/
theorem fit1_iff (l : List Fd) : ∀ a : List At, fit1 l a = 0 ↔ ∀ y ∈ a, ∃ f, getF l y.n = some f ∧ f.k = y.k
  | [] => by simp [fit1]
  | y :: a => by
    rw [fit1]
    have ih := fit1_iff l a
    constructor
    · intro h z hz
      cases hg : getF l y.n with
      | none => rw [hg] at h; cases h
      | some f =>
        rw [hg] at h
        dsimp only at h
        split at h
        · rename_i hk
          rcases List.mem_cons.1 hz with rfl | hz
          · exact ⟨f, hg, hk⟩
          · exact ih.1 h z hz
        · cases h
    · intro h
      obtain ⟨f, hg, hk⟩ := h y (by simp)
      rw [hg]
      dsimp only
      rw [if_pos hk]
      exact ih.2 fun z hz => h z (by simp [hz])
theorem fit2_iff (a : List At) : ∀ l : List Fd, fit2 a l = 0 ↔ ∀ f ∈ l, f.m = true → (getA a f.n).isSome = true
  | [] => by simp [fit2]
  | f :: l => by
    rw [fit2]
    have ih := fit2_iff a l
    constructor
    · intro h g hg hm
      split at h
      · cases h
      · rename_i hn
        rcases List.mem_cons.1 hg with rfl | hg
        · cases e : (getA a g.n).isSome
          · exact absurd ⟨hm, e⟩ hn
          · rfl
        · exact ih.1 h g hg hm
    · intro h
      rw [if_neg (fun hh => by have := h f (by simp) hh.1; rw [this] at hh; exact absurd hh.2 (by decide))]
      exact ih.2 fun g hg => h g (by simp [hg])
theorem getF_mem {l : List Fd} {s : ByteArray} {f : Fd} (h : getF l s = some f) : f ∈ l ∧ sameL f.n.data.toList s.data.toList = true := ⟨List.mem_of_find?_eq_some h, by have := List.find?_some h; exact this⟩
theorem pair_ne {D : List Fd} (h : D.Pairwise ltF) {x y : Fd} (hx : x ∈ D) (hy : y ∈ D) (hs : sameL x.n.data.toList y.n.data.toList = true) : x = y := by
  obtain ⟨i, hi, rfl⟩ := List.mem_iff_getElem.1 hx
  obtain ⟨j, hj, rfl⟩ := List.mem_iff_getElem.1 hy
  have hp := List.pairwise_iff_getElem.1 h
  rcases Nat.lt_trichotomy i j with e | e | e
  · have := ltF_ne (hp i j hi hj e)
    unfold neF at this
    rw [this] at hs
    cases hs
  · subst e; rfl
  · have := neF_symm (ltF_ne (hp j i hj hi e))
    unfold neF at this
    rw [this] at hs
    cases hs
theorem fits_more {a b D : List Fd} {x : List At} (h : mergeE a b = 0) (hm : MrgD a b D) (hl : a.length + b.length ≤ 24) (hb : ∀ y ∈ b, y.m = false) (hf : fitsL a x = 0) : fitsL D x = 0 := by
  unfold fitsL at hf ⊢
  split at hf
  · rename_i hc
    split at hf
    · rename_i h1
      have g1 : fit1 D x = 0 := (fit1_iff D x).2 fun y hy => by
        obtain ⟨f, hg, hk⟩ := (fit1_iff a x).1 h1 y hy
        obtain ⟨m1, m2⟩ := getF_mem hg
        have hfD : f ∈ D := hm.1.mem_iff.2 (by simp [m1])
        have hs : (getF D y.n).isSome = true := by
          unfold getF
          rw [List.find?_isSome]
          exact ⟨f, hfD, m2⟩
        obtain ⟨f', hg'⟩ := Option.isSome_iff_exists.1 hs
        obtain ⟨n1, n2⟩ := getF_mem hg'
        have : f' = f := pair_ne hm.2 n1 hfD (by
          unfold sameL at *
          simp only [decide_eq_true_eq] at *
          rw [n2, m2])
        subst this
        exact ⟨f', hg', hk⟩
      have g2 : fit2 x D = 0 := (fit2_iff x D).2 fun f hfD hmu => by
        rcases List.mem_append.1 (hm.1.mem_iff.1 hfD) with hfa | hfb
        · exact (fit2_iff x a).1 hf f hfa hmu
        · rw [hb f hfb] at hmu; cases hmu
      rw [if_pos ⟨mrg_chk h hm hl, hc.2⟩, if_pos g1]
      exact g2
    · exact absurd hf (by assumption)
  · cases hf
end Go.Proofs.YticlejkeaagfjaaGreatDoor
