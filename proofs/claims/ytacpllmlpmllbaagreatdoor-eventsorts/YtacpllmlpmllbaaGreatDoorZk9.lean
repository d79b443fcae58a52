/- Fields that are sorted: plain mathematics of a merge. -/
import Derived.Test.YtacpllmlpmllbaaGreatDoorZk7
import Derived.Test.YtacpllmlpmllbaaGreatDoorZk8
namespace Go.Proofs.YtacpllmlpmllbaaGreatDoor
open Go.RowKit

/-- Ahead, by the names. -/
def ltF (x y : Fd) : Prop := cmpL x.n.data.toList y.n.data.toList = -1
theorem cmpL_lt {a b : List UInt8} : cmpL a b < 0 ↔ cmpL a b = -1 := by
  have := cmp_vals (foldL a) (foldL b)
  unfold cmpL
  omega
theorem ltF_trans {x y z : Fd} (h1 : ltF x y) (h2 : ltF y z) : ltF x z := cmp_trans _ _ _ h1 h2
theorem ltF_irr (x : Fd) : ¬ ltF x x := by
  unfold ltF cmpL
  rw [cmp_self]
  decide
/-- Not the same names. -/
def neF (x y : Fd) : Prop := sameL x.n.data.toList y.n.data.toList = false
theorem neF_symm {x y : Fd} (h : neF x y) : neF y x := by
  unfold neF sameL at *
  rw [decide_eq_false_iff_not] at *
  exact fun e => h e.symm
theorem ltF_ne {x y : Fd} (h : ltF x y) : neF x y := by
  unfold neF sameL
  rw [decide_eq_false_iff_not]
  intro e
  unfold ltF cmpL at h
  rw [e, cmp_self] at h
  cases h
theorem ltF_of {x y : Fd} (h1 : ¬ cmpL y.n.data.toList x.n.data.toList < 0) (h2 : neF x y) : ltF x y := by
  unfold ltF
  have hv := cmp_vals (foldL x.n.data.toList) (foldL y.n.data.toList)
  have ha := cmp_anti (foldL y.n.data.toList) (foldL x.n.data.toList)
  unfold cmpL at *
  rcases hv with h | h | h
  · exact h
  · have := cmp_zero _ _ h
    unfold neF sameL at h2
    rw [decide_eq_false_iff_not] at h2
    exact absurd this h2
  · omega
theorem chk_sorted {l : List Fd} (h : chkF l = true) : l.Pairwise ltF := by
  unfold chkF at h
  simp only [Bool.and_eq_true, decide_eq_true_eq] at h
  have key : ∀ (j i : Nat) (hi : i < j) (hj : j < l.length), ltF (l[i]'(by omega)) l[j] := by
    intro j
    induction j with
    | zero => intro i hi; omega
    | succ j ih =>
      intro i hi hj
      have h1 : ltF l[j] l[j + 1] := cmpL_lt.1 ((h.2 (j + 1) hj).2 j rfl)
      by_cases e : i = j
      · subst e; exact h1
      · exact ltF_trans (ih i (by omega) (by omega)) h1
  rw [List.pairwise_iff_getElem]
  exact fun i j hi hj hij => key j i hij hj
theorem chk_mayF {l : List Fd} (h : chkF l = true) : ∀ x ∈ l, mayF x = true := by
  unfold chkF at h
  simp only [Bool.and_eq_true, decide_eq_true_eq] at h
  intro x hx
  obtain ⟨i, hi, rfl⟩ := List.mem_iff_getElem.1 hx
  exact (h.2 i hi).1
theorem chk_of {l : List Fd} (h1 : l.length ≤ 24) (h2 : ∀ x ∈ l, mayF x = true) (h3 : l.Pairwise ltF) : chkF l = true := by
  unfold chkF
  simp only [Bool.and_eq_true, decide_eq_true_eq]
  refine ⟨h1, fun k hk => ⟨h2 _ (List.getElem_mem hk), fun j e => ?_⟩⟩
  subst e
  exact cmpL_lt.2 ((List.pairwise_iff_getElem.1 h3) j (j + 1) (by omega) hk (by omega))
/-- Not behind. -/
def leF (x y : Fd) : Prop := ¬ cmpL y.n.data.toList x.n.data.toList < 0
/-- What two schemas make together, sorted. -/
def MrgD (a b D : List Fd) : Prop := D.Perm (a ++ b) ∧ D.Pairwise ltF
theorem clash_iff {a b : List Fd} : clashL a b = false ↔ ∀ x ∈ a, ∀ y ∈ b, neF x y := by
  unfold clashL
  rw [List.any_eq_false]
  constructor
  · intro h x hx y hy
    have := h y hy
    unfold neF
    cases e : sameL x.n.data.toList y.n.data.toList
    · rfl
    · exfalso
      apply this
      unfold getF
      rw [List.find?_isSome]
      exact ⟨x, hx, e⟩
  · intro h y hy hs
    unfold getF at hs
    rw [List.find?_isSome] at hs
    obtain ⟨x, hx, e⟩ := hs
    have := h x hx y hy
    unfold neF at this
    rw [this] at e
    cases e
theorem clash_symm (a b : List Fd) : clashL a b = clashL b a := by
  have key : ∀ a b : List Fd, clashL a b = false → clashL b a = false := fun a b h => clash_iff.2 fun x hx y hy => neF_symm (clash_iff.1 h y hy x hx)
  cases h1 : clashL a b <;> cases h2 : clashL b a <;> first | rfl | (rw [key _ _ h1] at h2; cases h2) | (rw [key _ _ h2] at h1; cases h1)
theorem mergeE_symm (a b : List Fd) : mergeE a b = mergeE b a := by
  unfold mergeE
  rw [clash_symm a b]
  by_cases h1 : chkF a = true <;> by_cases h2 : chkF b = true <;> simp [h1, h2]
theorem mergeE_ok {a b : List Fd} (h : mergeE a b = 0) : chkF a = true ∧ chkF b = true ∧ clashL a b = false := by
  unfold mergeE at h
  split at h
  · rename_i hc
    split at h
    · cases h
    · rename_i hn
      exact ⟨hc.1, hc.2, by simpa using hn⟩
  · cases h
theorem app_ne {a b : List Fd} (h : mergeE a b = 0) : (a ++ b).Pairwise neF := by
  obtain ⟨ha, hb, hc⟩ := mergeE_ok h
  rw [List.pairwise_append]
  exact ⟨(chk_sorted ha).imp ltF_ne, (chk_sorted hb).imp ltF_ne, clash_iff.1 hc⟩
theorem app_may {a b : List Fd} (h : mergeE a b = 0) : ∀ x ∈ a ++ b, mayF x = true := by
  obtain ⟨ha, hb, -⟩ := mergeE_ok h
  intro x hx
  rcases List.mem_append.1 hx with hx | hx
  · exact chk_mayF ha x hx
  · exact chk_mayF hb x hx
/-- What is sorted so is what both make together. -/
theorem mrg_of {a b D : List Fd} (h : mergeE a b = 0) (hp : D.Perm (a ++ b)) (hs : D.Pairwise leF) : MrgD a b D := by
  refine ⟨hp, ?_⟩
  have hne : D.Pairwise neF := (hp.pairwise_iff neF_symm).2 (app_ne h)
  exact (hs.and hne).imp fun ⟨h1, h2⟩ => ltF_of h1 h2
theorem mrg_chk {a b D : List Fd} (h : mergeE a b = 0) (hm : MrgD a b D) (hl : a.length + b.length ≤ 24) : chkF D = true :=
  chk_of (by rw [hm.1.length_eq, List.length_append]; exact hl) (fun x hx => app_may h x (hm.1.mem_iff.1 hx)) hm.2
theorem mrg_uniq {a b D D' : List Fd} (h : MrgD a b D) (h' : MrgD b a D') : D = D' := by
  refine List.Perm.eq_of_pairwise (le := ltF) (fun x y _ _ h1 h2 => ?_) h.2 h'.2 (h.1.trans (List.perm_append_comm.trans h'.1.symm))
  exact absurd (ltF_trans h1 h2) (ltF_irr x)
theorem mrg_len {a b D : List Fd} (h : MrgD a b D) : D.length = a.length + b.length := by rw [h.1.length_eq, List.length_append]
theorem sameF_self (x : Fd) : sameF x x = true := by simp [sameF, sameL]
theorem mrg_within {a b D : List Fd} (h : MrgD a b D) : withinL a D = true ∧ withinL b D = true := by
  have key : ∀ x ∈ D, isInL x D = true := fun x hx => List.any_eq_true.2 ⟨x, hx, sameF_self x⟩
  exact ⟨List.all_eq_true.2 fun x hx => key x (h.1.mem_iff.2 (by simp [hx])), List.all_eq_true.2 fun x hx => key x (h.1.mem_iff.2 (by simp [hx]))⟩
/-! ### what fits a part fits the whole -/
theorem fit1_iff (l : List Fd) : ∀ a : List At, fit1 l a = 0 ↔ ∀ y ∈ a, ∃ f, getF l y.n = some f ∧ f.k = y.k
  | [] => by simp [fit1]
  | y :: a => by
    rw [fit1]
    have ih := fit1_iff l a
    constructor
    · intro h z hz
      cases hg : getF l y.n with
      | none => rw [hg] at h; cases h
      | some f =>
        rw [hg] at h
        dsimp only at h
        split at h
        · rename_i hk
          rcases List.mem_cons.1 hz with rfl | hz
          · exact ⟨f, hg, hk⟩
          · exact ih.1 h z hz
        · cases h
    · intro h
      obtain ⟨f, hg, hk⟩ := h y (by simp)
      rw [hg]
      dsimp only
      rw [if_pos hk]
      exact ih.2 fun z hz => h z (by simp [hz])
theorem fit2_iff (a : List At) : ∀ l : List Fd, fit2 a l = 0 ↔ ∀ f ∈ l, f.m = true → (getA a f.n).isSome = true
  | [] => by simp [fit2]
  | f :: l => by
    rw [fit2]
    have ih := fit2_iff a l
    constructor
    · intro h g hg hm
      split at h
      · cases h
      · rename_i hn
        rcases List.mem_cons.1 hg with rfl | hg
        · cases e : (getA a g.n).isSome
          · exact absurd ⟨hm, e⟩ hn
          · rfl
        · exact ih.1 h g hg hm
    · intro h
      rw [if_neg (fun hh => by have := h f (by simp) hh.1; rw [this] at hh; exact absurd hh.2 (by decide))]
      exact ih.2 fun g hg => h g (by simp [hg])
theorem getF_mem {l : List Fd} {s : ByteArray} {f : Fd} (h : getF l s = some f) : f ∈ l ∧ sameL f.n.data.toList s.data.toList = true := ⟨List.mem_of_find?_eq_some h, by have := List.find?_some h; exact this⟩
theorem pair_ne {D : List Fd} (h : D.Pairwise ltF) {x y : Fd} (hx : x ∈ D) (hy : y ∈ D) (hs : sameL x.n.data.toList y.n.data.toList = true) : x = y := by
  obtain ⟨i, hi, rfl⟩ := List.mem_iff_getElem.1 hx
  obtain ⟨j, hj, rfl⟩ := List.mem_iff_getElem.1 hy
  have hp := List.pairwise_iff_getElem.1 h
  rcases Nat.lt_trichotomy i j with e | e | e
  · have := ltF_ne (hp i j hi hj e)
    unfold neF at this
    rw [this] at hs
    cases hs
  · subst e; rfl
  · have := neF_symm (ltF_ne (hp j i hj hi e))
    unfold neF at this
    rw [this] at hs
    cases hs
theorem fits_more {a b D : List Fd} {x : List At} (h : mergeE a b = 0) (hm : MrgD a b D) (hl : a.length + b.length ≤ 24) (hb : ∀ y ∈ b, y.m = false) (hf : fitsL a x = 0) : fitsL D x = 0 := by
  unfold fitsL at hf ⊢
  split at hf
  · rename_i hc
    split at hf
    · rename_i h1
      have g1 : fit1 D x = 0 := (fit1_iff D x).2 fun y hy => by
        obtain ⟨f, hg, hk⟩ := (fit1_iff a x).1 h1 y hy
        obtain ⟨m1, m2⟩ := getF_mem hg
        have hfD : f ∈ D := hm.1.mem_iff.2 (by simp [m1])
        have hs : (getF D y.n).isSome = true := by
          unfold getF
          rw [List.find?_isSome]
          exact ⟨f, hfD, m2⟩
        obtain ⟨f', hg'⟩ := Option.isSome_iff_exists.1 hs
        obtain ⟨n1, n2⟩ := getF_mem hg'
        have : f' = f := pair_ne hm.2 n1 hfD (by
          unfold sameL at *
          simp only [decide_eq_true_eq] at *
          rw [n2, m2])
        subst this
        exact ⟨f', hg', hk⟩
      have g2 : fit2 x D = 0 := (fit2_iff x D).2 fun f hfD hmu => by
        rcases List.mem_append.1 (hm.1.mem_iff.1 hfD) with hfa | hfb
        · exact (fit2_iff x a).1 hf f hfa hmu
        · rw [hb f hfb] at hmu; cases hmu
      rw [if_pos ⟨mrg_chk h hm hl, hc.2⟩, if_pos g1]
      exact g2
    · exact absurd hf (by assumption)
  · cases hf
end Go.Proofs.YtacpllmlpmllbaaGreatDoor
/- Types and forests: plain mathematics. -/
namespace Go.Proofs.YtacpllmlpmllbaaGreatDoor
open Go.RowKit

/-! ### what two schemas make together -/
def insF (x : Fd) : List Fd → List Fd
  | [] => [x]
  | y :: l => if cmpL x.n.data.toList y.n.data.toList < 0 then x :: y :: l else y :: insF x l
def srtF : List Fd → List Fd
  | [] => []
  | x :: l => insF x (srtF l)
theorem insF_perm (x : Fd) : ∀ l, (insF x l).Perm (x :: l)
  | [] => List.Perm.refl _
  | y :: l => by
    rw [insF]
    split
    · exact List.Perm.refl _
    · exact ((insF_perm x l).cons y).trans (List.Perm.swap x y l)
theorem srtF_perm : ∀ l, (srtF l).Perm l
  | [] => List.Perm.refl _
  | x :: l => (insF_perm x _).trans ((srtF_perm l).cons x)
theorem insF_sorted (x : Fd) : ∀ l : List Fd, l.Pairwise ltF → (∀ y ∈ l, neF x y) → (insF x l).Pairwise ltF
  | [], _, _ => by simp [insF]
  | y :: l, h, hne => by
    rw [insF]
    obtain ⟨h1, h2⟩ := List.pairwise_cons.1 h
    split
    · rename_i hc
      have hxy : ltF x y := cmpL_lt.1 hc
      refine List.pairwise_cons.2 ⟨fun z hz => ?_, h⟩
      rcases List.mem_cons.1 hz with rfl | hz
      · exact hxy
      · exact ltF_trans hxy (h1 z hz)
    · rename_i hc
      have hyx : ltF y x := ltF_of hc (neF_symm (hne y (by simp)))
      refine List.pairwise_cons.2 ⟨fun z hz => ?_, insF_sorted x l h2 (fun z hz => hne z (by simp [hz]))⟩
      rcases List.mem_cons.1 ((insF_perm x l).mem_iff.1 hz) with rfl | hz
      · exact hyx
      · exact h1 z hz
theorem srtF_sorted : ∀ l : List Fd, l.Pairwise neF → (srtF l).Pairwise ltF
  | [], _ => List.Pairwise.nil
  | x :: l, h => by
    obtain ⟨h1, h2⟩ := List.pairwise_cons.1 h
    exact insF_sorted x _ (srtF_sorted l h2) fun y hy => h1 y ((srtF_perm l).mem_iff.1 hy)
/-- What two schemas make together, or the error. -/
def mgL (a b : List Fd) : List Fd × Int := if mergeE a b = 0 then (if 24 < a.length + b.length then ([], 2) else (srtF (a ++ b), 0)) else ([], mergeE a b)
theorem mrg_srtF {a b : List Fd} (h : mergeE a b = 0) : MrgD a b (srtF (a ++ b)) := ⟨srtF_perm _, srtF_sorted _ (app_ne h)⟩
theorem mrg_is {a b D : List Fd} (h : mergeE a b = 0) (hm : MrgD a b D) : D = srtF (a ++ b) := by
  have h1 := mrg_srtF h
  refine List.Perm.eq_of_pairwise (le := ltF) (fun x y _ _ h1 h2 => ?_) hm.2 h1.2 (hm.1.trans h1.1.symm)
  exact absurd (ltF_trans h1 h2) (ltF_irr x)
theorem mgL_ok {a b : List Fd} (h : (mgL a b).2 = 0) : mergeE a b = 0 ∧ a.length + b.length ≤ 24 ∧ (mgL a b).1 = srtF (a ++ b) := by
  unfold mgL at *
  by_cases h1 : mergeE a b = 0
  · rw [if_pos h1] at *
    by_cases h2 : 24 < a.length + b.length
    · rw [if_pos h2] at h; cases h
    · rw [if_neg h2] at *
      exact ⟨h1, by omega, rfl⟩
  · rw [if_neg h1] at h
    exact absurd h h1
theorem mgL_len (a b : List Fd) : (mgL a b).1.length ≤ 24 := by
  unfold mgL
  split
  · split
    · simp
    · rw [(srtF_perm _).length_eq, List.length_append]; omega
  · simp
theorem mgL_mem {a b : List Fd} {x : Fd} (h : x ∈ (mgL a b).1) : x ∈ a ∨ x ∈ b := by
  unfold mgL at h
  split at h
  · split at h
    · cases h
    · exact List.mem_append.1 ((srtF_perm _).mem_iff.1 h)
  · cases h
theorem mgL_chk {a b : List Fd} (h : (mgL a b).2 = 0) : chkF (mgL a b).1 = true := by
  obtain ⟨h1, h2, h3⟩ := mgL_ok h
  rw [h3]
  exact mrg_chk h1 (mrg_srtF h1) h2
theorem mgL_within {a b : List Fd} (h : (mgL a b).2 = 0) : withinL a (mgL a b).1 = true ∧ withinL b (mgL a b).1 = true := by
  obtain ⟨h1, h2, h3⟩ := mgL_ok h
  rw [h3]
  exact mrg_within (mrg_srtF h1)

/-! ### names -/
theorem cmpL_zero {a b : List UInt8} : cmpL a b = 0 ↔ foldL a = foldL b := by
  unfold cmpL
  constructor
  · exact cmp_zero _ _
  · intro h; rw [h, cmp_self]
theorem sameL_iff {a b : List UInt8} : sameL a b = true ↔ cmpL a b = 0 := by
  unfold sameL
  rw [decide_eq_true_eq, cmpL_zero]
theorem cmpL_tr {a b c : List UInt8} (h1 : cmpL a b < 0) (h2 : cmpL b c < 0) : cmpL a c < 0 := by
  rw [cmpL_lt] at *
  exact cmp_trans _ _ _ h1 h2
theorem cmpL_congr {a b c : List UInt8} (h : foldL a = foldL b) : cmpL a c = cmpL b c := by unfold cmpL; rw [h]
theorem cmpL_congr' {a b c : List UInt8} (h : foldL a = foldL b) : cmpL c a = cmpL c b := by unfold cmpL; rw [h]
theorem cmpL_anti (a b : List UInt8) : cmpL a b = - cmpL b a := cmp_anti _ _
theorem cmpL_irr (a : List UInt8) : cmpL a a = 0 := cmp_self _

/-! ### places -/
def nmC (t : Ty) (s : ByteArray) : Int := cmpL t.n.data.toList s.data.toList
/-- Types that rise. -/
def Rise (l : List Ty) : Prop := l.Pairwise fun t u => nmC t u.n < 0
/-- The type of a name. -/
def parN (l : List Ty) (s : ByteArray) : Option Ty := l.find? fun u => sameL u.n.data.toList s.data.toList
/-- Where a name stands, or would stand. -/
def plcN (l : List Ty) (s : ByteArray) : Nat := (l.takeWhile fun u => decide (nmC u s < 0)).length
theorem rise_mono {l : List Ty} (h : Rise l) {s : ByteArray} {a b : Nat} (hab : a ≤ b) (hb : b < l.length) (hc : nmC l[b] s < 0) : nmC (l[a]'(by omega)) s < 0 := by
  by_cases e : a = b
  · subst e; exact hc
  · exact cmpL_tr ((List.pairwise_iff_getElem.1 h) a b (by omega) hb (by omega)) hc
theorem plcN_le (l : List Ty) (s : ByteArray) : plcN l s ≤ l.length := (List.takeWhile_prefix _).length_le
/-- The boundary is the place. -/
theorem plc_at : ∀ (l : List Ty) (s : ByteArray) (k : Nat), k ≤ l.length → (∀ (t : Nat) (h : t < l.length), t < k → nmC l[t] s < 0) → (∀ (h : k < l.length), ¬ nmC l[k] s < 0) → plcN l s = k
  | [], s, k, hk, _, _ => by
    have : k = 0 := by simpa using hk
    subst this
    rfl
  | u :: l, s, 0, _, _, h2 => by
    have := h2 (by simp)
    unfold plcN
    rw [List.takeWhile_cons_of_neg (by simpa using this)]
    rfl
  | u :: l, s, k + 1, hk, h1, h2 => by
    have h0 : nmC u s < 0 := h1 0 (by simp) (by omega)
    have ih := plc_at l s k (by simpa using hk) (fun t h ht => h1 (t + 1) (by simpa using h) (by omega)) (fun h => h2 (by simpa using h))
    unfold plcN at *
    rw [List.takeWhile_cons_of_pos (by simpa using h0), List.length_cons, ih]
theorem plc_lt {l : List Ty} {s : ByteArray} {t : Nat} (h : t < l.length) (ht : t < plcN l s) : nmC l[t] s < 0 := by
  have hp : (l.takeWhile fun u => decide (nmC u s < 0)) <+: l := List.takeWhile_prefix _
  have e : l[t] = (l.takeWhile fun u => decide (nmC u s < 0))[t]'ht := (hp.getElem ht).symm
  rw [e]
  have hm := List.getElem_mem ht
  have := List.all_takeWhile (p := fun u => decide (nmC u s < 0)) (l := l)
  rw [List.all_eq_true] at this
  simpa using this _ hm
theorem plc_ge : ∀ (l : List Ty) (s : ByteArray) (h : plcN l s < l.length), ¬ nmC (l[plcN l s]'h) s < 0
  | [], s, h => absurd h (by simp [plcN])
  | u :: l, s, h => by
    by_cases hu : nmC u s < 0
    · have e : plcN (u :: l) s = plcN l s + 1 := by
        unfold plcN
        rw [List.takeWhile_cons_of_pos (by simpa using hu), List.length_cons]
      have hl : plcN l s < l.length := by rw [e] at h; simpa using h
      have ih := plc_ge l s hl
      have : (u :: l)[plcN (u :: l) s]'h = l[plcN l s] := by
        simp only [e, List.getElem_cons_succ]
      rw [this]
      exact ih
    · have e : plcN (u :: l) s = 0 := by
        unfold plcN
        rw [List.takeWhile_cons_of_neg (by simpa using hu)]
        rfl
      have : (u :: l)[plcN (u :: l) s]'h = u := by simp only [e, List.getElem_cons_zero]
      rw [this]
      exact hu
/-- Of types that rise the one of a name stands at its place. -/
theorem par_at {l : List Ty} (hr : Rise l) {s : ByteArray} {k : Nat} (hk : k < l.length) (h : nmC l[k] s = 0) : plcN l s = k ∧ parN l s = some l[k] := by
  have hlt : ∀ (t : Nat) (h : t < l.length), t < k → nmC l[t] s < 0 := fun t ht htk => by
    have h1 : nmC l[t] l[k].n < 0 := (List.pairwise_iff_getElem.1 hr) t k ht hk htk
    unfold nmC at *
    rw [cmpL_congr' (cmpL_zero.1 h)] at h1
    exact h1
  refine ⟨plc_at l s k (Nat.le_of_lt hk) hlt (fun _ => by omega), ?_⟩
  unfold parN
  rw [List.find?_eq_some_iff_getElem]
  refine ⟨sameL_iff.2 h, k, hk, rfl, fun j hj => ?_⟩
  have := hlt j (by omega) hj
  cases e : sameL l[j].n.data.toList s.data.toList
  · rfl
  · have := sameL_iff.1 e
    unfold nmC at *
    omega
theorem par_none {l : List Ty} {s : ByteArray} (h : ∀ (k : Nat) (hk : k < l.length), nmC l[k] s ≠ 0) : parN l s = none := by
  unfold parN
  rw [List.find?_eq_none]
  intro x hx
  obtain ⟨k, hk, rfl⟩ := List.mem_iff_getElem.1 hx
  intro e
  exact h k hk (sameL_iff.1 e)
/-- What is at the place tells whether there is one of that name. -/
theorem par_plc {l : List Ty} (hr : Rise l) (s : ByteArray) : parN l s = (if h : plcN l s < l.length then (if nmC l[plcN l s] s = 0 then some l[plcN l s] else none) else none) := by
  by_cases h : plcN l s < l.length
  · rw [dif_pos h]
    by_cases h0 : nmC l[plcN l s] s = 0
    · rw [if_pos h0]; exact (par_at hr h h0).2
    · rw [if_neg h0]
      refine par_none fun k hk e => ?_
      have := (par_at hr hk e).1
      subst this
      exact h0 e
  · rw [dif_neg h]
    refine par_none fun k hk e => ?_
    have := (par_at hr hk e).1
    omega

/-! ### forests -/
def sameS (a b : List ByteArray) : Bool := decide (a = b)
/-- Does a type stand right below another one? -/
def belB (t o : Ty) : Bool := decide ((mgL o.all t.own).2 = 0) && (sameR (mgL o.all t.own).1 t.all && sameS o.ch t.ch.tail)
def parB (l : List Ty) (t : Ty) : Bool := decide (t.p.size = 0) || (match parN l t.p with | none => false | some o => belB t o)
def riseB (l : List Ty) : Bool := decide (∀ (k : Nat) (h : k < l.length - 1), nmC (l[k]'(by omega)) (l[k + 1]'(by omega)).n < 0)
theorem riseB_iff (l : List Ty) : riseB l = true ↔ Rise l := by
  unfold riseB Rise
  rw [decide_eq_true_eq, List.pairwise_iff_getElem]
  constructor
  · intro h
    have key : ∀ (j i : Nat) (hi : i < j) (hj : j < l.length), nmC (l[i]'(by omega)) l[j].n < 0 := by
      intro j
      induction j with
      | zero => intro i hi; omega
      | succ j ih =>
        intro i hi hj
        by_cases e : i = j
        · subst e; exact h i (by omega)
        · exact cmpL_tr (ih i (by omega) (by omega)) (h j (by omega))
    exact fun i j hi hj hij => key j i hij hj
  · intro h k hk
    exact h k (k + 1) (by omega) (by omega) (by omega)
/-- Are types a forest? -/
def isB (l : List Ty) : Bool := decide (l.length ≤ 200) && (l.all chkT && (riseB l && l.all (parB l)))
/-- Is a type of another one? -/
def ofB (t : Ty) (s : ByteArray) : Bool := t.ch.any fun u => sameL u.data.toList s.data.toList
def zT : Ty := ⟨⟨#[]⟩, ⟨#[]⟩, [], [], [], 0, 0, 0⟩
/-- A type that is below no other one, or the error. -/
def rootR (s : ByteArray) (own : List Fd) (a b c : Int) : Ty × Int := if checkL s.data.toList = 0 then (if (chkF own && idB a b c) = true then (⟨s, ⟨#[]⟩, own, own, [s], a, b, c⟩, 0) else (zT, 1)) else (zT, checkL s.data.toList)
/-- A type right below another one, or the error. -/
def belR (o : Ty) (s : ByteArray) (own : List Fd) (a b c : Int) : Ty × Int :=
  if checkL s.data.toList = 0 then
    (if (chkT o && (chkF own && idB a b c)) = true then
      (if ofB o s = true then (zT, 5) else if o.ch.length = 8 then (zT, 2) else
        (if (mgL o.all own).2 = 0 then (⟨s, o.n, own, (mgL o.all own).1, s :: o.ch, a, b, c⟩, 0) else (zT, (mgL o.all own).2)))
    else (zT, 1))
  else (zT, checkL s.data.toList)
/-- A type that can be added to a forest, or the error. -/
def mkR (l : List Ty) (s p : ByteArray) (own : List Fd) (a b c : Int) : Ty × Int :=
  if isB l = true then
    (if checkL s.data.toList = 0 then
      (if (parN l s).isSome = true then (zT, 5) else if p.size = 0 then rootR s own a b c else
        (match parN l p with | none => (zT, 4) | some o => belR o s own a b c))
    else (zT, checkL s.data.toList))
  else (zT, 1)
def insT (l : List Ty) (k : Nat) (t : Ty) : List Ty := l.take k ++ t :: l.drop k
/-- A forest with one type more, or the error. -/
def addR (l : List Ty) (t : Ty) : List Ty × Int :=
  if (isB l && chkT t) = true then
    (if (parN l t.n).isSome = true then ([], 5) else if l.length = 200 then ([], 6) else
      (if t.p.size = 0 then (insT l (plcN l t.n) t, 0) else
        (match parN l t.p with | none => ([], 4) | some o => if belB t o = true then (insT l (plcN l t.n) t, 0) else ([], 3))))
  else ([], 1)
end Go.Proofs.YtacpllmlpmllbaaGreatDoor
/- What is made can be added: plain mathematics of forests. -/
namespace Go.Proofs.YtacpllmlpmllbaaGreatDoor
open Go.RowKit

/-- All names of a chain are names, none the same as another one. -/
theorem clm_full : ∀ (ch : List ByteArray) (b : List (List UInt8)), b.length + ch.length ≤ (clm b ch).length ↔ (∀ s ∈ ch, checkL s.data.toList = 0) ∧ (ch.map fun s => foldL s.data.toList).Nodup ∧ ∀ s ∈ ch, ¬ foldL s.data.toList ∈ b
  | [], b => by simp [clm]
  | s :: r, b => by
    rw [clm]
    split
    · rename_i h
      have ih := clm_full r (b ++ [foldL s.data.toList])
      rw [List.length_append, List.length_singleton] at ih
      rw [List.length_cons, show b.length + (r.length + 1) = b.length + 1 + r.length by omega, ih, List.map_cons, List.nodup_cons]
      constructor
      · rintro ⟨h1, h2, h3⟩
        refine ⟨?_, ⟨?_, h2⟩, ?_⟩
        · intro x hx
          rcases List.mem_cons.1 hx with rfl | hx
          · exact h.1
          · exact h1 x hx
        · intro hm
          obtain ⟨x, hx, e⟩ := List.mem_map.1 hm
          exact h3 x hx (by rw [e]; simp)
        · intro x hx
          rcases List.mem_cons.1 hx with rfl | hx
          · exact h.2
          · intro hb; exact h3 x hx (by simp [hb])
      · rintro ⟨h1, ⟨h2, h3⟩, h4⟩
        refine ⟨fun x hx => h1 x (by simp [hx]), h3, fun x hx hm => ?_⟩
        rcases List.mem_append.1 hm with hm | hm
        · exact h4 x (by simp [hx]) hm
        · have := List.mem_singleton.1 hm
          exact h2 (List.mem_map.2 ⟨x, hx, this⟩)
    · rename_i h
      constructor
      · intro hl; rw [List.length_cons] at hl; omega
      · rintro ⟨h1, h2, h3⟩
        exact absurd ⟨h1 s (by simp), h3 s (by simp)⟩ h
theorem chain_iff (ch : List ByteArray) : ch.length ≤ (clm [] ch).length ↔ (∀ s ∈ ch, checkL s.data.toList = 0) ∧ (ch.map fun s => foldL s.data.toList).Nodup := by
  have := clm_full ch []
  simpa using this
theorem chkT_iff (t : Ty) : chkT t = true ↔ 1 ≤ t.ch.length ∧ t.ch.length ≤ 8 ∧ t.ch[0]? = some t.n ∧ ((∀ s ∈ t.ch, checkL s.data.toList = 0) ∧ (t.ch.map fun s => foldL s.data.toList).Nodup) ∧ chkR t = true := by
  unfold chkT
  simp only [Bool.and_eq_true, decide_eq_true_eq, chain_iff]
theorem chkT_zT : chkT zT = false := by
  cases h : chkT zT
  · rfl
  · have := ((chkT_iff _).1 h).1
    simp [zT] at this
theorem checkL_nil : checkL [] ≠ 0 := by decide
theorem chkT_name {t : Ty} (h : chkT t = true) : checkL t.n.data.toList = 0 := by
  obtain ⟨h1, h2, h3, ⟨h4, -⟩, -⟩ := (chkT_iff t).1 h
  exact h4 _ (List.mem_of_getElem? h3)
theorem size_name {s : ByteArray} (h : checkL s.data.toList = 0) : s.size ≠ 0 := by
  intro e
  have : s.data.toList = [] := List.eq_nil_of_length_eq_zero (by simpa using e)
  rw [this] at h
  exact checkL_nil h
theorem sameR_self (l : List Fd) : sameR l l = true := (sameR_iff l l).2 rfl
theorem root_chk {s : ByteArray} {own : List Fd} {a b c : Int} {t : Ty} (h : rootR s own a b c = (t, 0)) : t = ⟨s, ⟨#[]⟩, own, own, [s], a, b, c⟩ ∧ chkT t = true := by
  unfold rootR at h
  split at h
  · rename_i hc
    split at h
    · rename_i hk
      obtain rfl := (Prod.mk.inj h).1
      rw [Bool.and_eq_true] at hk
      refine ⟨rfl, (chkT_iff _).2 ⟨by simp, by simp, rfl, ⟨by simpa using hc, by simp⟩, ?_⟩⟩
      unfold chkR
      simp only [hk.1, hk.2, sameR_self, List.length_singleton, if_true, Bool.true_and, Bool.and_true]
      rfl
    · have := (Prod.mk.inj h).2
      cases this
  · rename_i hc
    exact absurd (Prod.mk.inj h).2 hc
theorem bel_chk {o : Ty} {s : ByteArray} {own : List Fd} {a b c : Int} {t : Ty} (h : belR o s own a b c = (t, 0)) : t = ⟨s, o.n, own, (mgL o.all own).1, s :: o.ch, a, b, c⟩ ∧ chkT t = true ∧ belB t o = true ∧ t.p.size ≠ 0 := by
  unfold belR at h
  split at h
  · rename_i hc
    split at h
    · rename_i hk
      rw [Bool.and_eq_true, Bool.and_eq_true] at hk
      split at h
      · exact absurd (Prod.mk.inj h).2 (by decide)
      · rename_i hof
        split at h
        · exact absurd (Prod.mk.inj h).2 (by decide)
        · rename_i h8
          split at h
          · rename_i hm
            obtain rfl := (Prod.mk.inj h).1
            obtain ⟨g1, g2, g3, ⟨g4, g5⟩, -⟩ := (chkT_iff o).1 hk.1
            refine ⟨rfl, (chkT_iff _).2 ⟨by simp, by simp only [List.length_cons]; omega, rfl, ⟨?_, ?_⟩, ?_⟩, ?_, size_name (chkT_name hk.1)⟩
            · intro x hx
              rcases List.mem_cons.1 hx with rfl | hx
              · exact hc
              · exact g4 x hx
            · rw [List.map_cons, List.nodup_cons]
              refine ⟨fun hmem => hof ?_, g5⟩
              obtain ⟨x, hx, e⟩ := List.mem_map.1 hmem
              exact List.any_eq_true.2 ⟨x, hx, by unfold sameL; exact decide_eq_true e⟩
            · unfold chkR
              have e1 : ¬ (s :: o.ch).length = 1 := by simp only [List.length_cons]; omega
              have e2 : (s :: o.ch)[1]? = some o.n := by simpa using g3
              simp only [if_neg e1, e2, hk.2.1, hk.2.2, mgL_chk hm, (mgL_within hm).2, decide_true, Bool.and_self]
            · unfold belB
              simp only [hm, sameR_self, sameS, List.tail_cons, decide_true, Bool.and_self]
          · rename_i hm
            exact absurd (Prod.mk.inj h).2 hm
    · exact absurd (Prod.mk.inj h).2 (by decide)
  · rename_i hc
    exact absurd (Prod.mk.inj h).2 hc
theorem isB_iff (l : List Ty) : isB l = true ↔ l.length ≤ 200 ∧ (∀ t ∈ l, chkT t = true) ∧ Rise l ∧ ∀ t ∈ l, parB l t = true := by
  unfold isB
  simp only [Bool.and_eq_true, decide_eq_true_eq, List.all_eq_true, riseB_iff]
theorem parN_mem {l : List Ty} (hr : Rise l) {o : Ty} (ho : o ∈ l) {s : ByteArray} (h : nmC o s = 0) : parN l s = some o := by
  obtain ⟨k, hk, rfl⟩ := List.mem_iff_getElem.1 ho
  exact (par_at hr hk h).2
theorem parN_some {l : List Ty} {o : Ty} {s : ByteArray} (h : parN l s = some o) : o ∈ l ∧ nmC o s = 0 := by
  unfold parN at h
  have h1 := List.find?_some h
  exact ⟨List.mem_of_find?_eq_some h, sameL_iff.1 h1⟩
/-- What can be added to a forest. -/
def CanAdd (l : List Ty) (t : Ty) : Prop := chkT t = true ∧ parN l t.n = none ∧ (t.p.size = 0 ∨ ∃ o, parN l t.p = some o ∧ belB t o = true)
theorem make_can {l : List Ty} {s p : ByteArray} {own : List Fd} {a b c : Int} {t : Ty} (h : mkR l s p own a b c = (t, 0)) : isB l = true ∧ t.n = s ∧ CanAdd l t := by
  unfold mkR at h
  split at h
  · rename_i hi
    obtain ⟨i1, i2, i3, i4⟩ := (isB_iff l).1 hi
    split at h
    · split at h
      · exact absurd (Prod.mk.inj h).2 (by decide)
      · rename_i hp
        have hpn : parN l s = none := by simpa using hp
        split at h
        · obtain ⟨rfl, hc⟩ := root_chk h
          exact ⟨hi, rfl, hc, hpn, .inl rfl⟩
        · split at h
          · exact absurd (Prod.mk.inj h).2 (by decide)
          · rename_i o ho
            obtain ⟨rfl, hc, hb, -⟩ := bel_chk h
            have hom := (parN_some ho).1
            exact ⟨hi, rfl, hc, hpn, .inr ⟨o, parN_mem i3 hom (cmpL_irr _), hb⟩⟩
    · rename_i hc
      exact absurd (Prod.mk.inj h).2 hc
  · exact absurd (Prod.mk.inj h).2 (by decide)
theorem insT_mem {l : List Ty} {k : Nat} {t x : Ty} : x ∈ insT l k t ↔ x = t ∨ x ∈ l := by
  unfold insT
  rw [List.mem_append, List.mem_cons]
  have h2 := List.take_append_drop k l
  constructor
  · rintro (h | h | h)
    · exact .inr (List.mem_of_mem_take h)
    · exact .inl h
    · exact .inr (List.mem_of_mem_drop h)
  · rintro (h | h)
    · exact .inr (.inl h)
    · rw [← h2] at h
      rcases List.mem_append.1 h with h | h
      · exact .inl h
      · exact .inr (.inr h)
theorem insT_len {l : List Ty} {k : Nat} {t : Ty} (hk : k ≤ l.length) : (insT l k t).length = l.length + 1 := by
  unfold insT
  rw [List.length_append, List.length_cons, List.length_take, List.length_drop]
  omega
theorem insT_rise {l : List Ty} {t : Ty} (hr : Rise l) (hn : parN l t.n = none) : Rise (insT l (plcN l t.n) t) := by
  have hne : ∀ x ∈ l, nmC x t.n ≠ 0 := fun x hx h => by
    have := parN_mem hr hx h
    rw [hn] at this
    cases this
  have hsplit := List.take_append_drop (plcN l t.n) l
  have hr2 : (l.take (plcN l t.n) ++ l.drop (plcN l t.n)).Pairwise fun t u => nmC t u.n < 0 := by rw [hsplit]; exact hr
  obtain ⟨p1, p2, p3⟩ := List.pairwise_append.1 hr2
  have hlo : ∀ x ∈ l.take (plcN l t.n), nmC x t.n < 0 := fun x hx => by
    obtain ⟨i, hi, rfl⟩ := List.mem_iff_getElem.1 hx
    rw [List.length_take] at hi
    rw [List.getElem_take]
    exact plc_lt (by omega) (by omega)
  have hhi : ∀ x ∈ l.drop (plcN l t.n), nmC t x.n < 0 := fun x hx => by
    obtain ⟨i, hi, rfl⟩ := List.mem_iff_getElem.1 hx
    rw [List.length_drop] at hi
    rw [List.getElem_drop]
    have h0 := plc_ge l t.n (by omega)
    have h1 : ¬ nmC (l[plcN l t.n + i]'(by omega)) t.n < 0 := fun hlt => h0 (rise_mono hr (Nat.le_add_right _ i) (by omega) hlt)
    have h2 := hne _ (List.getElem_mem (by omega : plcN l t.n + i < l.length))
    unfold nmC at *
    rw [cmpL_anti]
    omega
  unfold Rise insT
  rw [List.pairwise_append]
  refine ⟨p1, List.pairwise_cons.2 ⟨hhi, p2⟩, fun x hx y hy => ?_⟩
  rcases List.mem_cons.1 hy with rfl | hy
  · exact hlo x hx
  · exact p3 x hx y hy
theorem parN_ins {l : List Ty} {t : Ty} (hr : Rise l) (hn : parN l t.n = none) {s : ByteArray} {o : Ty} (h : parN l s = some o) : parN (insT l (plcN l t.n) t) s = some o := by
  obtain ⟨h1, h2⟩ := parN_some h
  exact parN_mem (insT_rise hr hn) (insT_mem.2 (.inr h1)) h2
theorem parB_ins {l : List Ty} {t : Ty} (hr : Rise l) (hn : parN l t.n = none) {u : Ty} (h : parB l u = true) : parB (insT l (plcN l t.n) t) u = true := by
  unfold parB at *
  rw [Bool.or_eq_true] at *
  rcases h with h | h
  · exact .inl h
  · refine .inr ?_
    cases hp : parN l u.p with
    | none => rw [hp] at h; cases h
    | some o => rw [parN_ins hr hn hp]; rw [hp] at h; exact h
/-- WHAT CAN BE ADDED IS ADDED, and a forest stays one. -/
theorem add_can {l : List Ty} {t : Ty} (hi : isB l = true) (hc : CanAdd l t) (hl : l.length < 200) : addR l t = (insT l (plcN l t.n) t, 0) ∧ isB (insT l (plcN l t.n) t) = true ∧ (insT l (plcN l t.n) t).length = l.length + 1 ∧ parN (insT l (plcN l t.n) t) t.n = some t := by
  obtain ⟨i1, i2, i3, i4⟩ := (isB_iff l).1 hi
  obtain ⟨c1, c2, c3⟩ := hc
  refine ⟨?_, (isB_iff _).2 ⟨?_, ?_, insT_rise i3 c2, ?_⟩, insT_len (plcN_le _ _), parN_mem (insT_rise i3 c2) (insT_mem.2 (.inl rfl)) (cmpL_irr _)⟩
  · unfold addR
    rw [hi, c1, Bool.and_self, if_pos rfl, c2, if_neg (by simp), if_neg (by omega)]
    rcases c3 with h | ⟨o, h1, h2⟩
    · rw [if_pos h]
    · by_cases hp : t.p.size = 0
      · rw [if_pos hp]
      · rw [if_neg hp, h1]
        simp only [h2, if_true]
  · rw [insT_len (plcN_le _ _)]; omega
  · intro x hx
    rcases insT_mem.1 hx with rfl | hx
    · exact c1
    · exact i2 x hx
  · intro x hx
    rcases insT_mem.1 hx with rfl | hx
    · unfold parB
      rw [Bool.or_eq_true]
      rcases c3 with h | ⟨o, h1, h2⟩
      · exact .inl (decide_eq_true h)
      · rw [parN_ins i3 c2 h1]
        exact .inr h2
    · exact parB_ins i3 c2 (i4 x hx)
/-- Where none is made it is none. -/
theorem root_bad {s : ByteArray} {own : List Fd} {a b c : Int} (h : (rootR s own a b c).2 ≠ 0) : (rootR s own a b c).1 = zT := by
  unfold rootR at *
  split
  · split
    · rename_i h1 h2
      rw [if_pos h1, if_pos h2] at h
      exact absurd rfl h
    · rfl
  · rfl
theorem bel_bad {o : Ty} {s : ByteArray} {own : List Fd} {a b c : Int} (h : (belR o s own a b c).2 ≠ 0) : (belR o s own a b c).1 = zT := by
  unfold belR at *
  split
  · split
    · split
      · rfl
      · split
        · rfl
        · split
          · rename_i h1 h2 h3 h4 h5
            rw [if_pos h1, if_pos h2, if_neg h3, if_neg h4, if_pos h5] at h
            exact absurd rfl h
          · rfl
    · rfl
  · rfl
theorem make_bad {l : List Ty} {s p : ByteArray} {own : List Fd} {a b c : Int} (h : (mkR l s p own a b c).2 ≠ 0) : (mkR l s p own a b c).1 = zT := by
  unfold mkR at *
  split
  · split
    · split
      · rfl
      · split
        · rename_i h1 h2 h3 h4
          rw [if_pos h1, if_pos h2, if_neg h3, if_pos h4] at h
          exact root_bad h
        · rename_i h1 h2 h3 h4
          rw [if_pos h1, if_pos h2, if_neg h3, if_neg h4] at h
          split
          · rfl
          · rename_i o ho
            rw [ho] at h
            exact bel_bad h
    · rfl
  · rfl
end Go.Proofs.YtacpllmlpmllbaaGreatDoor
/- Chains of a forest: plain mathematics. -/
namespace Go.Proofs.YtacpllmlpmllbaaGreatDoor
open Go.RowKit

/-- What is below another one is its name ahead of that one's chain, and has all of its fields. -/
theorem bel_chain {t o : Ty} (hc : chkT t = true) (h : belB t o = true) : t.ch = t.n :: o.ch ∧ ∀ f ∈ o.all, f ∈ t.all := by
  unfold belB sameS at h
  simp only [Bool.and_eq_true, decide_eq_true_eq, sameR_iff] at h
  obtain ⟨h1, h2, h3⟩ := h
  obtain ⟨c1, -, c3, -, -⟩ := (chkT_iff t).1 hc
  constructor
  · cases hch : t.ch with
    | nil => rw [hch] at c1; simp at c1
    | cons u r =>
      rw [hch] at c3 h3
      simp at c3 h3
      rw [c3, h3]
  · intro f hf
    obtain ⟨-, -, m3⟩ := mgL_ok h1
    rw [← h2, m3]
    exact (srtF_perm _).mem_iff.2 (List.mem_append.2 (.inl hf))
theorem root_chain {t : Ty} (hc : chkT t = true) (h : t.p.size = 0) : t.ch = [t.n] := by
  obtain ⟨c1, -, c3, ⟨c4, -⟩, c5⟩ := (chkT_iff t).1 hc
  unfold chkR at c5
  simp only [Bool.and_eq_true] at c5
  by_cases h1 : t.ch.length = 1
  · match hch : t.ch, h1 with
    | [u], _ =>
      rw [hch] at c3
      simp at c3
      rw [c3]
  · rw [if_neg h1] at c5
    simp only [Bool.and_eq_true, decide_eq_true_eq] at c5
    have hm := List.mem_of_getElem? c5.2.2.2.1
    exact absurd h (size_name (c4 _ hm))
theorem par_chain {t : Ty} (hc : chkT t = true) (h : t.p.size ≠ 0) : t.ch[1]? = some t.p := by
  obtain ⟨c1, -, c3, -, c5⟩ := (chkT_iff t).1 hc
  unfold chkR at c5
  simp only [Bool.and_eq_true] at c5
  by_cases h1 : t.ch.length = 1
  · rw [if_pos h1] at c5
    simp only [Bool.and_eq_true, decide_eq_true_eq] at c5
    exact absurd c5.2.2.2.1 h
  · rw [if_neg h1] at c5
    simp only [Bool.and_eq_true, decide_eq_true_eq] at c5
    exact c5.2.2.2.1
/-- Each name of a chain is that of a type of the forest, whose chain is the rest, and whose fields are among them. -/
theorem chain_all {l : List Ty} (hi : isB l = true) : ∀ (n : Nat) (t : Ty), t ∈ l → t.ch.length = n → ∀ (i : Nat) (h : i < t.ch.length), ∃ b ∈ l, b.n = t.ch[i] ∧ b.ch = t.ch.drop i ∧ ∀ f ∈ b.all, f ∈ t.all := by
  obtain ⟨-, i2, i3, i4⟩ := (isB_iff l).1 hi
  intro n
  induction n with
  | zero => intro t ht hn i h; omega
  | succ n ih =>
    intro t ht hn i h
    have hck := i2 t ht
    cases i with
    | zero =>
      obtain ⟨-, -, c3, -, -⟩ := (chkT_iff t).1 hck
      refine ⟨t, ht, ?_, by simp, fun f hf => hf⟩
      rw [List.getElem?_eq_getElem h] at c3
      exact (Option.some.inj c3).symm
    | succ i =>
      have hp : t.p.size ≠ 0 := fun hp => by
        have := root_chain hck hp
        rw [this] at h
        simp at h
      have hpar := i4 t ht
      unfold parB at hpar
      rw [decide_eq_false hp, Bool.false_or] at hpar
      cases ho : parN l t.p with
      | none => rw [ho] at hpar; cases hpar
      | some o =>
        rw [ho] at hpar
        obtain ⟨e1, e2⟩ := bel_chain hck hpar
        have hol := (parN_some ho).1
        have hlen : o.ch.length = n := by
          have := congrArg List.length e1
          simp at this
          omega
        obtain ⟨b, hb, b1, b2, b3⟩ := ih o hol hlen i (by rw [hlen]; omega)
        refine ⟨b, hb, ?_, ?_, fun f hf => e2 f (b3 f hf)⟩
        · rw [b1]
          simp only [e1, List.getElem_cons_succ]
        · rw [b2, e1]
          simp
/-- A type that another one is of has the rest of its chain. -/
theorem of_chain {l : List Ty} (hi : isB l = true) {a b : Ty} (ha : a ∈ l) (hb : b ∈ l) (h : ofB a b.n = true) : ∃ i, i < a.ch.length ∧ b.ch = a.ch.drop i ∧ ∀ f ∈ b.all, f ∈ a.all := by
  obtain ⟨-, i2, i3, i4⟩ := (isB_iff l).1 hi
  unfold ofB at h
  obtain ⟨u, hu, hs⟩ := List.any_eq_true.1 h
  obtain ⟨i, hil, rfl⟩ := List.mem_iff_getElem.1 hu
  obtain ⟨b', hb', e1, e2, e3⟩ := chain_all hi a.ch.length a ha rfl i hil
  have h0 : nmC b' b.n = 0 := by
    unfold nmC
    rw [e1]
    exact sameL_iff.1 hs
  have p1 := parN_mem i3 hb' h0
  have p2 := parN_mem i3 hb (cmpL_irr b.n.data.toList)
  have : b' = b := by
    have := p1.symm.trans p2
    exact Option.some.inj this
  subst this
  exact ⟨i, hil, e2, e3⟩
theorem of_self {l : List Ty} (hi : isB l = true) {a : Ty} (ha : a ∈ l) : ofB a a.n = true := by
  obtain ⟨-, -, c3, -, -⟩ := (chkT_iff a).1 (((isB_iff l).1 hi).2.1 a ha)
  exact List.any_eq_true.2 ⟨_, List.mem_of_getElem? c3, by simp [sameL]⟩
theorem of_par {l : List Ty} (hi : isB l = true) {a : Ty} (ha : a ∈ l) (hp : a.p.size ≠ 0) : ofB a a.p = true := by
  have := par_chain (((isB_iff l).1 hi).2.1 a ha) hp
  exact List.any_eq_true.2 ⟨_, List.mem_of_getElem? this, by simp [sameL]⟩
theorem of_trans {l : List Ty} (hi : isB l = true) {a b c : Ty} (ha : a ∈ l) (hb : b ∈ l) (h1 : ofB a b.n = true) (h2 : ofB b c.n = true) : ofB a c.n = true := by
  obtain ⟨i, -, e, -⟩ := of_chain hi ha hb h1
  unfold ofB at *
  obtain ⟨u, hu, hs⟩ := List.any_eq_true.1 h2
  rw [e] at hu
  exact List.any_eq_true.2 ⟨u, List.mem_of_mem_drop hu, hs⟩
theorem of_anti {l : List Ty} (hi : isB l = true) {a b : Ty} (ha : a ∈ l) (hb : b ∈ l) (h1 : ofB a b.n = true) (h2 : ofB b a.n = true) : a = b := by
  obtain ⟨i, hi1, e1, -⟩ := of_chain hi ha hb h1
  obtain ⟨j, hj1, e2, -⟩ := of_chain hi hb ha h2
  have l1 := congrArg List.length e1
  have l2 := congrArg List.length e2
  rw [List.length_drop] at l1 l2
  have hi0 : i = 0 := by omega
  subst hi0
  obtain ⟨-, i2, i3, -⟩ := (isB_iff l).1 hi
  obtain ⟨-, -, ca, -, -⟩ := (chkT_iff a).1 (i2 a ha)
  obtain ⟨-, -, cb, -, -⟩ := (chkT_iff b).1 (i2 b hb)
  rw [e1, List.drop_zero, ca] at cb
  have hn : a.n = b.n := Option.some.inj cb
  have p1 := parN_mem i3 ha (s := b.n) (by unfold nmC; rw [hn]; exact cmpL_irr _)
  have p2 := parN_mem i3 hb (cmpL_irr b.n.data.toList)
  exact Option.some.inj (p1.symm.trans p2)
end Go.Proofs.YtacpllmlpmllbaaGreatDoor
