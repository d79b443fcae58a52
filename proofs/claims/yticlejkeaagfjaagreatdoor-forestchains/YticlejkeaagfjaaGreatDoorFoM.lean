/- Types and forests: plain mathematics. -/
import Derived.Test.YticlejkeaagfjaaGreatDoorFoC
import Derived.Test.YticlejkeaagfjaaGreatDoorSnM
namespace Go.Proofs.YticlejkeaagfjaaGreatDoor
open Go.RowKit

/-! ### what two schemas make together -/
def insF (x : Fd) : List Fd → List Fd
  | [] => [x]
  | y :: l => if cmpL x.n.data.toList y.n.data.toList < 0 then x :: y :: l else y :: insF x l
def srtF : List Fd → List Fd
  | [] => []
  | x :: l => insF x (srtF l)
theorem insF_perm (x : Fd) : ∀ l, (insF x l).Perm (x :: l)
  | [] => List.Perm.refl _
  | y :: l => by
    rw [insF]
    split
    · exact List.Perm.refl _
    · exact ((insF_perm x l).cons y).trans (List.Perm.swap x y l)
theorem srtF_perm : ∀ l, (srtF l).Perm l
  | [] => List.Perm.refl _
  | x :: l => (insF_perm x _).trans ((srtF_perm l).cons x)
theorem insF_sorted (x : Fd) : ∀ l : List Fd, l.Pairwise ltF → (∀ y ∈ l, neF x y) → (insF x l).Pairwise ltF
  | [], _, _ => by simp [insF]
  | y :: l, h, hne => by
    rw [insF]
    obtain ⟨h1, h2⟩ := List.pairwise_cons.1 h
    split
    · rename_i hc
      have hxy : ltF x y := cmpL_lt.1 hc
      refine List.pairwise_cons.2 ⟨fun z hz => ?_, h⟩
      rcases List.mem_cons.1 hz with rfl | hz
      · exact hxy
      · exact ltF_trans hxy (h1 z hz)
    · rename_i hc
      have hyx : ltF y x := ltF_of hc (neF_symm (hne y (by simp)))
      refine List.pairwise_cons.2 ⟨fun z hz => ?_, insF_sorted x l h2 (fun z hz => hne z (by simp [hz]))⟩
      rcases List.mem_cons.1 ((insF_perm x l).mem_iff.1 hz) with rfl | hz
      · exact hyx
      · exact h1 z hz
theorem srtF_sorted : ∀ l : List Fd, l.Pairwise neF → (srtF l).Pairwise ltF
  | [], _ => List.Pairwise.nil
  | x :: l, h => by
    obtain ⟨h1, h2⟩ := List.pairwise_cons.1 h
    exact insF_sorted x _ (srtF_sorted l h2) fun y hy => h1 y ((srtF_perm l).mem_iff.1 hy)
/-- What two schemas make together, or the error. -/
def mgL (a b : List Fd) : List Fd × Int := if mergeE a b = 0 then (if 24 < a.length + b.length then ([], 2) else (srtF (a ++ b), 0)) else ([], mergeE a b)
theorem mrg_srtF {a b : List Fd} (h : mergeE a b = 0) : MrgD a b (srtF (a ++ b)) := ⟨srtF_perm _, srtF_sorted _ (app_ne h)⟩
theorem mrg_is {a b D : List Fd} (h : mergeE a b = 0) (hm : MrgD a b D) : D = srtF (a ++ b) := by
  have h1 := mrg_srtF h
  refine List.Perm.eq_of_pairwise (le := ltF) (fun x y _ _ h1 h2 => ?_) hm.2 h1.2 (hm.1.trans h1.1.symm)
  exact absurd (ltF_trans h1 h2) (ltF_irr x)
theorem mgL_ok {a b : List Fd} (h : (mgL a b).2 = 0) : mergeE a b = 0 ∧ a.length + b.length ≤ 24 ∧ (mgL a b).1 = srtF (a ++ b) := by
  unfold mgL at *
  by_cases h1 : mergeE a b = 0
  · rw [if_pos h1] at *
    by_cases h2 : 24 < a.length + b.length
    · rw [if_pos h2] at h; cases h
    · rw [if_neg h2] at *
      exact ⟨h1, by omega, rfl⟩
  · rw [if_neg h1] at h
    exact absurd h h1
theorem mgL_len (a b : List Fd) : (mgL a b).1.length ≤ 24 := by
  unfold mgL
  split
  · split
    · simp
    · rw [(srtF_perm _).length_eq, List.length_append]; omega
  · simp
theorem mgL_mem {a b : List Fd} {x : Fd} (h : x ∈ (mgL a b).1) : x ∈ a ∨ x ∈ b := by
  unfold mgL at h
  split at h
  · split at h
    · cases h
    · exact List.mem_append.1 ((srtF_perm _).mem_iff.1 h)
  · cases h
theorem mgL_chk {a b : List Fd} (h : (mgL a b).2 = 0) : chkF (mgL a b).1 = true := by
  obtain ⟨h1, h2, h3⟩ := mgL_ok h
  rw [h3]
  exact mrg_chk h1 (mrg_srtF h1) h2
theorem mgL_within {a b : List Fd} (h : (mgL a b).2 = 0) : withinL a (mgL a b).1 = true ∧ withinL b (mgL a b).1 = true := by
  obtain ⟨h1, h2, h3⟩ := mgL_ok h
  rw [h3]
  exact mrg_within (mrg_srtF h1)

/-! ### names -/
theorem cmpL_zero {a b : List UInt8} : cmpL a b = 0 ↔ foldL a = foldL b := by
  unfold cmpL
  constructor
  · exact cmp_zero _ _
  · intro h; rw [h, cmp_self]
theorem sameL_iff {a b : List UInt8} : sameL a b = true ↔ cmpL a b = 0 := by
  unfold sameL
  rw [decide_eq_true_eq, cmpL_zero]
theorem cmpL_tr {a b c : List UInt8} (h1 : cmpL a b < 0) (h2 : cmpL b c < 0) : cmpL a c < 0 := by
  rw [cmpL_lt] at *
  exact cmp_trans _ _ _ h1 h2
theorem cmpL_congr {a b c : List UInt8} (h : foldL a = foldL b) : cmpL a c = cmpL b c := by unfold cmpL; rw [h]
theorem cmpL_congr' {a b c : List UInt8} (h : foldL a = foldL b) : cmpL c a = cmpL c b := by unfold cmpL; rw [h]
theorem cmpL_anti (a b : List UInt8) : cmpL a b = - cmpL b a := cmp_anti _ _
theorem cmpL_irr (a : List UInt8) : cmpL a a = 0 := cmp_self _

/-! ### places -/
def nmC (t : Ty) (s : ByteArray) : Int := cmpL t.n.data.toList s.data.toList
/-- Types that rise. -/
def Rise (l : List Ty) : Prop := l.Pairwise fun t u => nmC t u.n < 0
/-- The type of a name. -/
def parN (l : List Ty) (s : ByteArray) : Option Ty := l.find? fun u => sameL u.n.data.toList s.data.toList
/-- Where a name stands, or would stand. -/
def plcN (l : List Ty) (s : ByteArray) : Nat := (l.takeWhile fun u => decide (nmC u s < 0)).length
theorem rise_mono {l : List Ty} (h : Rise l) {s : ByteArray} {a b : Nat} (hab : a ≤ b) (hb : b < l.length) (hc : nmC l[b] s < 0) : nmC (l[a]'(by omega)) s < 0 := by
  by_cases e : a = b
  · subst e; exact hc
  · exact cmpL_tr ((List.pairwise_iff_getElem.1 h) a b (by omega) hb (by omega)) hc
theorem plcN_le (l : List Ty) (s : ByteArray) : plcN l s ≤ l.length := (List.takeWhile_prefix _).length_le
/-- The boundary is the place. -/
theorem plc_at : ∀ (l : List Ty) (s : ByteArray) (k : Nat), k ≤ l.length → (∀ (t : Nat) (h : t < l.length), t < k → nmC l[t] s < 0) → (∀ (h : k < l.length), ¬ nmC l[k] s < 0) → plcN l s = k
  | [], s, k, hk, _, _ => by
    have : k = 0 := by simpa using hk
    subst this
    rfl
  | u :: l, s, 0, _, _, h2 => by
    have := h2 (by simp)
    unfold plcN
    rw [List.takeWhile_cons_of_neg (by simpa using this)]
    rfl
  | u :: l, s, k + 1, hk, h1, h2 => by
    have h0 : nmC u s < 0 := h1 0 (by simp) (by omega)
    have ih := plc_at l s k (by simpa using hk) (fun t h ht => h1 (t + 1) (by simpa using h) (by omega)) (fun h => h2 (by simpa using h))
    unfold plcN at *
    rw [List.takeWhile_cons_of_pos (by simpa using h0), List.length_cons, ih]
theorem plc_lt {l : List Ty} {s : ByteArray} {t : Nat} (h : t < l.length) (ht : t < plcN l s) : nmC l[t] s < 0 := by
  have hp : (l.takeWhile fun u => decide (nmC u s < 0)) <+: l := List.takeWhile_prefix _
  have e : l[t] = (l.takeWhile fun u => decide (nmC u s < 0))[t]'ht := (hp.getElem ht).symm
  rw [e]
  have hm := List.getElem_mem ht
  have := List.all_takeWhile (p := fun u => decide (nmC u s < 0)) (l := l)
  rw [List.all_eq_true] at this
  simpa using this _ hm
theorem plc_ge : ∀ (l : List Ty) (s : ByteArray) (h : plcN l s < l.length), ¬ nmC (l[plcN l s]'h) s < 0
  | [], s, h => absurd h (by simp [plcN])
  | u :: l, s, h => by
    by_cases hu : nmC u s < 0
    · have e : plcN (u :: l) s = plcN l s + 1 := by
        unfold plcN
        rw [List.takeWhile_cons_of_pos (by simpa using hu), List.length_cons]
      have hl : plcN l s < l.length := by rw [e] at h; simpa using h
      have ih := plc_ge l s hl
      have : (u :: l)[plcN (u :: l) s]'h = l[plcN l s] := by
        simp only [e, List.getElem_cons_succ]
      rw [this]
      exact ih
    · have e : plcN (u :: l) s = 0 := by
        unfold plcN
        rw [List.takeWhile_cons_of_neg (by simpa using hu)]
        rfl
      have : (u :: l)[plcN (u :: l) s]'h = u := by simp only [e, List.getElem_cons_zero]
      rw [this]
      exact hu
/-- Of types that rise the one of a name stands at its place. -/
theorem par_at {l : List Ty} (hr : Rise l) {s : ByteArray} {k : Nat} (hk : k < l.length) (h : nmC l[k] s = 0) : plcN l s = k ∧ parN l s = some l[k] := by
  have hlt : ∀ (t : Nat) (h : t < l.length), t < k → nmC l[t] s < 0 := fun t ht htk => by
    have h1 : nmC l[t] l[k].n < 0 := (List.pairwise_iff_getElem.1 hr) t k ht hk htk
    unfold nmC at *
    rw [cmpL_congr' (cmpL_zero.1 h)] at h1
    exact h1
  refine ⟨plc_at l s k (Nat.le_of_lt hk) hlt (fun _ => by omega), ?_⟩
  unfold parN
  rw [List.find?_eq_some_iff_getElem]
  refine ⟨sameL_iff.2 h, k, hk, rfl, fun j hj => ?_⟩
  have := hlt j (by omega) hj
  cases e : sameL l[j].n.data.toList s.data.toList
  · rfl
  · have := sameL_iff.1 e
    unfold nmC at *
    omega
theorem par_none {l : List Ty} {s : ByteArray} (h : ∀ (k : Nat) (hk : k < l.length), nmC l[k] s ≠ 0) : parN l s = none := by
  unfold parN
  rw [List.find?_eq_none]
  intro x hx
  obtain ⟨k, hk, rfl⟩ := List.mem_iff_getElem.1 hx
  intro e
  exact h k hk (sameL_iff.1 e)
/-- What is at the place tells whether there is one of that name. -/
theorem par_plc {l : List Ty} (hr : Rise l) (s : ByteArray) : parN l s = (if h : plcN l s < l.length then (if nmC l[plcN l s] s = 0 then some l[plcN l s] else none) else none) := by
  by_cases h : plcN l s < l.length
  · rw [dif_pos h]
    by_cases h0 : nmC l[plcN l s] s = 0
    · rw [if_pos h0]; exact (par_at hr h h0).2
    · rw [if_neg h0]
      refine par_none fun k hk e => ?_
      have := (par_at hr hk e).1
      subst this
      exact h0 e
  · rw [dif_neg h]
    refine par_none fun k hk e => ?_
    have := (par_at hr hk e).1
    omega

/-! ### forests -/
def sameS (a b : List ByteArray) : Bool := decide (a = b)
/-- Does a type stand right below another one? -/
def belB (t o : Ty) : Bool := decide ((mgL o.all t.own).2 = 0) && (sameR (mgL o.all t.own).1 t.all && sameS o.ch t.ch.tail)
def parB (l : List Ty) (t : Ty) : Bool := decide (t.p.size = 0) || (match parN l t.p with | none => false | some o => belB t o)
def riseB (l : List Ty) : Bool := decide (∀ (k : Nat) (h : k < l.length - 1), nmC (l[k]'(by omega)) (l[k + 1]'(by omega)).n < 0)
theorem riseB_iff (l : List Ty) : riseB l = true ↔ Rise l := by
  unfold riseB Rise
  rw [decide_eq_true_eq, List.pairwise_iff_getElem]
  constructor
  · intro h
    have key : ∀ (j i : Nat) (hi : i < j) (hj : j < l.length), nmC (l[i]'(by omega)) l[j].n < 0 := by
      intro j
      induction j with
      | zero => intro i hi; omega
      | succ j ih =>
        intro i hi hj
        by_cases e : i = j
        · subst e; exact h i (by omega)
        · exact cmpL_tr (ih i (by omega) (by omega)) (h j (by omega))
    exact fun i j hi hj hij => key j i hij hj
  · intro h k hk
    exact h k (k + 1) (by omega) (by omega) (by omega)
/-- Are types a forest? -/
def isB (l : List Ty) : Bool := decide (l.length ≤ 200) && (l.all chkT && (riseB l && l.all (parB l)))
/-- Is a type of another one? -/
def ofB (t : Ty) (s : ByteArray) : Bool := t.ch.any fun u => sameL u.data.toList s.data.toList
def zT : Ty := ⟨⟨#[]⟩, ⟨#[]⟩, [], [], [], 0, 0, 0⟩
/-- A type that is below no other one, or the error. -/
def rootR (s : ByteArray) (own : List Fd) (a b c : Int) : Ty × Int := if checkL s.data.toList = 0 then (if (chkF own && idB a b c) = true then (⟨s, ⟨#[]⟩, own, own, [s], a, b, c⟩, 0) else (zT, 1)) else (zT, checkL s.data.toList)
/-- A type right below another one, or the error. -/
def belR (o : Ty) (s : ByteArray) (own : List Fd) (a b c : Int) : Ty × Int :=
  if checkL s.data.toList = 0 then
    (if (chkT o && (chkF own && idB a b c)) = true then
      (if ofB o s = true then (zT, 5) else if o.ch.length = 8 then (zT, 2) else
        (if (mgL o.all own).2 = 0 then (⟨s, o.n, own, (mgL o.all own).1, s :: o.ch, a, b, c⟩, 0) else (zT, (mgL o.all own).2)))
    else (zT, 1))
  else (zT, checkL s.data.toList)
/-- A type that can be added to a forest, or the error. -/
def mkR (l : List Ty) (s p : ByteArray) (own : List Fd) (a b c : Int) : Ty × Int :=
  if isB l = true then
    (if checkL s.data.toList = 0 then
      (if (parN l s).isSome = true then (zT, 5) else if p.size = 0 then rootR s own a b c else
        (match parN l p with | none => (zT, 4) | some o => belR o s own a b c))
    else (zT, checkL s.data.toList))
  else (zT, 1)
def insT (l : List Ty) (k : Nat) (t : Ty) : List Ty := l.take k ++ t :: l.drop k
/-- A forest with one type more, or the error. -/
def addR (l : List Ty) (t : Ty) : List Ty × Int :=
  if (isB l && chkT t) = true then
    (if (parN l t.n).isSome = true then ([], 5) else if l.length = 200 then ([], 6) else
      (if t.p.size = 0 then (insT l (plcN l t.n) t, 0) else
        (match parN l t.p with | none => ([], 4) | some o => if belB t o = true then (insT l (plcN l t.n) t, 0) else ([], 3))))
  else ([], 1)
end Go.Proofs.YticlejkeaagfjaaGreatDoor
