/- Fields that are sorted: plain mathematics of a merge. -/
import Derived.Test.YthdbnlpbidkojaaGreatDoorZk4
import Derived.Below
import Derived.Calls
import Derived.Control
import Derived.Test.YthdbnlpbidkojaaGreatDoorZk1
import Derived.Test.YthdbnlpbidkojaaGreatDoorChecked
import Derived.ProofKit
import Derived.OpenShut
import Derived.ShutString
import Derived.ChangeOld
import Derived.Stop.Joined
import Derived.Deep.Slices
import Derived.Deep.Strs
import Derived.SizedLaws
import Derived.Lib.SmallJoins
namespace Go.Proofs.YthdbnlpbidkojaaGreatDoor
open Go.RowKit

/-- Ahead, by the names. -/
def ltF (x y : Fd) : Prop := cmpL x.n.data.toList y.n.data.toList = -1
theorem cmpL_lt {a b : List UInt8} : cmpL a b < 0 ↔ cmpL a b = -1 := by
  have := cmp_vals (foldL a) (foldL b)
  unfold cmpL
  omega
theorem ltF_trans {x y z : Fd} (h1 : ltF x y) (h2 : ltF y z) : ltF x z := cmp_trans _ _ _ h1 h2
theorem ltF_irr (x : Fd) : ¬ ltF x x := by
  unfold ltF cmpL
  rw [cmp_self]
  decide
/-- Not the same names. -/
def neF (x y : Fd) : Prop := sameL x.n.data.toList y.n.data.toList = false
theorem neF_symm {x y : Fd} (h : neF x y) : neF y x := by
  unfold neF sameL at *
  rw [decide_eq_false_iff_not] at *
  exact fun e => h e.symm
theorem ltF_ne {x y : Fd} (h : ltF x y) : neF x y := by
  unfold neF sameL
  rw [decide_eq_false_iff_not]
  intro e
  unfold ltF cmpL at h
  rw [e, cmp_self] at h
  cases h
theorem ltF_of {x y : Fd} (h1 : ¬ cmpL y.n.data.toList x.n.data.toList < 0) (h2 : neF x y) : ltF x y := by
  unfold ltF
  have hv := cmp_vals (foldL x.n.data.toList) (foldL y.n.data.toList)
  have ha := cmp_anti (foldL y.n.data.toList) (foldL x.n.data.toList)
  unfold cmpL at *
  rcases hv with h | h | h
  · exact h
  · have := cmp_zero _ _ h
    unfold neF sameL at h2
    rw [decide_eq_false_iff_not] at h2
    exact absurd this h2
  · omega
theorem chk_sorted {l : List Fd} (h : chkF l = true) : l.Pairwise ltF := by
  unfold chkF at h
  simp only [Bool.and_eq_true, decide_eq_true_eq] at h
  have key : ∀ (j i : Nat) (hi : i < j) (hj : j < l.length), ltF (l[i]'(by omega)) l[j] := by
    intro j
    induction j with
    | zero => intro i hi; omega
    | succ j ih =>
      intro i hi hj
      have h1 : ltF l[j] l[j + 1] := cmpL_lt.1 ((h.2 (j + 1) hj).2 j rfl)
      by_cases e : i = j
      · subst e; exact h1
      · exact ltF_trans (ih i (by omega) (by omega)) h1
  rw [List.pairwise_iff_getElem]
  exact fun i j hi hj hij => key j i hij hj
theorem chk_mayF {l : List Fd} (h : chkF l = true) : ∀ x ∈ l, mayF x = true := by
  unfold chkF at h
  simp only [Bool.and_eq_true, decide_eq_true_eq] at h
  intro x hx
  obtain ⟨i, hi, rfl⟩ := List.mem_iff_getElem.1 hx
  exact (h.2 i hi).1
theorem chk_of {l : List Fd} (h1 : l.length ≤ 24) (h2 : ∀ x ∈ l, mayF x = true) (h3 : l.Pairwise ltF) : chkF l = true := by
  unfold chkF
  simp only [Bool.and_eq_true, decide_eq_true_eq]
  refine ⟨h1, fun k hk => ⟨h2 _ (List.getElem_mem hk), fun j e => ?_⟩⟩
  subst e
  exact cmpL_lt.2 ((List.pairwise_iff_getElem.1 h3) j (j + 1) (by omega) hk (by omega))
/-- Not behind. -/
def leF (x y : Fd) : Prop := ¬ cmpL y.n.data.toList x.n.data.toList < 0
/-- What two schemas make together, sorted. -/
def MrgD (a b D : List Fd) : Prop := D.Perm (a ++ b) ∧ D.Pairwise ltF
theorem clash_iff {a b : List Fd} : clashL a b = false ↔ ∀ x ∈ a, ∀ y ∈ b, neF x y := by
  unfold clashL
  rw [List.any_eq_false]
  constructor
  · intro h x hx y hy
    have := h y hy
    unfold neF
    cases e : sameL x.n.data.toList y.n.data.toList
    · rfl
    · exfalso
      apply this
      unfold getF
      rw [List.find?_isSome]
      exact ⟨x, hx, e⟩
  · intro h y hy hs
    unfold getF at hs
    rw [List.find?_isSome] at hs
    obtain ⟨x, hx, e⟩ := hs
    have := h x hx y hy
    unfold neF at this
    rw [this] at e
    cases e
theorem clash_symm (a b : List Fd) : clashL a b = clashL b a := by
  have key : ∀ a b : List Fd, clashL a b = false → clashL b a = false := fun a b h => clash_iff.2 fun x hx y hy => neF_symm (clash_iff.1 h y hy x hx)
  cases h1 : clashL a b <;> cases h2 : clashL b a <;> first | rfl | (rw [key _ _ h1] at h2; cases h2) | (rw [key _ _ h2] at h1; cases h1)
theorem mergeE_symm (a b : List Fd) : mergeE a b = mergeE b a := by
  unfold mergeE
  rw [clash_symm a b]
  by_cases h1 : chkF a = true <;> by_cases h2 : chkF b = true <;> simp [h1, h2]
theorem mergeE_ok {a b : List Fd} (h : mergeE a b = 0) : chkF a = true ∧ chkF b = true ∧ clashL a b = false := by
  unfold mergeE at h
  split at h
  · rename_i hc
    split at h
    · cases h
    · rename_i hn
      exact ⟨hc.1, hc.2, by simpa using hn⟩
  · cases h
theorem app_ne {a b : List Fd} (h : mergeE a b = 0) : (a ++ b).Pairwise neF := by
  obtain ⟨ha, hb, hc⟩ := mergeE_ok h
  rw [List.pairwise_append]
  exact ⟨(chk_sorted ha).imp ltF_ne, (chk_sorted hb).imp ltF_ne, clash_iff.1 hc⟩
theorem app_may {a b : List Fd} (h : mergeE a b = 0) : ∀ x ∈ a ++ b, mayF x = true := by
  obtain ⟨ha, hb, -⟩ := mergeE_ok h
  intro x hx
  rcases List.mem_append.1 hx with hx | hx
  · exact chk_mayF ha x hx
  · exact chk_mayF hb x hx
/-- What is sorted so is what both make together. -/
theorem mrg_of {a b D : List Fd} (h : mergeE a b = 0) (hp : D.Perm (a ++ b)) (hs : D.Pairwise leF) : MrgD a b D := by
  refine ⟨hp, ?_⟩
  have hne : D.Pairwise neF := (hp.pairwise_iff neF_symm).2 (app_ne h)
  exact (hs.and hne).imp fun ⟨h1, h2⟩ => ltF_of h1 h2
theorem mrg_chk {a b D : List Fd} (h : mergeE a b = 0) (hm : MrgD a b D) (hl : a.length + b.length ≤ 24) : chkF D = true :=
  chk_of (by rw [hm.1.length_eq, List.length_append]; exact hl) (fun x hx => app_may h x (hm.1.mem_iff.1 hx)) hm.2
theorem mrg_uniq {a b D D' : List Fd} (h : MrgD a b D) (h' : MrgD b a D') : D = D' := by
  refine List.Perm.eq_of_pairwise (le := ltF) (fun x y _ _ h1 h2 => ?_) h.2 h'.2 (h.1.trans (List.perm_append_comm.trans h'.1.symm))
  exact absurd (ltF_trans h1 h2) (ltF_irr x)
theorem mrg_len {a b D : List Fd} (h : MrgD a b D) : D.length = a.length + b.length := by rw [h.1.length_eq, List.length_append]
theorem sameF_self (x : Fd) : sameF x x = true := by simp [sameF, sameL]
theorem mrg_within {a b D : List Fd} (h : MrgD a b D) : withinL a D = true ∧ withinL b D = true := by
  have key : ∀ x ∈ D, isInL x D = true := fun x hx => List.any_eq_true.2 ⟨x, hx, sameF_self x⟩
  exact ⟨List.all_eq_true.2 fun x hx => key x (h.1.mem_iff.2 (by simp [hx])), List.all_eq_true.2 fun x hx => key x (h.1.mem_iff.2 (by simp [hx]))⟩
/-! ### what fits a part fits the whole -/
theorem fit1_iff (l : List Fd) : ∀ a : List At, fit1 l a = 0 ↔ ∀ y ∈ a, ∃ f, getF l y.n = some f ∧ f.k = y.k
  | [] => by simp [fit1]
  | y :: a => by
    rw [fit1]
    have ih := fit1_iff l a
    constructor
    · intro h z hz
      cases hg : getF l y.n with
      | none => rw [hg] at h; cases h
      | some f =>
        rw [hg] at h
        dsimp only at h
        split at h
        · rename_i hk
          rcases List.mem_cons.1 hz with rfl | hz
          · exact ⟨f, hg, hk⟩
          · exact ih.1 h z hz
        · cases h
    · intro h
      obtain ⟨f, hg, hk⟩ := h y (by simp)
      rw [hg]
      dsimp only
      rw [if_pos hk]
      exact ih.2 fun z hz => h z (by simp [hz])
theorem fit2_iff (a : List At) : ∀ l : List Fd, fit2 a l = 0 ↔ ∀ f ∈ l, f.m = true → (getA a f.n).isSome = true
  | [] => by simp [fit2]
  | f :: l => by
    rw [fit2]
    have ih := fit2_iff a l
    constructor
    · intro h g hg hm
      split at h
      · cases h
      · rename_i hn
        rcases List.mem_cons.1 hg with rfl | hg
        · cases e : (getA a g.n).isSome
          · exact absurd ⟨hm, e⟩ hn
          · rfl
        · exact ih.1 h g hg hm
    · intro h
      rw [if_neg (fun hh => by have := h f (by simp) hh.1; rw [this] at hh; exact absurd hh.2 (by decide))]
      exact ih.2 fun g hg => h g (by simp [hg])
theorem getF_mem {l : List Fd} {s : ByteArray} {f : Fd} (h : getF l s = some f) : f ∈ l ∧ sameL f.n.data.toList s.data.toList = true := ⟨List.mem_of_find?_eq_some h, by have := List.find?_some h; exact this⟩
theorem pair_ne {D : List Fd} (h : D.Pairwise ltF) {x y : Fd} (hx : x ∈ D) (hy : y ∈ D) (hs : sameL x.n.data.toList y.n.data.toList = true) : x = y := by
  obtain ⟨i, hi, rfl⟩ := List.mem_iff_getElem.1 hx
  obtain ⟨j, hj, rfl⟩ := List.mem_iff_getElem.1 hy
  have hp := List.pairwise_iff_getElem.1 h
  rcases Nat.lt_trichotomy i j with e | e | e
  · have := ltF_ne (hp i j hi hj e)
    unfold neF at this
    rw [this] at hs
    cases hs
  · subst e; rfl
  · have := neF_symm (ltF_ne (hp j i hj hi e))
    unfold neF at this
    rw [this] at hs
    cases hs
theorem fits_more {a b D : List Fd} {x : List At} (h : mergeE a b = 0) (hm : MrgD a b D) (hl : a.length + b.length ≤ 24) (hb : ∀ y ∈ b, y.m = false) (hf : fitsL a x = 0) : fitsL D x = 0 := by
  unfold fitsL at hf ⊢
  split at hf
  · rename_i hc
    split at hf
    · rename_i h1
      have g1 : fit1 D x = 0 := (fit1_iff D x).2 fun y hy => by
        obtain ⟨f, hg, hk⟩ := (fit1_iff a x).1 h1 y hy
        obtain ⟨m1, m2⟩ := getF_mem hg
        have hfD : f ∈ D := hm.1.mem_iff.2 (by simp [m1])
        have hs : (getF D y.n).isSome = true := by
          unfold getF
          rw [List.find?_isSome]
          exact ⟨f, hfD, m2⟩
        obtain ⟨f', hg'⟩ := Option.isSome_iff_exists.1 hs
        obtain ⟨n1, n2⟩ := getF_mem hg'
        have : f' = f := pair_ne hm.2 n1 hfD (by
          unfold sameL at *
          simp only [decide_eq_true_eq] at *
          rw [n2, m2])
        subst this
        exact ⟨f', hg', hk⟩
      have g2 : fit2 x D = 0 := (fit2_iff x D).2 fun f hfD hmu => by
        rcases List.mem_append.1 (hm.1.mem_iff.1 hfD) with hfa | hfb
        · exact (fit2_iff x a).1 hf f hfa hmu
        · rw [hb f hfb] at hmu; cases hmu
      rw [if_pos ⟨mrg_chk h hm hl, hc.2⟩, if_pos g1]
      exact g2
    · exact absurd hf (by assumption)
  · cases hf
end Go.Proofs.YthdbnlpbidkojaaGreatDoor
/- How often the tape was asked never falls: of one operation. -/
namespace Go.Proofs.YthdbnlpbidkojaaGreatDoor
def resW {α : Type} : Result α → World
  | .ok _ w => w
  | .halt _ w => w
theorem viewStore_drawn {p : Program} {w w' : World} {a k : Addr} {u : TypeId} {v : Value} {b : Bool} {l : List Addr} (h : w.viewStore p a u k v b = .ok (w', l)) : w'.drawn = w.drawn := by
  unfold World.viewStore at h
  simp only [bind, Except.bind, pure, Except.pure] at h
  repeat' (split at h)
  all_goals first
    | (cases h; done)
    | (simp only [Except.ok.injEq, Prod.mk.injEq] at h; obtain ⟨rfl, _⟩ := h; rfl)
theorem farStore_drawn {p : Program} {w w' : World} {a : Addr} {v : Value} {b : Bool} {l : List Addr} (h : w.farStore p a v b = .ok (w', l)) : w'.drawn = w.drawn := by
  unfold World.farStore at h
  split at h
  · split at h
    · rename_i r hr
      cases h
      exact viewStore_drawn hr
    · cases h
  · cases h
theorem ask_drawn {α : Type} (m : Ask α) : ∀ w : World, w.drawn ≤ (w.ask m).2.drawn := by
  induction m with
  | done a => intro w; exact Nat.le_refl _
  | ask what range k ih =>
    intro w
    unfold World.ask
    dsimp only
    split
    · exact ih _ w
    · exact Nat.le_trans (Nat.le_succ _) (ih _ { w with drawn := w.drawn + 1 })
theorem sys_drawn (w : World) (c : Sys) : w.drawn ≤ (w.sys c).2.drawn := by
  have h := ask_drawn (Kernel.perform c w.os) w
  unfold World.sys
  split
  · exact Nat.le_refl _
  · rename_i r os w' _ he
    rw [he] at h
    exact h
theorem freeze_drawn (w : World) (a : Addr) (n : Nat) : (w.freeze a n).drawn = w.drawn := by unfold World.freeze; split <;> rfl
theorem run_drawn {α : Type} (p : Program) (s : Sem α) : ∀ w, w.drawn ≤ (resW (s.run p w)).drawn := by
  induction s with
  | pure a => intro w; exact Nat.le_refl _
  | load m a k ih =>
    intro w
    unfold Sem.run
    split
    · exact ih _ w
    · split
      · exact ih _ w
      · exact Nat.le_refl _
  | store m a v k ih =>
    intro w
    cases v <;> unfold Sem.run <;> first
      | exact Nat.le_refl _
      | (split
         · split
           · exact Nat.le_refl _
           · exact ih (w.setCell a _)
         · split
           · rename_i w1 _ he
             have h1 := farStore_drawn he
             exact Nat.le_trans (Nat.le_of_eq h1.symm) (ih w1)
           · exact Nat.le_refl _)
  | new o k ih => intro w; unfold Sem.run; exact ih _ { w with heap := w.heap.push o }
  | shape r k ih => intro w; unfold Sem.run; exact ih _ w
  | freeze a n k ih => intro w; unfold Sem.run; exact Nat.le_trans (Nat.le_of_eq (freeze_drawn w a n).symm) (ih _)
  | frozen a k ih => intro w; unfold Sem.run; exact ih _ w
  | getObj r k ih =>
    intro w
    unfold Sem.run
    split <;> first | exact Nat.le_refl _ | exact ih _ w
  | setObj r o k ih =>
    intro w
    unfold Sem.run
    split <;> first | exact Nat.le_refl _ | exact ih { w with heap := w.heap.setIfInBounds r o }
  | choose q k ih =>
    intro w
    unfold Sem.run
    split
    · exact ih _ w
    · exact Nat.le_trans (Nat.le_succ _) (ih _ { w with drawn := w.drawn + 1 })
  | sys c k ih => intro w; unfold Sem.run; exact Nat.le_trans (sys_drawn w c) (ih _ _)
  | program k ih => intro w; unfold Sem.run; exact ih _ w
  | mark m k ih => intro w; unfold Sem.run; exact ih w
  | halt h => intro w; exact Nat.le_refl _
end Go.Proofs.YthdbnlpbidkojaaGreatDoor
/- How often the tape was asked never falls: of one step of a goroutine, in its parts (stepG.exec, stepG itself and the machine's step are left). -/
namespace Go.Proofs.YthdbnlpbidkojaaGreatDoor
def gsW : GStep → World
  | .go _ w _ => w
  | .comm _ _ _ _ w _ => w
  | .spawn _ _ w _ => w
  | .count _ w _ => w
  | .timer _ _ w _ => w
  | .alone _ _ w _ => w
  | .newcoro _ _ _ w _ => w
  | .coroswitch _ _ _ w _ => w
  | .collect _ w _ => w
  | .watch _ w _ => w
  | .ended _ w _ => w
theorem after_w (es : Array Event) (s : GStep) : gsW (GStep.after es s) = gsW s := by cases s <;> rfl
theorem run_of {α : Type} {p : Program} {s : Sem α} {w : World} {r : Result α} (h : s.run p w = r) : w.drawn ≤ (resW r).drawn := h ▸ run_drawn p s w
theorem early_d {p : Program} {fr : Frame} {cs : List Frame} {dy : Option Dying} {g : Nat} {w : World} : w.drawn ≤ (gsW (early p fr cs dy g w)).drawn := by
  unfold early
  dsimp only
  repeat' split
  all_goals first
    | exact Nat.le_refl _
    | (have h := run_of (by assumption); exact h)
theorem endThrow_d {fr : Frame} {m : String} {w : World} : w.drawn ≤ (gsW (endThrow fr m w)).drawn := Nat.le_refl _
theorem endFatal_d {p : Program} {fr : Frame} {cs : List Frame} {dy : Option Dying} {m : String} {w : World} : w.drawn ≤ (gsW (endFatal p fr cs dy m w)).drawn := by
  unfold endFatal
  dsimp only
  split <;> rename_i hr <;> exact run_of hr
theorem apply_d (p : Program) (listen : Bool) (fr : Frame) (cs : List Frame) (dy : Option Dying) (s : Sem Next) (w : World) : w.drawn ≤ (gsW (stepG.apply p listen fr cs dy s w)).drawn := by
  have h := run_drawn p s w
  unfold stepG.apply
  simp only [Sem.runT_eq, after_w]
  generalize hr : (s.run p w) = r at h
  cases listen <;> simp only [if_true, Bool.false_eq_true, if_false] <;>
  · cases r with
    | ok a w1 =>
      cases a <;> simp only [resW] at h ⊢ <;> (repeat' split) <;> first | exact h | exact Nat.le_trans h endThrow_d
    | halt a w1 =>
      simp only [resW] at h
      cases a with
      | unsupported u => cases u <;> dsimp only <;> first | exact h | exact Nat.le_trans h early_d
      | _ => dsimp only; first | exact h | exact Nat.le_trans h endThrow_d | exact Nat.le_trans h endFatal_d
theorem endWith_d {w : World} {fd : Nat} {t : ByteArray} {o : Outcome} : w.drawn ≤ (gsW (endWith w fd t o)).drawn := by
  have h := sys_drawn w (.write fd t)
  unfold endWith
  dsimp only
  split <;> rename_i he <;> rw [he] at h <;> (try split) <;> exact h
theorem endPrinting_d {p : Program} {fr : Frame} {v : Value} {w : World} : w.drawn ≤ (gsW (endPrinting p fr v w)).drawn := by
  unfold endPrinting
  dsimp only
  split <;> exact Nat.le_refl _
theorem writeOn_d {p : Program} {fr : Frame} {d : Dying} {f : Fatal} {w : World} : w.drawn ≤ (gsW (writeOn p fr d f w)).drawn := by
  unfold writeOn
  split
  · exact Nat.le_refl _
  · dsimp only
    rw [Sem.runT_eq]
    split <;> rename_i he <;> exact run_of (congrArg Prod.fst he)
theorem doReturn_d {p : Program} {mn : Bool} {fr : Frame} {cs : List Frame} {dy : Option Dying} {v : Value} {w : World} : (gsW (doReturn p mn fr cs dy v w)) = w := by
  unfold doReturn
  repeat' split
  all_goals rfl
theorem die_d {p : Program} {fr : Frame} {d : Dying} {w : World} : w.drawn ≤ (gsW (die p fr d w)).drawn := by
  unfold die
  split
  · exact writeOn_d
  · split
    · split
      · exact Nat.le_refl _
      · exact endWith_d
    · dsimp only
      split
      · exact Nat.le_refl _
      · split <;> rename_i he <;> exact run_of he
      · rename_i t recv name _
        have h := run_drawn p (invoke (.fn (.method name) #[]) #[.iface t recv]) w
        simp only [Sem.runT_eq]
        rw [after_w]
        generalize (invoke (.fn (.method name) #[]) #[.iface t recv]).run p w = r at h
        split <;> first | exact h | exact Nat.le_refl _ | exact Nat.le_trans h endPrinting_d
      all_goals exact Nat.le_refl _
theorem callDeferred_d {p : Program} {fr : Frame} {cs : List Frame} {dy : Option Dying} {d : Deferred} {w : World} : w.drawn ≤ (gsW (callDeferred p fr cs dy d w)).drawn := by
  have h := run_drawn p (invoke d.target d.args) w
  unfold callDeferred
  simp only [Sem.runT_eq]
  generalize (invoke d.target d.args).run p w = r at h
  split
  all_goals (try split)
  all_goals (try split)
  all_goals first
    | exact Nat.le_refl _
    | (rw [after_w]
       cases r with
       | ok a w1 =>
         cases a with
         | coroswitch c e => cases e <;> exact h
         | alone on v => cases on <;> exact h
         | recover => dsimp only; split <;> exact h
         | _ => exact h
       | halt a w1 =>
         cases a with
         | fatal m => exact Nat.le_trans h endFatal_d
         | _ => exact h)
theorem unwind_d {p : Program} {mn : Bool} {fr : Frame} {cs : List Frame} {dy : Option Dying} {w : World} : w.drawn ≤ (gsW (unwind p mn fr cs dy w)).drawn := by
  unfold unwind
  split
  · rw [Sem.runT_eq]
    dsimp only
    rw [after_w]
    split <;> rename_i he <;> exact run_of he
  · exact callDeferred_d
  · split
    · exact Nat.le_refl _
    · split
      · exact Nat.le_refl _
      · split
        · exact Nat.le_refl _
        · split
          · split
            · exact Nat.le_refl _
            · split <;> rename_i he <;> exact run_of he
          · split
            · exact endPrinting_d
            · exact Nat.le_refl _
    · split
      · rw [doReturn_d]; exact Nat.le_refl _
      · rw [Sem.runT_eq]
        dsimp only
        rw [after_w]
        split <;> rename_i he
        · rw [doReturn_d]; exact run_of he
        all_goals exact run_of he
theorem oper_d {p : Program} {ls : Bool} {fr : Frame} {cs : List Frame} {dy : Option Dying} {w : World} : w.drawn ≤ (gsW (stepG.oper p ls fr cs dy w)).drawn := by
  unfold stepG.oper
  split
  · exact Nat.le_refl _
  · split <;> exact apply_d _ _ _ _ _ _ _
end Go.Proofs.YthdbnlpbidkojaaGreatDoor
/- How often the tape was asked never falls: of a goroutine's step, of the machine's, of a call. -/
namespace Go.Proofs.YthdbnlpbidkojaaGreatDoor
set_option maxHeartbeats 1000000 in
theorem exec_d {p : Program} {mn ls : Bool} {fr : Frame} {cs : List Frame} {dy : Option Dying} {w : World} : w.drawn ≤ (gsW (stepG.exec p mn ls fr cs dy w)).drawn := by
  unfold stepG.exec
  dsimp only
  generalize htd : fr.todo = td
  cases td with
  | nil =>
    dsimp only
    split
    · (repeat' split) <;> exact Nat.le_refl _
    · rw [Sem.runT_eq]
      dsimp only
      rw [after_w]
      split <;> rename_i he
      · rw [doReturn_d]; exact run_of he
      · exact run_of he
  | cons it k =>
    cases it with
    | code c =>
      cases c with
      | ret =>
        dsimp only
        split
        · (repeat' split) <;> exact Nat.le_refl _
        · rw [Sem.runT_eq]
          dsimp only
          rw [after_w]
          split <;> rename_i he
          · rw [doReturn_d]; exact run_of he
          · exact run_of he
      | exit id =>
        dsimp only
        cases exitTo id k with
        | none =>
          dsimp only [Option.elim]
          split
          · (repeat' split) <;> exact Nat.le_refl _
          · rw [Sem.runT_eq]
            dsimp only
            rw [after_w]
            split <;> rename_i he
            · rw [doReturn_d]; exact run_of he
            · exact run_of he
        | some t => exact Nat.le_refl _
      | goto l =>
        dsimp only
        cases gotoIn l k with
        | none =>
          dsimp only [Option.elim]
          split
          · (repeat' split) <;> exact Nat.le_refl _
          · rw [Sem.runT_eq]
            dsimp only
            rw [after_w]
            split <;> rename_i he
            · rw [doReturn_d]; exact run_of he
            · exact run_of he
        | some t => exact Nat.le_refl _
      | cond c a b => dsimp only; split <;> exact Nat.le_refl _
      | rangeFunc f ps ag b =>
        dsimp only
        rw [Sem.runT_eq]
        dsimp only
        rw [after_w]
        split <;> rename_i he
        · exact Nat.le_trans (run_of he) (apply_d _ _ _ _ _ _ _)
        · exact run_of he
      | region id ops draw =>
        dsimp only
        split
        · exact Nat.le_refl _
        · split <;> rename_i he <;> exact run_of he
      | _ => exact Nat.le_refl _
    | beginRound => exact apply_d _ _ _ _ _ _ _
    | endRangeFunc l =>
      dsimp only
      rw [Sem.runT_eq]
      dsimp only
      rw [after_w]
      split <;> rename_i he <;> exact run_of he
    | call d a b c => exact apply_d _ _ _ _ _ _ _
    | extern row args =>
      dsimp only
      cases Extern.next row with
      | none => exact Nat.le_refl _
      | some e => exact apply_d _ _ _ _ _ _ _
    | inRegion ops l =>
      cases l with
      | nil => exact Nat.le_refl _
      | cons i l =>
        dsimp only
        split
        · exact oper_d
        · exact Nat.le_refl _
    | _ => exact Nat.le_refl _
theorem stepG_d {p : Program} {mn ls : Bool} {g : Goroutine} {w : World} : w.drawn ≤ (gsW (stepG p mn g w ls)).drawn := by
  unfold stepG
  obtain ⟨fr, cs, st, dy, off⟩ := g
  dsimp only
  split
  · exact die_d
  · exact exec_d
  · exact unwind_d
/-- Of what a step leaves, if it goes on. -/
def nxD (d : Nat) : Stepped → Prop
  | .next m => d ≤ m.world.drawn
  | _ => True
theorem nxD.mono {d e : Nat} {s : Stepped} (h : d ≤ e) (hs : nxD e s) : nxD d s := by
  cases s with
  | next m => exact Nat.le_trans h hs
  | _ => trivial
theorem drain_d (w : World) (c : Nat) : (drain w c).2.drawn = w.drawn := by unfold drain; split <;> rfl
theorem retime_d (m : Machine) (k : Nat) (t : Timer) (a b : Nat) : (retime m k t a b).2.world.drawn = m.world.drawn := by
  unfold retime
  dsimp only
  split
  · exact drain_d _ _
  · rfl
theorem timerOp_d {m m' : Machine} {o : TimerOp} {v : Value} (h : timerOp m o = .ok (v, m')) : m.world.drawn = m'.world.drawn := by
  have hn : ∀ (m0 : Machine) (var : Addr) (f : Nat → Timer → Value × Machine), (∀ k t, (f k t).2.world.drawn = m.world.drawn) → timerOp.named m0 var f = .ok (v, m') → m.world.drawn = m'.world.drawn := fun m0 var f hf hh => by
    unfold timerOp.named at hh
    split at hh
    · have e := Except.ok.inj hh
      rw [← hf _ _, e]
    · cases hh
  unfold timerOp at h
  split at h
  · split at h
    · obtain ⟨-, rfl⟩ := Prod.mk.inj (Except.ok.inj h); rfl
    · split at h
      · split at h
        · cases h
        · obtain ⟨-, rfl⟩ := Prod.mk.inj (Except.ok.inj h); rfl
      · cases h
  · exact hn _ _ _ (fun k t => retime_d _ _ _ _ _) h
  · split at h
    · rename_i m1 ho
      have e1 : m1.world.drawn = m.world.drawn := by
        unfold timerOp.opened at ho
        split at ho
        · split at ho
          · have := Option.some.inj ho; subst this; rfl
          · cases ho
        · have := Option.some.inj ho; subst this; rfl
      exact hn _ _ _ (fun k t => (retime_d _ _ _ _ _).trans e1) h
    · cases h
  · obtain ⟨-, rfl⟩ := Prod.mk.inj (Except.ok.inj h); rfl
theorem serve_d {p : Program} {m : Machine} {k : Nat} : nxD m.world.drawn (serve p m k) := by
  unfold serve
  split
  · trivial
  · exact Nat.le_refl _
  · dsimp only
    split
    · trivial
    · exact Nat.le_refl _
set_option maxHeartbeats 1000000 in
theorem look_d {p : Program} {gs : Array Goroutine} {rest : Rest} {w : World} : nxD w.drawn (look p gs rest w) := by
  unfold look
  split
  · dsimp only
    split
    · trivial
    · split
      · trivial
      · split
        · rename_i he; exact run_of he
        · trivial
        · trivial
  · trivial
theorem waitingAt_d {rest : Rest} {cases : Array CommCase} {w w' : World} (h : waitingAt rest cases w = some w') : w'.drawn = w.drawn := by
  unfold waitingAt at h
  split at h
  · split at h
    · have := Option.some.inj h; subst this; rfl
    · cases h
  · have := Option.some.inj h; subst this; rfl
set_option maxHeartbeats 1000000 in
theorem communicate_d {p : Program} {rest : Rest} {gs : Array Goroutine} {i : Nat} {g : Goroutine} {cases : Array CommCase} {b : Bool} {shape : CommShape} {w : World} : nxD w.drawn (communicate p rest gs i g cases b shape w).1 := by
  unfold communicate
  dsimp only
  split
  · trivial
  split
  · split
    · split
      · rename_i he; exact Nat.le_of_eq (waitingAt_d he).symm
      · trivial
    · exact Nat.le_refl _
  · split
    · trivial
    · rename_i hp
      have h0 := run_of hp
      simp only [resW] at h0
      split
      · split
        · rename_i he
          exact Nat.le_trans h0 (run_of he)
        · trivial
      · exact h0
      · exact h0
      · split
        · exact h0
        · split
          · rename_i he
            exact Nat.le_trans h0 (run_of he)
          · trivial
      · exact h0
      · exact h0
      · trivial
theorem endThrow_w {fr : Frame} {s : String} {w w' : World} {g : Goroutine} {es : Array Event} (h : endThrow fr s w = .go g w' es) : w.drawn ≤ w'.drawn := by
  have := endThrow_d (fr := fr) (m := s) (w := w)
  rw [h] at this
  exact this
set_option maxHeartbeats 1000000 in
theorem runT_d {p : Program} {m : Machine} {i : Nat} {ls : Bool} : nxD m.world.drawn (runT p m i ls).1 := by
  unfold runT
  dsimp only
  generalize hs : stepG p (i == 0) (m.gs.swapAt! i { (default : Goroutine) with status := .finished }).1 m.world ls = s
  have h0 : m.world.drawn ≤ (gsW s).drawn := by rw [← hs]; exact stepG_d
  cases s with
  | ended o w e => trivial
  | comm g c b sh w e => exact nxD.mono h0 communicate_d
  | go g w e => exact h0
  | spawn g c w e => exact h0
  | count g w e =>
    dsimp only
    split
    · trivial
    · exact h0
  | alone g on w e => exact h0
  | collect g w e => exact nxD.mono h0 look_d
  | watch g w e => exact h0
  | newcoro g c d w e => exact h0
  | coroswitch g c ex w e =>
    dsimp only
    split
    · exact h0
    · split
      · rename_i he; exact Nat.le_trans h0 (endThrow_w he)
      · trivial
    · trivial
  | timer g op w e =>
    dsimp only
    split
    · rename_i he; exact Nat.le_trans h0 (Nat.le_of_eq (timerOp_d he))
    · split
      · rename_i he; exact Nat.le_trans h0 (endThrow_w he)
      · trivial
    · trivial
    · trivial
/-- Of what is moved next. -/
def mvD (d : Nat) : Move → Prop
  | .goroutine m _ => d ≤ m.world.drawn
  | .machine s _ => nxD d s
theorem mvD.mono {d e : Nat} {s : Move} (h : d ≤ e) (hs : mvD e s) : mvD d s := by
  cases s with
  | goroutine m i => exact Nat.le_trans h hs
  | machine s o => exact nxD.mono h hs
set_option maxHeartbeats 1000000 in
theorem askOn_d {p : Program} {m : Machine} : mvD m.world.drawn (askOn p m) := by
  unfold askOn
  dsimp only
  have hpick : ∀ (m1 : Machine) (rs : List Nat), mvD m1.world.drawn (match (choose (.sched rs.length)).run p m1.world with
      | .halt _ w => .machine (.ended (.stuck "sched" "") w)
      | .ok k world =>
        if rs.length ≤ 1 then .goroutine { m1 with world } (rs.getD k 0) else
        match (choose (.extern "sched.slice" 65536)).run p world with
        | .halt _ w => .machine (.ended (.stuck "sched.slice" "") w)
        | .ok n world => .goroutine { m1 with world, rest := { m1.rest with slice := if n = 0 then none else some (rs.getD k 0, n) } } (rs.getD k 0)) := fun m1 rs => by
    split
    · trivial
    · rename_i he
      have h1 := run_of he
      split
      · exact h1
      · split
        · trivial
        · rename_i he2
          exact Nat.le_trans h1 (run_of he2)
  split
  · trivial
  · rename_i k world he
    have h1 := run_of he
    simp only [resW] at h1
    split
    · exact nxD.mono h1 serve_d
    · split
      · split
        · exact h1
        · split
          · exact h1
          · split <;> trivial
      · split
        · exact mvD.mono h1 (hpick { m with world } _)
        · split
          · trivial
          · rename_i he2
            exact mvD.mono (Nat.le_trans h1 (run_of he2)) (hpick { m with world := _ } _)
          · rename_i he2
            exact Nat.le_trans h1 (run_of he2)
          · rename_i he2
            exact mvD.mono (Nat.le_trans h1 (run_of he2)) (hpick (({ m with world := _ } : Machine).advanceTo _) _)
theorem ask_d {p : Program} {m : Machine} : mvD m.world.drawn (ask p m) := by
  unfold ask
  split
  · split
    · trivial
    · rename_i wl he
      have h1 := run_of he
      simp only [resW] at h1
      have h2 := look_d (p := p) (gs := m.gs) (rest := m.rest) (w := wl)
      split
      · rename_i hl
        rw [hl] at h2
        exact mvD.mono (Nat.le_trans h1 h2) askOn_d
      · exact nxD.mono h1 h2
    · rename_i he
      exact mvD.mono (run_of he) (askOn_d (m := { m with world := _ }))
  · exact askOn_d
theorem move_d {p : Program} {m : Machine} : mvD m.world.drawn (move p m) := by
  unfold move
  split
  · split
    · exact Nat.le_refl _
    · trivial
  · split
    · split
      · exact Nat.le_refl _
      · exact ask_d (m := { m with rest := _ })
    · exact ask_d
theorem step_d {p : Program} {m : Machine} : nxD m.world.drawn (step p m) := by
  have h := move_d (p := p) (m := m)
  unfold step stepT
  split
  · rename_i he
    rw [he] at h
    exact nxD.mono h runT_d
  · rename_i he
    rw [he] at h
    exact h
theorem runN_d {p : Program} : ∀ (n : Nat) (m m' : Machine), runN p n m = .next m' → m.world.drawn ≤ m'.world.drawn
  | 0, m, m', h => by
    obtain rfl := Stepped.next.inj h
    exact Nat.le_refl _
  | n + 1, m, m', h => by
    have hs := step_d (p := p) (m := m)
    rw [runN] at h
    split at h
    · rename_i m1 he
      rw [he] at hs
      exact Nat.le_trans hs (runN_d n m1 m' h)
    · rename_i he
      exact absurd h (he m')
theorem steps_d {P : Program} {m m' : Machine} (h : Steps P m m') : m.world.drawn ≤ m'.world.drawn := by
  obtain ⟨n, hn⟩ := h
  exact runN_d n m m' hn
/-- A call that returns has asked the tape no less often. -/
theorem calls_drawn {P : Program} {f : FuncId} {args : Array Value} {w : World} {R : Ending → World → Prop} (h : Calls P f args w R) (hr : ∀ e w', R e w' → ∃ v, e = .returned v) : Calls P f args w fun e w' => R e w' ∧ w.drawn ≤ w'.drawn := by
  intro cs
  obtain ⟨e, w', fr, h1, h2, h3⟩ := h cs
  refine ⟨e, w', fr, ⟨h1, ?_⟩, h2, h3⟩
  obtain ⟨v, rfl⟩ := hr e w' h1
  exact steps_d h2
end Go.Proofs.YthdbnlpbidkojaaGreatDoor
/- (Nothing of the fields' sort is on this seat's road.) -/
namespace Go.Proofs.YthdbnlpbidkojaaGreatDoor
end Go.Proofs.YthdbnlpbidkojaaGreatDoor
/- schema.Sort; schema.Merge: their walks. -/
namespace Go.Proofs.YthdbnlpbidkojaaGreatDoor
open Go.RowKit

/-- The variables that are read: utf8's tables, MaxLen. -/
structure W3 (w : World) : Prop where
  t : UT w
  m : ML w
theorem W3.below {w w' : World} (h : W3 w) (hb : Below w.heap.size w w') : W3 w' := ⟨Utf8Tabs_below h.t hb, ML_below h.m hb⟩
/-- A slice that lies behind a block. -/
def NewA (base : Nat) (a : Option Addr) : Prop := ∀ g, a = some g → base ≤ g.block
theorem NewA.le {base base' : Nat} {a : Option Addr} (h : NewA base a) (hb : base' ≤ base) : NewA base' a := fun g e => Nat.le_trans hb (h g e)
theorem NewA.own {w : World} {base : Nat} {ty : TypeId} {sz n m c : Nat} {a : Option Addr} {xs : List Value} (h : w.ownsRow base ty sz (.slice a m c) n xs) : NewA base a := by
  intro g e
  subst e
  rcases h.2 with ⟨h, -⟩ | ⟨b, cap, cur, h, hb, -⟩
  · cases h
  · simp only [Value.slice.injEq, Option.some.injEq] at h
    rw [h.1]
    exact hb
/-- What Sort answers. -/
def SrtP (l : List Fd) (w : World) (e : Ending) (w' : World) : Prop := Below w.heap.size w w' ∧
  ((24 < l.length ∧ e = .returned (.tuple #[.slice none 0 0, .int .i64 2])) ∨
   (l.length ≤ 24 ∧ (∃ x ∈ l, mayF x = false) ∧ e = .returned (.tuple #[.slice none 0 0, .int .i64 1])) ∨
   (l.length ≤ 24 ∧ (∀ x ∈ l, mayF x = true) ∧ ∃ D : List Fd, D.Perm l ∧ D.Pairwise leF ∧
     ((chkF D = true ∧ ∃ a c, e = .returned (.tuple #[.slice a D.length c, .int .i64 0]) ∧ IsRow w' 3 (.slice a D.length c) D.length (fCells D) ∧ NewA w.heap.size a) ∨ (chkF D = false ∧ e = .returned (.tuple #[.slice none 0 0, .int .i64 9])))))
/-- What Merge answers, where nothing is told ahead of sorting. -/
def MgP (a b : List Fd) (w : World) (e : Ending) (w' : World) : Prop := Below w.heap.size w w' ∧
  ((24 < a.length + b.length ∧ e = .returned (.tuple #[.slice none 0 0, .int .i64 2])) ∨
   (a.length + b.length ≤ 24 ∧ ∃ D : List Fd, MrgD a b D ∧ ∃ s c, e = .returned (.tuple #[.slice s D.length c, .int .i64 0]) ∧ IsRow w' 3 (.slice s D.length c) D.length (fCells D) ∧ NewA w.heap.size s))
theorem mg_of {a b : List Fd} {w w1 w' : World} {e : Ending} (h0 : mergeE a b = 0) (hb : Below w.heap.size w w1) (h : SrtP (a ++ b) w1 e w') : MgP a b w e w' := by
  refine ⟨hb.trans (h.1.mono hb.size), ?_⟩
  rcases h.2 with ⟨h1, h2⟩ | ⟨h1, ⟨x, hx, hm⟩, h2⟩ | ⟨h1, h2, D, hp, hs, h3⟩
  · rw [List.length_append] at h1
    exact .inl ⟨h1, h2⟩
  · rw [app_may h0 x hx] at hm
    cases hm
  · rw [List.length_append] at h1
    have hM := mrg_of h0 hp hs
    rcases h3 with ⟨hc, s, c, he, hrow⟩ | ⟨hc, he⟩
    · exact .inr ⟨h1, D, hM, s, c, he, hrow.1, hrow.2.le hb.size⟩
    · rw [mrg_chk h0 hM h1] at hc
      cases hc
end Go.Proofs.YthdbnlpbidkojaaGreatDoor
/- Slices of structs that came in, as rows. -/
namespace Go.Proofs.YthdbnlpbidkojaaGreatDoor
open Go.ChangeShapes Go.WideShapes Go.ChangeAt Go.WideMaps Go.WideElems Go.RowKit Go.Deep

theorem flatG_len {α : Type} (en : α → List Value) (sz : Nat) (hen : ∀ y, (en y).length = sz) (l : List α) : (l.flatMap en).length = l.length * sz := by
  induction l with
  | nil => simp
  | cons d D ih => rw [List.flatMap_cons, List.length_append, List.length_cons, ih, hen, Nat.succ_mul, Nat.add_comm]
theorem flatG_get {α : Type} (en : α → List Value) (sz : Nat) (hen : ∀ y, (en y).length = sz) : ∀ (l : List α) (k : Nat) (h : k < l.length) (i : Nat), i < sz → (l.flatMap en)[k * sz + i]? = (en l[k])[i]?
  | [], k, h, _, _ => absurd h (by simp)
  | d :: D, 0, _, i, hi => by
    rw [List.flatMap_cons, Nat.zero_mul, Nat.zero_add, List.getElem?_append_left (by rw [hen]; exact hi)]
    rfl
  | d :: D, k + 1, h, i, hi => by
    rw [List.flatMap_cons, List.getElem?_append_right (by rw [hen, Nat.succ_mul]; omega), hen, show (k + 1) * sz + i - sz = k * sz + i by rw [Nat.succ_mul]; omega, flatG_get en sz hen D k (by simpa using h) i hi]
    rfl
theorem addS_lit (b off j : Nat) : (⟨b, off, none⟩ : Addr).add j = ⟨b, off + j, none⟩ := by unfold Addr.add; split <;> simp_all
/-- A slice of structs of 'sz' cells each: read as a row. -/
theorem open_rows {α : Type} [Inhabited α] {H : Type} {enc : TypeId × Value → H} {w : World} {fuel : Nat} {v : Value} {x : DataW H × List MemPlace} (en : α → List Value) (sz bytes : Nat) {tS tE : TypeId}
    (hS : Tryz.prog.underlying tS = some (.slice tE)) (hC : Tryz.prog.cellsOf tE = sz) (hB : Tryz.prog.bytesOf tE = bytes) (hen : ∀ y, (en y).length = sz) (hsz : 0 < sz) (hby : 8 ≤ bytes)
    (op : ∀ (fuel : Nat) (cs : List Value) (y : DataW H × List MemPlace), DataW.trod enc Tryz.prog w 0 (fun _ => true) true fuel tE cs = some y → ∃ z : α, cs = en z)
    (h : DataW.trod enc Tryz.prog w 0 (fun _ => true) true fuel tS [v] = some x) (hz : ∀ n ∈ x.1.weights Tryz.prog tS, n ≤ reachBytes) :
    ∃ l : List α, IsRow w sz v l.length (l.flatMap en) ∧ l.length ≤ 140737488355328 := by
  rcases open_slice hS h with ⟨hv, _⟩ | ⟨a, len, cap, m, n, D, Pl, hv, hb, hl, hm, hmm, rfl, hx⟩
  · simp at hv
    subst hv
    exact ⟨[], ⟨by simp, .inl ⟨rfl, _, _, rfl⟩⟩, by simp⟩
  simp at hv
  subst hv
  simp at hmm
  subst hmm
  have key : ∀ i, i < len → ∃ y : α, w.cells? 0 (a.add (i * sz)) sz = some (en y) := by
    intro i hi
    obtain ⟨cs, hc, ht⟩ := hx i (by omega)
    rw [hC] at hc
    obtain ⟨y, rfl⟩ := op _ _ _ ht
    exact ⟨y, hc⟩
  obtain ⟨X, hX⟩ := choose_lt key
  have hlen : len * bytes ≤ reachBytes := by
    have := hz ((len + (m - len)) * bytes) (by simp only [DataW.weights, hS, hB]; simp)
    exact Nat.le_trans (Nat.mul_le_mul_right _ (by omega)) this
  have hlen8 : len * 8 ≤ reachBytes := Nat.le_trans (Nat.mul_le_mul_left _ hby) hlen
  refine ⟨(List.range len).map X, ⟨flatG_len en sz hen _, ?_⟩, ?_⟩
  · simp only [List.length_map, List.length_range]
    by_cases h0 : len = 0
    · subst h0
      exact .inl ⟨rfl, _, _, rfl⟩
    · right
      obtain ⟨b, off, spot⟩ := a
      have hspot : spot = none := by
        have := (World.cells?_some (hX 0 (by omega))).2.2 0 (by omega)
        obtain ⟨u, hu⟩ : ∃ u, (en (X 0))[0]? = some u := ⟨_, List.getElem?_eq_getElem (by rw [hen]; exact hsz)⟩
        rw [hu, Nat.zero_mul] at this
        simpa [Addr.add] using World.cell?_spot this
      subst hspot
      have hcell : ∀ i (hi : i < len) r, r < sz → w.cell? ⟨b, off + (i * sz + r), none⟩ = (en (X i))[r]? := by
        intro i hi r hr
        have := (World.cells?_some (hX i hi)).2.2 r hr
        rw [addS_lit, addS_lit] at this
        rw [← Nat.add_assoc]
        exact this
      refine ⟨b, off, m, rfl, ?_, hl, hm, ?_⟩
      · have := hcell 0 (by omega) 0 hsz
        obtain ⟨u, hu⟩ : ∃ u, (en (X 0))[0]? = some u := ⟨_, List.getElem?_eq_getElem (by rw [hen]; exact hsz)⟩
        rw [hu] at this
        exact block_lt_of_cell this
      · intro j u hu
        have hj : j < len * sz := by
          have := (List.getElem?_eq_some_iff.1 hu).1
          rw [flatG_len en sz hen] at this
          simpa using this
        have hq : j / sz < len := (Nat.div_lt_iff_lt_mul hsz).2 hj
        have hr : j % sz < sz := Nat.mod_lt _ hsz
        have hjj : j = j / sz * sz + j % sz := by rw [Nat.mul_comm]; exact (Nat.div_add_mod j sz).symm
        have hat := flatG_get en sz hen ((List.range len).map X) (j / sz) (by simpa using hq) (j % sz) hr
        simp only [List.getElem_map, List.getElem_range] at hat
        rw [← hjj] at hat
        rw [hat] at hu
        have := hcell (j / sz) hq (j % sz) hr
        rw [← hjj] at this
        rw [this]; exact hu
  · simp; unfold reachBytes at hlen8; omega
end Go.Proofs.YthdbnlpbidkojaaGreatDoor
