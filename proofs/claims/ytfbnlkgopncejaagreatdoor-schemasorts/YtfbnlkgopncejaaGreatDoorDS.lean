/- How often the tape was asked never falls: of one step of a goroutine, in its parts (stepG.exec, stepG itself and the machine's step are left). -/
import Derived.Test.YtfbnlkgopncejaaGreatDoorDR
namespace Go.Proofs.YtfbnlkgopncejaaGreatDoor
def gsW : GStep → World
  | .go _ w _ => w
  | .comm _ _ _ _ w _ => w
  | .spawn _ _ w _ => w
  | .count _ w _ => w
  | .timer _ _ w _ => w
  | .alone _ _ w _ => w
  | .newcoro _ _ _ w _ => w
  | .coroswitch _ _ _ w _ => w
  | .collect _ w _ => w
  | .watch _ w _ => w
  | .ended _ w _ => w
theorem after_w (es : Array Event) (s : GStep) : gsW (GStep.after es s) = gsW s := by cases s <;> rfl
theorem run_of {α : Type} {p : Program} {s : Sem α} {w : World} {r : Result α} (h : s.run p w = r) : w.drawn ≤ (resW r).drawn := h ▸ run_drawn p s w
theorem early_d {p : Program} {fr : Frame} {cs : List Frame} {dy : Option Dying} {g : Nat} {w : World} : w.drawn ≤ (gsW (early p fr cs dy g w)).drawn := by
  unfold early
  dsimp only
  repeat' split
  all_goals first
    | exact Nat.le_refl _
    | (have h := run_of (by assumption); exact h)
theorem endThrow_d {fr : Frame} {m : String} {w : World} : w.drawn ≤ (gsW (endThrow fr m w)).drawn := Nat.le_refl _
theorem endFatal_d {p : Program} {fr : Frame} {cs : List Frame} {dy : Option Dying} {m : String} {w : World} : w.drawn ≤ (gsW (endFatal p fr cs dy m w)).drawn := by
  unfold endFatal
  dsimp only
  split <;> rename_i hr <;> exact run_of hr
theorem apply_d (p : Program) (listen : Bool) (fr : Frame) (cs : List Frame) (dy : Option Dying) (s : Sem Next) (w : World) : w.drawn ≤ (gsW (stepG.apply p listen fr cs dy s w)).drawn := by
  have h := run_drawn p s w
  unfold stepG.apply
  simp only [Sem.runT_eq, after_w]
  generalize hr : (s.run p w) = r at h
  cases listen <;> simp only [if_true, Bool.false_eq_true, if_false] <;>
  · cases r with
    | ok a w1 =>
      cases a <;> simp only [resW] at h ⊢ <;> (repeat' split) <;> first | exact h | exact Nat.le_trans h endThrow_d
    | halt a w1 =>
      simp only [resW] at h
      cases a with
      | unsupported u => cases u <;> dsimp only <;> first | exact h | exact Nat.le_trans h early_d
      | _ => dsimp only; first | exact h | exact Nat.le_trans h endThrow_d | exact Nat.le_trans h endFatal_d
theorem endWith_d {w : World} {fd : Nat} {t : ByteArray} {o : Outcome} : w.drawn ≤ (gsW (endWith w fd t o)).drawn := by
  have h := sys_drawn w (.write fd t)
  unfold endWith
  dsimp only
  split <;> rename_i he <;> rw [he] at h <;> (try split) <;> exact h
theorem endPrinting_d {p : Program} {fr : Frame} {v : Value} {w : World} : w.drawn ≤ (gsW (endPrinting p fr v w)).drawn := by
  unfold endPrinting
  dsimp only
  split <;> exact Nat.le_refl _
theorem writeOn_d {p : Program} {fr : Frame} {d : Dying} {f : Fatal} {w : World} : w.drawn ≤ (gsW (writeOn p fr d f w)).drawn := by
  unfold writeOn
  split
  · exact Nat.le_refl _
  · dsimp only
    rw [Sem.runT_eq]
    split <;> rename_i he <;> exact run_of (congrArg Prod.fst he)
theorem doReturn_d {p : Program} {mn : Bool} {fr : Frame} {cs : List Frame} {dy : Option Dying} {v : Value} {w : World} : (gsW (doReturn p mn fr cs dy v w)) = w := by
  unfold doReturn
  repeat' split
  all_goals rfl
theorem die_d {p : Program} {fr : Frame} {d : Dying} {w : World} : w.drawn ≤ (gsW (die p fr d w)).drawn := by
  unfold die
  split
  · exact writeOn_d
  · split
    · split
      · exact Nat.le_refl _
      · exact endWith_d
    · dsimp only
      split
      · exact Nat.le_refl _
      · split <;> rename_i he <;> exact run_of he
      · rename_i t recv name _
        have h := run_drawn p (invoke (.fn (.method name) #[]) #[.iface t recv]) w
        simp only [Sem.runT_eq]
        rw [after_w]
        generalize (invoke (.fn (.method name) #[]) #[.iface t recv]).run p w = r at h
        split <;> first | exact h | exact Nat.le_refl _ | exact Nat.le_trans h endPrinting_d
      all_goals exact Nat.le_refl _
theorem callDeferred_d {p : Program} {fr : Frame} {cs : List Frame} {dy : Option Dying} {d : Deferred} {w : World} : w.drawn ≤ (gsW (callDeferred p fr cs dy d w)).drawn := by
  have h := run_drawn p (invoke d.target d.args) w
  unfold callDeferred
  simp only [Sem.runT_eq]
  generalize (invoke d.target d.args).run p w = r at h
  split
  all_goals (try split)
  all_goals (try split)
  all_goals first
    | exact Nat.le_refl _
    | (rw [after_w]
       cases r with
       | ok a w1 =>
         cases a with
         | coroswitch c e => cases e <;> exact h
         | alone on v => cases on <;> exact h
         | recover => dsimp only; split <;> exact h
         | _ => exact h
       | halt a w1 =>
         cases a with
         | fatal m => exact Nat.le_trans h endFatal_d
         | _ => exact h)
theorem unwind_d {p : Program} {mn : Bool} {fr : Frame} {cs : List Frame} {dy : Option Dying} {w : World} : w.drawn ≤ (gsW (unwind p mn fr cs dy w)).drawn := by
  unfold unwind
  split
  · rw [Sem.runT_eq]
    dsimp only
    rw [after_w]
    split <;> rename_i he <;> exact run_of he
  · exact callDeferred_d
  · split
    · exact Nat.le_refl _
    · split
      · exact Nat.le_refl _
      · split
        · exact Nat.le_refl _
        · split
          · split
            · exact Nat.le_refl _
            · split <;> rename_i he <;> exact run_of he
          · split
            · exact endPrinting_d
            · exact Nat.le_refl _
    · split
      · rw [doReturn_d]; exact Nat.le_refl _
      · rw [Sem.runT_eq]
        dsimp only
        rw [after_w]
        split <;> rename_i he
        · rw [doReturn_d]; exact run_of he
        all_goals exact run_of he
theorem oper_d {p : Program} {ls : Bool} {fr : Frame} {cs : List Frame} {dy : Option Dying} {w : World} : w.drawn ≤ (gsW (stepG.oper p ls fr cs dy w)).drawn := by
  unfold stepG.oper
  split
  · exact Nat.le_refl _
  · split <;> exact apply_d _ _ _ _ _ _ _
end Go.Proofs.YtfbnlkgopncejaaGreatDoor
