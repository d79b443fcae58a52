/- cmp.Or of three ints, value.Compare: walks. -/
import Derived.Test.YtjamkfkbajhefaaGreatDoorZk6
import Derived.Below
import Derived.Calls
import Derived.Control
import Derived.Shelf.SlSortCmp.NoneTotal
import Derived.Ground.SlsfProg
import Derived.Test.YtjamkfkbajhefaaGreatDoorProg
import Derived.Test.YtjamkfkbajhefaaGreatDoorZk5
namespace Go.Proofs.YtjamkfkbajhefaaGreatDoor.V
open Go.RowKit

def orI (a b c : Int) : Int := if a ≠ 0 then a else if b ≠ 0 then b else c
set_option maxRecDepth 100000 in
set_option maxHeartbeats 1000000 in
theorem or3 (a b c : Int) (g : Nat) (w : World) (h0 : w.cell? ⟨g, 0, none⟩ = some (.int .i64 a)) (h1 : w.cell? ⟨g, 1, none⟩ = some (.int .i64 b)) (h2 : w.cell? ⟨g, 2, none⟩ = some (.int .i64 c)) :
    Calls Tryz.prog 115 #[.slice (some ⟨g, 0, none⟩) 3 3] w fun e w' => e = .returned (.int .i64 (orI a b c)) ∧ w' = w := by
  obtain ⟨C, HC⟩ : ∃ C, Hid (orI a b c = C) := ⟨_, rfl⟩
  rw [HC.out]
  go_enter Tryz.func115, Tryz.ntmps115
  go_wp2
  go_loopw [8] (fun i wr => (∃ k : Nat, k ≤ 3 ∧ i = .int .i64 k ∧ (0 < k → a = 0) ∧ (1 < k → b = 0) ∧ (2 < k → c = 0)) ∧ wr = w) (fun i _ => 3 - (RowKit.intOf i).toNat)
  case atStart => exact ⟨⟨0, by decide, rfl, by omega, by omega, by omega⟩, rfl⟩
  case round =>
    obtain ⟨⟨k, hk, rfl, ha, hb, hc⟩, rfl⟩ := hrel
    have hk4 : k = 0 ∨ k = 1 ∨ k = 2 ∨ k = 3 := by omega
    rcases hk4 with rfl | rfl | rfl | rfl
    · by_cases h : a = 0
      · have h' : (a != 0) = false := by simpa using h
        go_wp2
        go_roundw
        case rel => exact ⟨⟨1, by decide, by go_num, fun _ => h, by omega, by omega⟩, by trivial⟩
        case measure => decide
      · have h' : (a != 0) = true := by simpa using h
        have HR : Hid (a = C) := by show _ = _; rw [← HC.out, orI, if_pos h]
        go_wp2
        go_ret
        exact ⟨by rw [← HR.out]; rfl, rfl⟩
    · have ha' := ha (by omega)
      by_cases h : b = 0
      · have h' : (b != 0) = false := by simpa using h
        clear ha
        go_wp2
        go_roundw
        case rel => exact ⟨⟨2, by decide, by go_num, fun _ => ha', fun _ => h, by omega⟩, by trivial⟩
        case measure => decide
      · have h' : (b != 0) = true := by simpa using h
        have HR : Hid (b = C) := by show _ = _; rw [← HC.out, orI, if_neg (by simpa using ha'), if_pos h]
        clear ha
        go_wp2
        go_ret
        exact ⟨by rw [← HR.out]; rfl, rfl⟩
    · have ha' := ha (by omega)
      have hb' := hb (by omega)
      by_cases h : c = 0
      · have h' : (c != 0) = false := by simpa using h
        clear ha hb
        go_wp2
        go_roundw
        case rel => exact ⟨⟨3, by decide, by go_num, fun _ => ha', fun _ => hb', fun _ => h⟩, by trivial⟩
        case measure => decide
      · have h' : (c != 0) = true := by simpa using h
        have HR : Hid (c = C) := by show _ = _; rw [← HC.out, orI, if_neg (by simpa using ha'), if_neg (by simpa using hb')]
        clear ha hb
        go_wp2
        go_ret
        exact ⟨by rw [← HR.out]; rfl, rfl⟩
    · have ha' := ha (by omega)
      have hb' := hb (by omega)
      have hc' := hc (by omega)
      have HR : Hid (0 = C) := by show _ = _; rw [← HC.out, orI, if_neg (by simpa using ha'), if_neg (by simpa using hb'), hc']
      clear ha hb hc ha' hb' hc'
      go_wp2
      go_ret
      exact ⟨by rw [← HR.out]; rfl, rfl⟩

/-- How two values stand. -/
def cmpV (k n : Int) (s : ByteArray) (k' n' : Int) (s' : ByteArray) : Int := orI (Lib.compareInt k k') (Lib.compareInt n n') (Lib.compareBytes s.data.toList s'.data.toList)
set_option maxRecDepth 100000 in
set_option maxHeartbeats 4000000 in
theorem compare_any (k n : Int) (s : ByteArray) (k' n' : Int) (s' : ByteArray) (w : World) :
    Calls Tryz.prog 89 #[vv k n s, vv k' n' s'] w fun e w' => e = .returned (.int .i64 (cmpV k n s k' n' s')) ∧ Below w.heap.size w w' := by
  have hb1 : Below w.heap.size w ((w.alloc (.cells #[.int .i64 k, .int .i64 n, .string s] 52)).alloc (.cells #[.int .i64 k', .int .i64 n', .string s'] 52)) := ((Below.refl _ _).alloc (Nat.le_refl _) _).alloc (by simp) _
  have hsz : ((w.alloc (.cells #[.int .i64 k, .int .i64 n, .string s] 52)).alloc (.cells #[.int .i64 k', .int .i64 n', .string s'] 52)).heap.size = w.heap.size + 1 + 1 := by simp
  have a0 : ((w.alloc (.cells #[.int .i64 k, .int .i64 n, .string s] 52)).alloc (.cells #[.int .i64 k', .int .i64 n', .string s'] 52)).cell? ⟨w.heap.size, 0, none⟩ = some (.int .i64 k) := by simp
  have a1 : ((w.alloc (.cells #[.int .i64 k, .int .i64 n, .string s] 52)).alloc (.cells #[.int .i64 k', .int .i64 n', .string s'] 52)).cell? ⟨w.heap.size, 1, none⟩ = some (.int .i64 n) := by simp
  have a2 : ((w.alloc (.cells #[.int .i64 k, .int .i64 n, .string s] 52)).alloc (.cells #[.int .i64 k', .int .i64 n', .string s'] 52)).cell? ⟨w.heap.size, 2, none⟩ = some (.string s) := by simp
  have b0 : ((w.alloc (.cells #[.int .i64 k, .int .i64 n, .string s] 52)).alloc (.cells #[.int .i64 k', .int .i64 n', .string s'] 52)).cell? ⟨w.heap.size + 1, 0, none⟩ = some (.int .i64 k') := by simp
  have b1 : ((w.alloc (.cells #[.int .i64 k, .int .i64 n, .string s] 52)).alloc (.cells #[.int .i64 k', .int .i64 n', .string s'] 52)).cell? ⟨w.heap.size + 1, 1, none⟩ = some (.int .i64 n') := by simp
  have b2 : ((w.alloc (.cells #[.int .i64 k, .int .i64 n, .string s] 52)).alloc (.cells #[.int .i64 k', .int .i64 n', .string s'] 52)).cell? ⟨w.heap.size + 1, 2, none⟩ = some (.string s') := by simp
  go_enter Tryz.func89, Tryz.ntmps89
  go_wp2
  generalize ((w.alloc (.cells #[.int .i64 k, .int .i64 n, .string s] 52)).alloc (.cells #[.int .i64 k', .int .i64 n', .string s'] 52)) = W at *
  go_region_held3 (fun w' => w'.cell? ⟨w.heap.size, 0, none⟩ = some (.int .i64 k) ∧ w'.cell? ⟨w.heap.size, 1, none⟩ = some (.int .i64 n) ∧ w'.cell? ⟨w.heap.size, 2, none⟩ = some (.string s) ∧ w'.cell? ⟨w.heap.size + 1, 0, none⟩ = some (.int .i64 k') ∧ w'.cell? ⟨w.heap.size + 1, 1, none⟩ = some (.int .i64 n') ∧ w'.cell? ⟨w.heap.size + 1, 2, none⟩ = some (.string s')) (go_keep)
    (first
      | (go_at_call 116; refine (Tryz.cmp_Compare_int _ _ _).mono ?_; rintro e w' ⟨rfl, rfl⟩)
      | (go_at_call 48; refine (Tryz.strings_Compare _ _ _).mono ?_; rintro e w' ⟨rfl, rfl⟩)
      | (go_at_call 115; refine (or3 (Lib.compareInt k k') (Lib.compareInt n n') (Lib.compareBytes s.data.toList s'.data.toList) _ _ ?_ ?_ ?_).mono ?_; (rw [World.cell?_drew, ← hsz]; simp); (rw [World.cell?_drew, ← hsz]; simp); (rw [World.cell?_drew, ← hsz]; simp); rintro e w' ⟨rfl, rfl⟩))
  all_goals go_wp2
  all_goals go_ret
  all_goals exact ⟨rfl, (hb1.alloc (by omega) _).drew⟩

theorem cb_anti : ∀ (a b : List UInt8), Lib.compareBytes a b = - Lib.compareBytes b a
  | [], [] => rfl
  | [], b :: l => by simp [Lib.compareBytes]
  | a :: k, [] => by simp [Lib.compareBytes]
  | a :: k, b :: l => by
    simp only [Lib.compareBytes]
    by_cases h1 : a < b
    · have h2 : ¬ b < a := UInt8.lt_asymm h1
      simp [h1, h2]
    · by_cases h2 : b < a
      · simp [h1, h2]
      · simp [h1, h2, cb_anti k l]
theorem cb_self : ∀ l : List UInt8, Lib.compareBytes l l = 0
  | [] => rfl
  | b :: l => by simp [Lib.compareBytes, cb_self l]
theorem cb_zero : ∀ (a b : List UInt8), Lib.compareBytes a b = 0 → a = b
  | [], [] => fun _ => rfl
  | [], b :: l => by simp [Lib.compareBytes]
  | a :: k, [] => by simp [Lib.compareBytes]
  | a :: k, b :: l => by
    simp only [Lib.compareBytes]
    split
    · intro h; cases h
    split
    · intro h; cases h
    · rename_i h1 h2
      intro h
      have e : a = b := UInt8.le_antisymm (UInt8.not_lt.1 h2) (UInt8.not_lt.1 h1)
      rw [e, cb_zero k l h]
end Go.Proofs.YtjamkfkbajhefaaGreatDoor.V
/- How often the tape was asked never falls: of one operation. -/
namespace Go.Proofs.YtjamkfkbajhefaaGreatDoor
def resW {α : Type} : Result α → World
  | .ok _ w => w
  | .halt _ w => w
theorem viewStore_drawn {p : Program} {w w' : World} {a k : Addr} {u : TypeId} {v : Value} {b : Bool} {l : List Addr} (h : w.viewStore p a u k v b = .ok (w', l)) : w'.drawn = w.drawn := by
  unfold World.viewStore at h
  simp only [bind, Except.bind, pure, Except.pure] at h
  repeat' (split at h)
  all_goals first
    | (cases h; done)
    | (simp only [Except.ok.injEq, Prod.mk.injEq] at h; obtain ⟨rfl, _⟩ := h; rfl)
theorem farStore_drawn {p : Program} {w w' : World} {a : Addr} {v : Value} {b : Bool} {l : List Addr} (h : w.farStore p a v b = .ok (w', l)) : w'.drawn = w.drawn := by
  unfold World.farStore at h
  split at h
  · split at h
    · rename_i r hr
      cases h
      exact viewStore_drawn hr
    · cases h
  · cases h
theorem ask_drawn {α : Type} (m : Ask α) : ∀ w : World, w.drawn ≤ (w.ask m).2.drawn := by
  induction m with
  | done a => intro w; exact Nat.le_refl _
  | ask what range k ih =>
    intro w
    unfold World.ask
    dsimp only
    split
    · exact ih _ w
    · exact Nat.le_trans (Nat.le_succ _) (ih _ { w with drawn := w.drawn + 1 })
theorem sys_drawn (w : World) (c : Sys) : w.drawn ≤ (w.sys c).2.drawn := by
  have h := ask_drawn (Kernel.perform c w.os) w
  unfold World.sys
  split
  · exact Nat.le_refl _
  · rename_i r os w' _ he
    rw [he] at h
    exact h
theorem freeze_drawn (w : World) (a : Addr) (n : Nat) : (w.freeze a n).drawn = w.drawn := by unfold World.freeze; split <;> rfl
theorem run_drawn {α : Type} (p : Program) (s : Sem α) : ∀ w, w.drawn ≤ (resW (s.run p w)).drawn := by
  induction s with
  | pure a => intro w; exact Nat.le_refl _
  | load m a k ih =>
    intro w
    unfold Sem.run
    split
    · exact ih _ w
    · split
      · exact ih _ w
      · exact Nat.le_refl _
  | store m a v k ih =>
    intro w
    cases v <;> unfold Sem.run <;> first
      | exact Nat.le_refl _
      | (split
         · split
           · exact Nat.le_refl _
           · exact ih (w.setCell a _)
         · split
           · rename_i w1 _ he
             have h1 := farStore_drawn he
             exact Nat.le_trans (Nat.le_of_eq h1.symm) (ih w1)
           · exact Nat.le_refl _)
  | new o k ih => intro w; unfold Sem.run; exact ih _ { w with heap := w.heap.push o }
  | shape r k ih => intro w; unfold Sem.run; exact ih _ w
  | freeze a n k ih => intro w; unfold Sem.run; exact Nat.le_trans (Nat.le_of_eq (freeze_drawn w a n).symm) (ih _)
  | frozen a k ih => intro w; unfold Sem.run; exact ih _ w
  | getObj r k ih =>
    intro w
    unfold Sem.run
    split <;> first | exact Nat.le_refl _ | exact ih _ w
  | setObj r o k ih =>
    intro w
    unfold Sem.run
    split <;> first | exact Nat.le_refl _ | exact ih { w with heap := w.heap.setIfInBounds r o }
  | choose q k ih =>
    intro w
    unfold Sem.run
    split
    · exact ih _ w
    · exact Nat.le_trans (Nat.le_succ _) (ih _ { w with drawn := w.drawn + 1 })
  | sys c k ih => intro w; unfold Sem.run; exact Nat.le_trans (sys_drawn w c) (ih _ _)
  | program k ih => intro w; unfold Sem.run; exact ih _ w
  | mark m k ih => intro w; unfold Sem.run; exact ih w
  | halt h => intro w; exact Nat.le_refl _
end Go.Proofs.YtjamkfkbajhefaaGreatDoor
/- How often the tape was asked never falls: of one step of a goroutine, in its parts (stepG.exec, stepG itself and the machine's step are left). -/
namespace Go.Proofs.YtjamkfkbajhefaaGreatDoor
def gsW : GStep → World
  | .go _ w _ => w
  | .comm _ _ _ _ w _ => w
  | .spawn _ _ w _ => w
  | .count _ w _ => w
  | .timer _ _ w _ => w
  | .alone _ _ w _ => w
  | .newcoro _ _ _ w _ => w
  | .coroswitch _ _ _ w _ => w
  | .collect _ w _ => w
  | .watch _ w _ => w
  | .ended _ w _ => w
theorem after_w (es : Array Event) (s : GStep) : gsW (GStep.after es s) = gsW s := by cases s <;> rfl
theorem run_of {α : Type} {p : Program} {s : Sem α} {w : World} {r : Result α} (h : s.run p w = r) : w.drawn ≤ (resW r).drawn := h ▸ run_drawn p s w
theorem early_d {p : Program} {fr : Frame} {cs : List Frame} {dy : Option Dying} {g : Nat} {w : World} : w.drawn ≤ (gsW (early p fr cs dy g w)).drawn := by
  unfold early
  dsimp only
  repeat' split
  all_goals first
    | exact Nat.le_refl _
    | (have h := run_of (by assumption); exact h)
theorem endThrow_d {fr : Frame} {m : String} {w : World} : w.drawn ≤ (gsW (endThrow fr m w)).drawn := Nat.le_refl _
theorem endFatal_d {p : Program} {fr : Frame} {cs : List Frame} {dy : Option Dying} {m : String} {w : World} : w.drawn ≤ (gsW (endFatal p fr cs dy m w)).drawn := by
  unfold endFatal
  dsimp only
  split <;> rename_i hr <;> exact run_of hr
theorem apply_d (p : Program) (listen : Bool) (fr : Frame) (cs : List Frame) (dy : Option Dying) (s : Sem Next) (w : World) : w.drawn ≤ (gsW (stepG.apply p listen fr cs dy s w)).drawn := by
  have h := run_drawn p s w
  unfold stepG.apply
  simp only [Sem.runT_eq, after_w]
  generalize hr : (s.run p w) = r at h
  cases listen <;> simp only [if_true, Bool.false_eq_true, if_false] <;>
  · cases r with
    | ok a w1 =>
      cases a <;> simp only [resW] at h ⊢ <;> (repeat' split) <;> first | exact h | exact Nat.le_trans h endThrow_d
    | halt a w1 =>
      simp only [resW] at h
      cases a with
      | unsupported u => cases u <;> dsimp only <;> first | exact h | exact Nat.le_trans h early_d
      | _ => dsimp only; first | exact h | exact Nat.le_trans h endThrow_d | exact Nat.le_trans h endFatal_d
theorem endWith_d {w : World} {fd : Nat} {t : ByteArray} {o : Outcome} : w.drawn ≤ (gsW (endWith w fd t o)).drawn := by
  have h := sys_drawn w (.write fd t)
  unfold endWith
  dsimp only
  split <;> rename_i he <;> rw [he] at h <;> (try split) <;> exact h
theorem endPrinting_d {p : Program} {fr : Frame} {v : Value} {w : World} : w.drawn ≤ (gsW (endPrinting p fr v w)).drawn := by
  unfold endPrinting
  dsimp only
  split <;> exact Nat.le_refl _
theorem writeOn_d {p : Program} {fr : Frame} {d : Dying} {f : Fatal} {w : World} : w.drawn ≤ (gsW (writeOn p fr d f w)).drawn := by
  unfold writeOn
  split
  · exact Nat.le_refl _
  · dsimp only
    rw [Sem.runT_eq]
    split <;> rename_i he <;> exact run_of (congrArg Prod.fst he)
theorem doReturn_d {p : Program} {mn : Bool} {fr : Frame} {cs : List Frame} {dy : Option Dying} {v : Value} {w : World} : (gsW (doReturn p mn fr cs dy v w)) = w := by
  unfold doReturn
  repeat' split
  all_goals rfl
theorem die_d {p : Program} {fr : Frame} {d : Dying} {w : World} : w.drawn ≤ (gsW (die p fr d w)).drawn := by
  unfold die
  split
  · exact writeOn_d
  · split
    · split
      · exact Nat.le_refl _
      · exact endWith_d
    · dsimp only
      split
      · exact Nat.le_refl _
      · split <;> rename_i he <;> exact run_of he
      · rename_i t recv name _
        have h := run_drawn p (invoke (.fn (.method name) #[]) #[.iface t recv]) w
        simp only [Sem.runT_eq]
        rw [after_w]
        generalize (invoke (.fn (.method name) #[]) #[.iface t recv]).run p w = r at h
        split <;> first | exact h | exact Nat.le_refl _ | exact Nat.le_trans h endPrinting_d
      all_goals exact Nat.le_refl _
theorem callDeferred_d {p : Program} {fr : Frame} {cs : List Frame} {dy : Option Dying} {d : Deferred} {w : World} : w.drawn ≤ (gsW (callDeferred p fr cs dy d w)).drawn := by
  have h := run_drawn p (invoke d.target d.args) w
  unfold callDeferred
  simp only [Sem.runT_eq]
  generalize (invoke d.target d.args).run p w = r at h
  split
  all_goals (try split)
  all_goals (try split)
  all_goals first
    | exact Nat.le_refl _
    | (rw [after_w]
       cases r with
       | ok a w1 =>
         cases a with
         | coroswitch c e => cases e <;> exact h
         | alone on v => cases on <;> exact h
         | recover => dsimp only; split <;> exact h
         | _ => exact h
       | halt a w1 =>
         cases a with
         | fatal m => exact Nat.le_trans h endFatal_d
         | _ => exact h)
theorem unwind_d {p : Program} {mn : Bool} {fr : Frame} {cs : List Frame} {dy : Option Dying} {w : World} : w.drawn ≤ (gsW (unwind p mn fr cs dy w)).drawn := by
  unfold unwind
  split
  · rw [Sem.runT_eq]
    dsimp only
    rw [after_w]
    split <;> rename_i he <;> exact run_of he
  · exact callDeferred_d
  · split
    · exact Nat.le_refl _
    · split
      · exact Nat.le_refl _
      · split
        · exact Nat.le_refl _
        · split
          · split
            · exact Nat.le_refl _
            · split <;> rename_i he <;> exact run_of he
          · split
            · exact endPrinting_d
            · exact Nat.le_refl _
    · split
      · rw [doReturn_d]; exact Nat.le_refl _
      · rw [Sem.runT_eq]
        dsimp only
        rw [after_w]
        split <;> rename_i he
        · rw [doReturn_d]; exact run_of he
        all_goals exact run_of he
theorem oper_d {p : Program} {ls : Bool} {fr : Frame} {cs : List Frame} {dy : Option Dying} {w : World} : w.drawn ≤ (gsW (stepG.oper p ls fr cs dy w)).drawn := by
  unfold stepG.oper
  split
  · exact Nat.le_refl _
  · split <;> exact apply_d _ _ _ _ _ _ _
end Go.Proofs.YtjamkfkbajhefaaGreatDoor
/- How often the tape was asked never falls: of a goroutine's step, of the machine's, of a call. -/
namespace Go.Proofs.YtjamkfkbajhefaaGreatDoor
set_option maxHeartbeats 1000000 in
theorem exec_d {p : Program} {mn ls : Bool} {fr : Frame} {cs : List Frame} {dy : Option Dying} {w : World} : w.drawn ≤ (gsW (stepG.exec p mn ls fr cs dy w)).drawn := by
  unfold stepG.exec
  dsimp only
  generalize htd : fr.todo = td
  cases td with
  | nil =>
    dsimp only
    split
    · (repeat' split) <;> exact Nat.le_refl _
    · rw [Sem.runT_eq]
      dsimp only
      rw [after_w]
      split <;> rename_i he
      · rw [doReturn_d]; exact run_of he
      · exact run_of he
  | cons it k =>
    cases it with
    | code c =>
      cases c with
      | ret =>
        dsimp only
        split
        · (repeat' split) <;> exact Nat.le_refl _
        · rw [Sem.runT_eq]
          dsimp only
          rw [after_w]
          split <;> rename_i he
          · rw [doReturn_d]; exact run_of he
          · exact run_of he
      | exit id =>
        dsimp only
        cases exitTo id k with
        | none =>
          dsimp only [Option.elim]
          split
          · (repeat' split) <;> exact Nat.le_refl _
          · rw [Sem.runT_eq]
            dsimp only
            rw [after_w]
            split <;> rename_i he
            · rw [doReturn_d]; exact run_of he
            · exact run_of he
        | some t => exact Nat.le_refl _
      | goto l =>
        dsimp only
        cases gotoIn l k with
        | none =>
          dsimp only [Option.elim]
          split
          · (repeat' split) <;> exact Nat.le_refl _
          · rw [Sem.runT_eq]
            dsimp only
            rw [after_w]
            split <;> rename_i he
            · rw [doReturn_d]; exact run_of he
            · exact run_of he
        | some t => exact Nat.le_refl _
      | cond c a b => dsimp only; split <;> exact Nat.le_refl _
      | rangeFunc f ps ag b =>
        dsimp only
        rw [Sem.runT_eq]
        dsimp only
        rw [after_w]
        split <;> rename_i he
        · exact Nat.le_trans (run_of he) (apply_d _ _ _ _ _ _ _)
        · exact run_of he
      | region id ops draw =>
        dsimp only
        split
        · exact Nat.le_refl _
        · split <;> rename_i he <;> exact run_of he
      | _ => exact Nat.le_refl _
    | beginRound => exact apply_d _ _ _ _ _ _ _
    | endRangeFunc l =>
      dsimp only
      rw [Sem.runT_eq]
      dsimp only
      rw [after_w]
      split <;> rename_i he <;> exact run_of he
    | call d a b c => exact apply_d _ _ _ _ _ _ _
    | extern row args =>
      dsimp only
      cases Extern.next row with
      | none => exact Nat.le_refl _
      | some e => exact apply_d _ _ _ _ _ _ _
    | inRegion ops l =>
      cases l with
      | nil => exact Nat.le_refl _
      | cons i l =>
        dsimp only
        split
        · exact oper_d
        · exact Nat.le_refl _
    | _ => exact Nat.le_refl _
theorem stepG_d {p : Program} {mn ls : Bool} {g : Goroutine} {w : World} : w.drawn ≤ (gsW (stepG p mn g w ls)).drawn := by
  unfold stepG
  obtain ⟨fr, cs, st, dy, off⟩ := g
  dsimp only
  split
  · exact die_d
  · exact exec_d
  · exact unwind_d
/-- Of what a step leaves, if it goes on. -/
def nxD (d : Nat) : Stepped → Prop
  | .next m => d ≤ m.world.drawn
  | _ => True
theorem nxD.mono {d e : Nat} {s : Stepped} (h : d ≤ e) (hs : nxD e s) : nxD d s := by
  cases s with
  | next m => exact Nat.le_trans h hs
  | _ => trivial
theorem drain_d (w : World) (c : Nat) : (drain w c).2.drawn = w.drawn := by unfold drain; split <;> rfl
theorem retime_d (m : Machine) (k : Nat) (t : Timer) (a b : Nat) : (retime m k t a b).2.world.drawn = m.world.drawn := by
  unfold retime
  dsimp only
  split
  · exact drain_d _ _
  · rfl
theorem timerOp_d {m m' : Machine} {o : TimerOp} {v : Value} (h : timerOp m o = .ok (v, m')) : m.world.drawn = m'.world.drawn := by
  have hn : ∀ (m0 : Machine) (var : Addr) (f : Nat → Timer → Value × Machine), (∀ k t, (f k t).2.world.drawn = m.world.drawn) → timerOp.named m0 var f = .ok (v, m') → m.world.drawn = m'.world.drawn := fun m0 var f hf hh => by
    unfold timerOp.named at hh
    split at hh
    · have e := Except.ok.inj hh
      rw [← hf _ _, e]
    · cases hh
  unfold timerOp at h
  split at h
  · split at h
    · obtain ⟨-, rfl⟩ := Prod.mk.inj (Except.ok.inj h); rfl
    · split at h
      · split at h
        · cases h
        · obtain ⟨-, rfl⟩ := Prod.mk.inj (Except.ok.inj h); rfl
      · cases h
  · exact hn _ _ _ (fun k t => retime_d _ _ _ _ _) h
  · split at h
    · rename_i m1 ho
      have e1 : m1.world.drawn = m.world.drawn := by
        unfold timerOp.opened at ho
        split at ho
        · split at ho
          · have := Option.some.inj ho; subst this; rfl
          · cases ho
        · have := Option.some.inj ho; subst this; rfl
      exact hn _ _ _ (fun k t => (retime_d _ _ _ _ _).trans e1) h
    · cases h
  · obtain ⟨-, rfl⟩ := Prod.mk.inj (Except.ok.inj h); rfl
theorem serve_d {p : Program} {m : Machine} {k : Nat} : nxD m.world.drawn (serve p m k) := by
  unfold serve
  split
  · trivial
  · exact Nat.le_refl _
  · dsimp only
    split
    · trivial
    · exact Nat.le_refl _
set_option maxHeartbeats 1000000 in
theorem look_d {p : Program} {gs : Array Goroutine} {rest : Rest} {w : World} : nxD w.drawn (look p gs rest w) := by
  unfold look
  split
  · dsimp only
    split
    · trivial
    · split
      · trivial
      · split
        · rename_i he; exact run_of he
        · trivial
        · trivial
  · trivial
theorem waitingAt_d {rest : Rest} {cases : Array CommCase} {w w' : World} (h : waitingAt rest cases w = some w') : w'.drawn = w.drawn := by
  unfold waitingAt at h
  split at h
  · split at h
    · have := Option.some.inj h; subst this; rfl
    · cases h
  · have := Option.some.inj h; subst this; rfl
set_option maxHeartbeats 1000000 in
theorem communicate_d {p : Program} {rest : Rest} {gs : Array Goroutine} {i : Nat} {g : Goroutine} {cases : Array CommCase} {b : Bool} {shape : CommShape} {w : World} : nxD w.drawn (communicate p rest gs i g cases b shape w).1 := by
  unfold communicate
  dsimp only
  split
  · trivial
  split
  · split
    · split
      · rename_i he; exact Nat.le_of_eq (waitingAt_d he).symm
      · trivial
    · exact Nat.le_refl _
  · split
    · trivial
    · rename_i hp
      have h0 := run_of hp
      simp only [resW] at h0
      split
      · split
        · rename_i he
          exact Nat.le_trans h0 (run_of he)
        · trivial
      · exact h0
      · exact h0
      · split
        · exact h0
        · split
          · rename_i he
            exact Nat.le_trans h0 (run_of he)
          · trivial
      · exact h0
      · exact h0
      · trivial
theorem endThrow_w {fr : Frame} {s : String} {w w' : World} {g : Goroutine} {es : Array Event} (h : endThrow fr s w = .go g w' es) : w.drawn ≤ w'.drawn := by
  have := endThrow_d (fr := fr) (m := s) (w := w)
  rw [h] at this
  exact this
set_option maxHeartbeats 1000000 in
theorem runT_d {p : Program} {m : Machine} {i : Nat} {ls : Bool} : nxD m.world.drawn (runT p m i ls).1 := by
  unfold runT
  dsimp only
  generalize hs : stepG p (i == 0) (m.gs.swapAt! i { (default : Goroutine) with status := .finished }).1 m.world ls = s
  have h0 : m.world.drawn ≤ (gsW s).drawn := by rw [← hs]; exact stepG_d
  cases s with
  | ended o w e => trivial
  | comm g c b sh w e => exact nxD.mono h0 communicate_d
  | go g w e => exact h0
  | spawn g c w e => exact h0
  | count g w e =>
    dsimp only
    split
    · trivial
    · exact h0
  | alone g on w e => exact h0
  | collect g w e => exact nxD.mono h0 look_d
  | watch g w e => exact h0
  | newcoro g c d w e => exact h0
  | coroswitch g c ex w e =>
    dsimp only
    split
    · exact h0
    · split
      · rename_i he; exact Nat.le_trans h0 (endThrow_w he)
      · trivial
    · trivial
  | timer g op w e =>
    dsimp only
    split
    · rename_i he; exact Nat.le_trans h0 (Nat.le_of_eq (timerOp_d he))
    · split
      · rename_i he; exact Nat.le_trans h0 (endThrow_w he)
      · trivial
    · trivial
    · trivial
/-- Of what is moved next. -/
def mvD (d : Nat) : Move → Prop
  | .goroutine m _ => d ≤ m.world.drawn
  | .machine s _ => nxD d s
theorem mvD.mono {d e : Nat} {s : Move} (h : d ≤ e) (hs : mvD e s) : mvD d s := by
  cases s with
  | goroutine m i => exact Nat.le_trans h hs
  | machine s o => exact nxD.mono h hs
set_option maxHeartbeats 1000000 in
theorem askOn_d {p : Program} {m : Machine} : mvD m.world.drawn (askOn p m) := by
  unfold askOn
  dsimp only
  have hpick : ∀ (m1 : Machine) (rs : List Nat), mvD m1.world.drawn (match (choose (.sched rs.length)).run p m1.world with
      | .halt _ w => .machine (.ended (.stuck "sched" "") w)
      | .ok k world =>
        if rs.length ≤ 1 then .goroutine { m1 with world } (rs.getD k 0) else
        match (choose (.extern "sched.slice" 65536)).run p world with
        | .halt _ w => .machine (.ended (.stuck "sched.slice" "") w)
        | .ok n world => .goroutine { m1 with world, rest := { m1.rest with slice := if n = 0 then none else some (rs.getD k 0, n) } } (rs.getD k 0)) := fun m1 rs => by
    split
    · trivial
    · rename_i he
      have h1 := run_of he
      split
      · exact h1
      · split
        · trivial
        · rename_i he2
          exact Nat.le_trans h1 (run_of he2)
  split
  · trivial
  · rename_i k world he
    have h1 := run_of he
    simp only [resW] at h1
    split
    · exact nxD.mono h1 serve_d
    · split
      · split
        · exact h1
        · split
          · exact h1
          · split <;> trivial
      · split
        · exact mvD.mono h1 (hpick { m with world } _)
        · split
          · trivial
          · rename_i he2
            exact mvD.mono (Nat.le_trans h1 (run_of he2)) (hpick { m with world := _ } _)
          · rename_i he2
            exact Nat.le_trans h1 (run_of he2)
          · rename_i he2
            exact mvD.mono (Nat.le_trans h1 (run_of he2)) (hpick (({ m with world := _ } : Machine).advanceTo _) _)
theorem ask_d {p : Program} {m : Machine} : mvD m.world.drawn (ask p m) := by
  unfold ask
  split
  · split
    · trivial
    · rename_i wl he
      have h1 := run_of he
      simp only [resW] at h1
      have h2 := look_d (p := p) (gs := m.gs) (rest := m.rest) (w := wl)
      split
      · rename_i hl
        rw [hl] at h2
        exact mvD.mono (Nat.le_trans h1 h2) askOn_d
      · exact nxD.mono h1 h2
    · rename_i he
      exact mvD.mono (run_of he) (askOn_d (m := { m with world := _ }))
  · exact askOn_d
theorem move_d {p : Program} {m : Machine} : mvD m.world.drawn (move p m) := by
  unfold move
  split
  · split
    · exact Nat.le_refl _
    · trivial
  · split
    · split
      · exact Nat.le_refl _
      · exact ask_d (m := { m with rest := _ })
    · exact ask_d
theorem step_d {p : Program} {m : Machine} : nxD m.world.drawn (step p m) := by
  have h := move_d (p := p) (m := m)
  unfold step stepT
  split
  · rename_i he
    rw [he] at h
    exact nxD.mono h runT_d
  · rename_i he
    rw [he] at h
    exact h
theorem runN_d {p : Program} : ∀ (n : Nat) (m m' : Machine), runN p n m = .next m' → m.world.drawn ≤ m'.world.drawn
  | 0, m, m', h => by
    obtain rfl := Stepped.next.inj h
    exact Nat.le_refl _
  | n + 1, m, m', h => by
    have hs := step_d (p := p) (m := m)
    rw [runN] at h
    split at h
    · rename_i m1 he
      rw [he] at hs
      exact Nat.le_trans hs (runN_d n m1 m' h)
    · rename_i he
      exact absurd h (he m')
theorem steps_d {P : Program} {m m' : Machine} (h : Steps P m m') : m.world.drawn ≤ m'.world.drawn := by
  obtain ⟨n, hn⟩ := h
  exact runN_d n m m' hn
/-- A call that returns has asked the tape no less often. -/
theorem calls_drawn {P : Program} {f : FuncId} {args : Array Value} {w : World} {R : Ending → World → Prop} (h : Calls P f args w R) (hr : ∀ e w', R e w' → ∃ v, e = .returned v) : Calls P f args w fun e w' => R e w' ∧ w.drawn ≤ w'.drawn := by
  intro cs
  obtain ⟨e, w', fr, h1, h2, h3⟩ := h cs
  refine ⟨e, w', fr, ⟨h1, ?_⟩, h2, h3⟩
  obtain ⟨v, rfl⟩ := hr e w' h1
  exact steps_d h2
end Go.Proofs.YtjamkfkbajhefaaGreatDoor
/- The shelf's contract of slices.SortFunc, at this program, laid by the shelf's tool in plain words. -/
namespace Go.Proofs
open Go.Shelf
end Go.Proofs
/- slices.SortFunc of values by value.Compare: over the shelf's contract. -/
namespace Go.Proofs.YtjamkfkbajhefaaGreatDoor.F
open Go.RowKit

/-- What leaves all there was, and has asked the tape no less often, has but drawn and grown. -/
theorem grow_of {w w' : World} (h : Below w.heap.size w w') (hd : w.drawn ≤ w'.drawn) : ∃ q os, w' = Sort.grow (w.drewN q) os := by
  refine ⟨w'.drawn - w.drawn, w'.heap.extract w.heap.size w'.heap.size, ?_⟩
  have h1 := h.os
  have h2 := h.tape
  have h3 := h.output
  have h4 := h.size
  have h5 := h.block
  obtain ⟨hp, tp, dr, os, ou⟩ := w
  obtain ⟨hp', tp', dr', os', ou'⟩ := w'
  dsimp only at *
  subst h1 h2 h3
  have e1 : hp' = hp ++ hp'.extract hp.size hp'.size := by
    apply Array.ext_getElem?
    intro i
    by_cases hi : i < hp.size
    · rw [Array.getElem?_append_left hi, h5 i hi]
    · rw [Array.getElem?_append_right (by omega), Array.getElem?_extract]
      by_cases h2 : i < hp'.size
      · rw [if_pos (by omega)]
        congr 1
        omega
      · rw [if_neg (by omega), Array.getElem?_eq_none (by omega)]
  have e2 : dr' = dr + (dr' - dr) := by omega
  unfold Sort.grow World.drewN
  dsimp only
  congr
instance : Inhabited It := ⟨⟨0, 0, ⟨#[]⟩⟩⟩
def cfV (x y : It) : Int := V.cmpV x.k x.n x.s y.k y.n y.s
end Go.Proofs.YtjamkfkbajhefaaGreatDoor.F
/- schema.Get: its walk. -/
namespace Go.Proofs.YtjamkfkbajhefaaGreatDoor
open Go.RowKit

/-- A value of an attribute; nothing, where there is none. -/
def vOf : Option At → Value
  | some x => vv x.k x.v x.s
  | none => vv 0 0 ⟨#[]⟩
/-- The first attribute of a name. -/
def getA (l : List At) (s : ByteArray) : Option At := l.find? fun x => sameL x.n.data.toList s.data.toList
theorem getA_at {l : List At} {s : ByteArray} {k : Nat} (h : k < l.length) (hb : ∀ (j : Nat) (hj : j < l.length), j < k → sameL l[j].n.data.toList s.data.toList = false) (hk : sameL l[k].n.data.toList s.data.toList = true) : getA l s = some l[k] := by
  unfold getA
  rw [List.find?_eq_some_iff_getElem]
  exact ⟨hk, k, h, rfl, fun j hj => by rw [hb j (by omega) hj]; rfl⟩
theorem getA_no {l : List At} {s : ByteArray} (hb : ∀ (j : Nat) (hj : j < l.length), sameL l[j].n.data.toList s.data.toList = false) : getA l s = none := by
  unfold getA
  rw [List.find?_eq_none]
  intro x hx
  obtain ⟨j, hj, rfl⟩ := List.getElem_of_mem hx
  rw [hb j hj]
  exact Bool.false_ne_true
theorem z4 {w : World} {b : Nat} {x y z u : Value} {t : TypeId} (h : w.heap[b]? = some (.cells #[x, y, z, u] t)) :
    w.cell? ⟨b, 0, none⟩ = some x ∧ w.cell? ⟨b, 1, none⟩ = some y ∧ w.cell? ⟨b, 2, none⟩ = some z ∧ w.cell? ⟨b, 3, none⟩ = some u :=
  ⟨by rw [Lib.cell_of_heap h]; rfl, by rw [Lib.cell_of_heap h]; rfl, by rw [Lib.cell_of_heap h]; rfl, by rw [Lib.cell_of_heap h]; rfl⟩
set_option maxRecDepth 100000 in
set_option maxHeartbeats 2000000 in
theorem get_any (v : Value) (l : List At) (s : ByteArray) (w : World) (hr : IsRow w 4 v l.length (aCells l)) (hl : l.length ≤ 1000000) (hn : NmA l) (hs : s.size ≤ 1000000) (hT : UT w) :
    Calls Tryz.prog 59 #[v, .string s] w fun e w' => e = .returned (.tuple #[vOf (getA l s), .bool (getA l s).isSome]) ∧ Below w.heap.size w w' := by
  obtain ⟨a0, cap0, rfl⟩ := hr.form
  have HR : Hid (IsRow w 4 (.slice a0 l.length cap0) l.length (aCells l)) := hr
  have HS : Hid (∀ (k : Nat) (h : k < l.length) (w' : World), Below w.heap.size w w' → Calls Tryz.prog 29 #[.string l[k].n, .string s] w' fun e w'' => e = .returned (.bool (sameL l[k].n.data.toList s.data.toList)) ∧ Below w'.heap.size w' w'') := fun k h w' h' => same_any _ _ w' (hn _ (List.getElem_mem h)).1 hs (Utf8Tabs_below hT h')
  clear hr hn hT
  go_enter Tryz.func59, Tryz.ntmps59
  go_wp2_with fail
  go_loopw [5, 10] (fun r i wr => r = .bool false ∧ ∃ k : Nat, k ≤ l.length ∧ i = .int .i64 (k : Int) ∧ Hid (∀ (j : Nat) (h : j < l.length), j < k → sameL l[j].n.data.toList s.data.toList = false) ∧ wr.heap[w.heap.size]? = some (.cells #[.int .i64 0, .int .i64 0, .string ⟨#[]⟩] 52) ∧ Below w.heap.size w wr) (fun _ i _ => l.length - (intOf i).toNat)
  case atStart => exact ⟨rfl, 0, Nat.zero_le _, rfl, fun j h hj => absurd hj (Nat.not_lt_zero _), new_at _ _, al_b _ _⟩
  case round =>
    obtain ⟨rfl, k, hk, rfl, HO, hZ, hB⟩ := hrel
    by_cases hlk : k < l.length
    · have dk : decide ((k : Int) < l.length) = true := by simp; omega
      obtain ⟨b, off, rfl, hlt, hcap, hc⟩ := a_at (HR.out.below hB) (by omega)
      obtain ⟨ck0, ck1, ck2, ck3⟩ := hc k hlk
      have hAl := al_b wr (.cells #[.string l[k].n, .int .i64 l[k].k, .int .i64 l[k].v, .string l[k].s] 54)
      have hzl : w.heap.size < wr.heap.size := (Array.getElem?_eq_some_iff.1 hZ).1
      have hB1 := hB.trans (hAl.mono hB.size)
      have HSk : Hid (Calls Tryz.prog 29 #[.string l[k].n, .string s] (wr.alloc (.cells #[.string l[k].n, .int .i64 l[k].k, .int .i64 l[k].v, .string l[k].s] 54)) fun e w'' => e = .returned (.bool (sameL l[k].n.data.toList s.data.toList)) ∧ Below (wr.alloc (.cells #[.string l[k].n, .int .i64 l[k].k, .int .i64 l[k].v, .string l[k].s] 54)).heap.size (wr.alloc (.cells #[.string l[k].n, .int .i64 l[k].k, .int .i64 l[k].v, .string l[k].s] 54)) w'') := HS.out k hlk _ hB1
      have HN : Hid (∀ w', Below (wr.alloc (.cells #[.string l[k].n, .int .i64 l[k].k, .int .i64 l[k].v, .string l[k].s] 54)).heap.size (wr.alloc (.cells #[.string l[k].n, .int .i64 l[k].k, .int .i64 l[k].v, .string l[k].s] 54)) w' → w'.heap[w.heap.size]? = some (.cells #[.int .i64 0, .int .i64 0, .string ⟨#[]⟩] 52) ∧ w'.heap[wr.heap.size]? = some (.cells #[.string l[k].n, .int .i64 l[k].k, .int .i64 l[k].v, .string l[k].s] 54) ∧ Below w.heap.size w w') := fun w' h =>
        ⟨(h.block _ (Nat.lt_of_lt_of_le hzl hAl.size)).trans ((hAl.block _ hzl).trans hZ), (h.block _ (by simp)).trans (new_at _ _), hB1.trans (h.mono hB1.size)⟩
      cases hsm : sameL l[k].n.data.toList s.data.toList with
      | true =>
        have HY : Hid (getA l s = some l[k]) := getA_at hlk HO.out hsm
        rw [hsm] at HSk
        generalize l[k]'hlk = x at *
        obtain ⟨n, kk, m, tt⟩ := x
        clear hc HO hAl hB1 hsm
        go_wp2_with fail
        refine HSk.out.mono ?_
        rintro e w1 ⟨rfl, hb⟩
        obtain ⟨y0, y1, y2⟩ := HN.out w1 hb
        obtain ⟨c0, c1, c2, f0, f1, f2⟩ := z3 y0
        obtain ⟨d0, d1, d2, d3⟩ := z4 y1
        have HBB : Hid (Below w.heap.size w w1) := y2
        clear hb y0 y1 y2 hB
        go_wp2
        try simp only [Exit.inBlock, Exit.then]
        refine bodyPost_ret (v := .tuple #[.agg #[.int .i64 kk, .int .i64 m, .string tt], .bool true]) ?_ rfl ⟨by rw [HY.out]; rfl, set3_b HBB.out _ _ _⟩
        rw [results_cell_tmp rfl]; go_simp
      | false =>
        have HO2 : Hid (∀ (j : Nat) (h : j < l.length), j < k + 1 → sameL l[j].n.data.toList s.data.toList = false) := fun j h hj => by
          by_cases e : j = k
          · subst e; exact hsm
          · exact HO.out j h (by omega)
        rw [hsm] at HSk
        generalize l[k]'hlk = x at *
        obtain ⟨n, kk, m, tt⟩ := x
        clear hc HO hAl hB1 hsm
        go_wp2_with fail
        refine HSk.out.mono ?_
        rintro e w1 ⟨rfl, hb⟩
        obtain ⟨y0, y1, y2⟩ := HN.out w1 hb
        clear hb y1 hB
        go_wp2
        go_roundw
        case rel => exact ⟨rfl, k + 1, by omega, by simp, HO2, y0, y2⟩
        case measure => simp [intOf]; omega
    · have hk' : k = l.length := by omega
      subst hk'
      have dk : decide ((l.length : Int) < l.length) = false := by simp
      have HY : Hid (getA l s = none) := getA_no (fun j hj => HO.out j hj hj)
      clear HO
      have HBB : Hid (Below w.heap.size w wr) := hB
      obtain ⟨c0, c1, c2, f0, f1, f2⟩ := z3 hZ
      clear hB hZ
      go_wp2
      try simp only [Exit.inBlock, Exit.then]
      refine bodyPost_ret (v := .tuple #[.agg #[.int .i64 0, .int .i64 0, .string ⟨#[]⟩], .bool false]) ?_ rfl ⟨by rw [HY.out]; rfl, set3_b HBB.out _ _ _⟩
      rw [results_cell_tmp rfl]; go_simp
end Go.Proofs.YtjamkfkbajhefaaGreatDoor
