/- How often the tape was asked never falls: of one step of a goroutine, in its parts (stepG.exec, stepG itself and the machine's step are left). -/
import Derived.Test.YtacpllmlpmllbaaGreatDoorZk10
import Derived.Control
import Derived.Shelf.SlSortCmp.NoneTotal
import Derived.Ground.SlsfProg
import Derived.Test.YtacpllmlpmllbaaGreatDoorProg
import Derived.Test.YtacpllmlpmllbaaGreatDoorZk9
namespace Go.Proofs.YtacpllmlpmllbaaGreatDoor
def gsW : GStep → World
  | .go _ w _ => w
  | .comm _ _ _ _ w _ => w
  | .spawn _ _ w _ => w
  | .count _ w _ => w
  | .timer _ _ w _ => w
  | .alone _ _ w _ => w
  | .newcoro _ _ _ w _ => w
  | .coroswitch _ _ _ w _ => w
  | .collect _ w _ => w
  | .watch _ w _ => w
  | .ended _ w _ => w
theorem after_w (es : Array Event) (s : GStep) : gsW (GStep.after es s) = gsW s := by cases s <;> rfl
theorem run_of {α : Type} {p : Program} {s : Sem α} {w : World} {r : Result α} (h : s.run p w = r) : w.drawn ≤ (resW r).drawn := h ▸ run_drawn p s w
theorem early_d {p : Program} {fr : Frame} {cs : List Frame} {dy : Option Dying} {g : Nat} {w : World} : w.drawn ≤ (gsW (early p fr cs dy g w)).drawn := by
  unfold early
  dsimp only
  repeat' split
  all_goals first
    | exact Nat.le_refl _
    | (have h := run_of (by assumption); exact h)
theorem endThrow_d {fr : Frame} {m : String} {w : World} : w.drawn ≤ (gsW (endThrow fr m w)).drawn := Nat.le_refl _
theorem endFatal_d {p : Program} {fr : Frame} {cs : List Frame} {dy : Option Dying} {m : String} {w : World} : w.drawn ≤ (gsW (endFatal p fr cs dy m w)).drawn := by
  unfold endFatal
  dsimp only
  split <;> rename_i hr <;> exact run_of hr
theorem apply_d (p : Program) (listen : Bool) (fr : Frame) (cs : List Frame) (dy : Option Dying) (s : Sem Next) (w : World) : w.drawn ≤ (gsW (stepG.apply p listen fr cs dy s w)).drawn := by
  have h := run_drawn p s w
  unfold stepG.apply
  simp only [Sem.runT_eq, after_w]
  generalize hr : (s.run p w) = r at h
  cases listen <;> simp only [if_true, Bool.false_eq_true, if_false] <;>
  · cases r with
    | ok a w1 =>
      cases a <;> simp only [resW] at h ⊢ <;> (repeat' split) <;> first | exact h | exact Nat.le_trans h endThrow_d
    | halt a w1 =>
      simp only [resW] at h
      cases a with
      | unsupported u => cases u <;> dsimp only <;> first | exact h | exact Nat.le_trans h early_d
      | _ => dsimp only; first | exact h | exact Nat.le_trans h endThrow_d | exact Nat.le_trans h endFatal_d
theorem endWith_d {w : World} {fd : Nat} {t : ByteArray} {o : Outcome} : w.drawn ≤ (gsW (endWith w fd t o)).drawn := by
  have h := sys_drawn w (.write fd t)
  unfold endWith
  dsimp only
  split <;> rename_i he <;> rw [he] at h <;> (try split) <;> exact h
theorem endPrinting_d {p : Program} {fr : Frame} {v : Value} {w : World} : w.drawn ≤ (gsW (endPrinting p fr v w)).drawn := by
  unfold endPrinting
  dsimp only
  split <;> exact Nat.le_refl _
theorem writeOn_d {p : Program} {fr : Frame} {d : Dying} {f : Fatal} {w : World} : w.drawn ≤ (gsW (writeOn p fr d f w)).drawn := by
  unfold writeOn
  split
  · exact Nat.le_refl _
  · dsimp only
    rw [Sem.runT_eq]
    split <;> rename_i he <;> exact run_of (congrArg Prod.fst he)
theorem doReturn_d {p : Program} {mn : Bool} {fr : Frame} {cs : List Frame} {dy : Option Dying} {v : Value} {w : World} : (gsW (doReturn p mn fr cs dy v w)) = w := by
  unfold doReturn
  repeat' split
  all_goals rfl
theorem die_d {p : Program} {fr : Frame} {d : Dying} {w : World} : w.drawn ≤ (gsW (die p fr d w)).drawn := by
  unfold die
  split
  · exact writeOn_d
  · split
    · split
      · exact Nat.le_refl _
      · exact endWith_d
    · dsimp only
      split
      · exact Nat.le_refl _
      · split <;> rename_i he <;> exact run_of he
      · rename_i t recv name _
        have h := run_drawn p (invoke (.fn (.method name) #[]) #[.iface t recv]) w
        simp only [Sem.runT_eq]
        rw [after_w]
        generalize (invoke (.fn (.method name) #[]) #[.iface t recv]).run p w = r at h
        split <;> first | exact h | exact Nat.le_refl _ | exact Nat.le_trans h endPrinting_d
      all_goals exact Nat.le_refl _
theorem callDeferred_d {p : Program} {fr : Frame} {cs : List Frame} {dy : Option Dying} {d : Deferred} {w : World} : w.drawn ≤ (gsW (callDeferred p fr cs dy d w)).drawn := by
  have h := run_drawn p (invoke d.target d.args) w
  unfold callDeferred
  simp only [Sem.runT_eq]
  generalize (invoke d.target d.args).run p w = r at h
  split
  all_goals (try split)
  all_goals (try split)
  all_goals first
    | exact Nat.le_refl _
    | (rw [after_w]
       cases r with
       | ok a w1 =>
         cases a with
         | coroswitch c e => cases e <;> exact h
         | alone on v => cases on <;> exact h
         | recover => dsimp only; split <;> exact h
         | _ => exact h
       | halt a w1 =>
         cases a with
         | fatal m => exact Nat.le_trans h endFatal_d
         | _ => exact h)
theorem unwind_d {p : Program} {mn : Bool} {fr : Frame} {cs : List Frame} {dy : Option Dying} {w : World} : w.drawn ≤ (gsW (unwind p mn fr cs dy w)).drawn := by
  unfold unwind
  split
  · rw [Sem.runT_eq]
    dsimp only
    rw [after_w]
    split <;> rename_i he <;> exact run_of he
  · exact callDeferred_d
  · split
    · exact Nat.le_refl _
    · split
      · exact Nat.le_refl _
      · split
        · exact Nat.le_refl _
        · split
          · split
            · exact Nat.le_refl _
            · split <;> rename_i he <;> exact run_of he
          · split
            · exact endPrinting_d
            · exact Nat.le_refl _
    · split
      · rw [doReturn_d]; exact Nat.le_refl _
      · rw [Sem.runT_eq]
        dsimp only
        rw [after_w]
        split <;> rename_i he
        · rw [doReturn_d]; exact run_of he
        all_goals exact run_of he
theorem oper_d {p : Program} {ls : Bool} {fr : Frame} {cs : List Frame} {dy : Option Dying} {w : World} : w.drawn ≤ (gsW (stepG.oper p ls fr cs dy w)).drawn := by
  unfold stepG.oper
  split
  · exact Nat.le_refl _
  · split <;> exact apply_d _ _ _ _ _ _ _
end Go.Proofs.YtacpllmlpmllbaaGreatDoor
/- How often the tape was asked never falls: of a goroutine's step, of the machine's, of a call. -/
namespace Go.Proofs.YtacpllmlpmllbaaGreatDoor
set_option maxHeartbeats 1000000 in
theorem exec_d {p : Program} {mn ls : Bool} {fr : Frame} {cs : List Frame} {dy : Option Dying} {w : World} : w.drawn ≤ (gsW (stepG.exec p mn ls fr cs dy w)).drawn := by
  unfold stepG.exec
  dsimp only
  generalize htd : fr.todo = td
  cases td with
  | nil =>
    dsimp only
    split
    · (repeat' split) <;> exact Nat.le_refl _
    · rw [Sem.runT_eq]
      dsimp only
      rw [after_w]
      split <;> rename_i he
      · rw [doReturn_d]; exact run_of he
      · exact run_of he
  | cons it k =>
    cases it with
    | code c =>
      cases c with
      | ret =>
        dsimp only
        split
        · (repeat' split) <;> exact Nat.le_refl _
        · rw [Sem.runT_eq]
          dsimp only
          rw [after_w]
          split <;> rename_i he
          · rw [doReturn_d]; exact run_of he
          · exact run_of he
      | exit id =>
        dsimp only
        cases exitTo id k with
        | none =>
          dsimp only [Option.elim]
          split
          · (repeat' split) <;> exact Nat.le_refl _
          · rw [Sem.runT_eq]
            dsimp only
            rw [after_w]
            split <;> rename_i he
            · rw [doReturn_d]; exact run_of he
            · exact run_of he
        | some t => exact Nat.le_refl _
      | goto l =>
        dsimp only
        cases gotoIn l k with
        | none =>
          dsimp only [Option.elim]
          split
          · (repeat' split) <;> exact Nat.le_refl _
          · rw [Sem.runT_eq]
            dsimp only
            rw [after_w]
            split <;> rename_i he
            · rw [doReturn_d]; exact run_of he
            · exact run_of he
        | some t => exact Nat.le_refl _
      | cond c a b => dsimp only; split <;> exact Nat.le_refl _
      | rangeFunc f ps ag b =>
        dsimp only
        rw [Sem.runT_eq]
        dsimp only
        rw [after_w]
        split <;> rename_i he
        · exact Nat.le_trans (run_of he) (apply_d _ _ _ _ _ _ _)
        · exact run_of he
      | region id ops draw =>
        dsimp only
        split
        · exact Nat.le_refl _
        · split <;> rename_i he <;> exact run_of he
      | _ => exact Nat.le_refl _
    | beginRound => exact apply_d _ _ _ _ _ _ _
    | endRangeFunc l =>
      dsimp only
      rw [Sem.runT_eq]
      dsimp only
      rw [after_w]
      split <;> rename_i he <;> exact run_of he
    | call d a b c => exact apply_d _ _ _ _ _ _ _
    | extern row args =>
      dsimp only
      cases Extern.next row with
      | none => exact Nat.le_refl _
      | some e => exact apply_d _ _ _ _ _ _ _
    | inRegion ops l =>
      cases l with
      | nil => exact Nat.le_refl _
      | cons i l =>
        dsimp only
        split
        · exact oper_d
        · exact Nat.le_refl _
    | _ => exact Nat.le_refl _
theorem stepG_d {p : Program} {mn ls : Bool} {g : Goroutine} {w : World} : w.drawn ≤ (gsW (stepG p mn g w ls)).drawn := by
  unfold stepG
  obtain ⟨fr, cs, st, dy, off⟩ := g
  dsimp only
  split
  · exact die_d
  · exact exec_d
  · exact unwind_d
/-- Of what a step leaves, if it goes on. -/
def nxD (d : Nat) : Stepped → Prop
  | .next m => d ≤ m.world.drawn
  | _ => True
theorem nxD.mono {d e : Nat} {s : Stepped} (h : d ≤ e) (hs : nxD e s) : nxD d s := by
  cases s with
  | next m => exact Nat.le_trans h hs
  | _ => trivial
theorem drain_d (w : World) (c : Nat) : (drain w c).2.drawn = w.drawn := by unfold drain; split <;> rfl
theorem retime_d (m : Machine) (k : Nat) (t : Timer) (a b : Nat) : (retime m k t a b).2.world.drawn = m.world.drawn := by
  unfold retime
  dsimp only
  split
  · exact drain_d _ _
  · rfl
theorem timerOp_d {m m' : Machine} {o : TimerOp} {v : Value} (h : timerOp m o = .ok (v, m')) : m.world.drawn = m'.world.drawn := by
  have hn : ∀ (m0 : Machine) (var : Addr) (f : Nat → Timer → Value × Machine), (∀ k t, (f k t).2.world.drawn = m.world.drawn) → timerOp.named m0 var f = .ok (v, m') → m.world.drawn = m'.world.drawn := fun m0 var f hf hh => by
    unfold timerOp.named at hh
    split at hh
    · have e := Except.ok.inj hh
      rw [← hf _ _, e]
    · cases hh
  unfold timerOp at h
  split at h
  · split at h
    · obtain ⟨-, rfl⟩ := Prod.mk.inj (Except.ok.inj h); rfl
    · split at h
      · split at h
        · cases h
        · obtain ⟨-, rfl⟩ := Prod.mk.inj (Except.ok.inj h); rfl
      · cases h
  · exact hn _ _ _ (fun k t => retime_d _ _ _ _ _) h
  · split at h
    · rename_i m1 ho
      have e1 : m1.world.drawn = m.world.drawn := by
        unfold timerOp.opened at ho
        split at ho
        · split at ho
          · have := Option.some.inj ho; subst this; rfl
          · cases ho
        · have := Option.some.inj ho; subst this; rfl
      exact hn _ _ _ (fun k t => (retime_d _ _ _ _ _).trans e1) h
    · cases h
  · obtain ⟨-, rfl⟩ := Prod.mk.inj (Except.ok.inj h); rfl
theorem serve_d {p : Program} {m : Machine} {k : Nat} : nxD m.world.drawn (serve p m k) := by
  unfold serve
  split
  · trivial
  · exact Nat.le_refl _
  · dsimp only
    split
    · trivial
    · exact Nat.le_refl _
set_option maxHeartbeats 1000000 in
theorem look_d {p : Program} {gs : Array Goroutine} {rest : Rest} {w : World} : nxD w.drawn (look p gs rest w) := by
  unfold look
  split
  · dsimp only
    split
    · trivial
    · split
      · trivial
      · split
        · rename_i he; exact run_of he
        · trivial
        · trivial
  · trivial
theorem waitingAt_d {rest : Rest} {cases : Array CommCase} {w w' : World} (h : waitingAt rest cases w = some w') : w'.drawn = w.drawn := by
  unfold waitingAt at h
  split at h
  · split at h
    · have := Option.some.inj h; subst this; rfl
    · cases h
  · have := Option.some.inj h; subst this; rfl
set_option maxHeartbeats 1000000 in
theorem communicate_d {p : Program} {rest : Rest} {gs : Array Goroutine} {i : Nat} {g : Goroutine} {cases : Array CommCase} {b : Bool} {shape : CommShape} {w : World} : nxD w.drawn (communicate p rest gs i g cases b shape w).1 := by
  unfold communicate
  dsimp only
  split
  · trivial
  split
  · split
    · split
      · rename_i he; exact Nat.le_of_eq (waitingAt_d he).symm
      · trivial
    · exact Nat.le_refl _
  · split
    · trivial
    · rename_i hp
      have h0 := run_of hp
      simp only [resW] at h0
      split
      · split
        · rename_i he
          exact Nat.le_trans h0 (run_of he)
        · trivial
      · exact h0
      · exact h0
      · split
        · exact h0
        · split
          · rename_i he
            exact Nat.le_trans h0 (run_of he)
          · trivial
      · exact h0
      · exact h0
      · trivial
theorem endThrow_w {fr : Frame} {s : String} {w w' : World} {g : Goroutine} {es : Array Event} (h : endThrow fr s w = .go g w' es) : w.drawn ≤ w'.drawn := by
  have := endThrow_d (fr := fr) (m := s) (w := w)
  rw [h] at this
  exact this
set_option maxHeartbeats 1000000 in
theorem runT_d {p : Program} {m : Machine} {i : Nat} {ls : Bool} : nxD m.world.drawn (runT p m i ls).1 := by
  unfold runT
  dsimp only
  generalize hs : stepG p (i == 0) (m.gs.swapAt! i { (default : Goroutine) with status := .finished }).1 m.world ls = s
  have h0 : m.world.drawn ≤ (gsW s).drawn := by rw [← hs]; exact stepG_d
  cases s with
  | ended o w e => trivial
  | comm g c b sh w e => exact nxD.mono h0 communicate_d
  | go g w e => exact h0
  | spawn g c w e => exact h0
  | count g w e =>
    dsimp only
    split
    · trivial
    · exact h0
  | alone g on w e => exact h0
  | collect g w e => exact nxD.mono h0 look_d
  | watch g w e => exact h0
  | newcoro g c d w e => exact h0
  | coroswitch g c ex w e =>
    dsimp only
    split
    · exact h0
    · split
      · rename_i he; exact Nat.le_trans h0 (endThrow_w he)
      · trivial
    · trivial
  | timer g op w e =>
    dsimp only
    split
    · rename_i he; exact Nat.le_trans h0 (Nat.le_of_eq (timerOp_d he))
    · split
      · rename_i he; exact Nat.le_trans h0 (endThrow_w he)
      · trivial
    · trivial
    · trivial
/-- Of what is moved next. -/
def mvD (d : Nat) : Move → Prop
  | .goroutine m _ => d ≤ m.world.drawn
  | .machine s _ => nxD d s
theorem mvD.mono {d e : Nat} {s : Move} (h : d ≤ e) (hs : mvD e s) : mvD d s := by
  cases s with
  | goroutine m i => exact Nat.le_trans h hs
  | machine s o => exact nxD.mono h hs
set_option maxHeartbeats 1000000 in
theorem askOn_d {p : Program} {m : Machine} : mvD m.world.drawn (askOn p m) := by
  unfold askOn
  dsimp only
  have hpick : ∀ (m1 : Machine) (rs : List Nat), mvD m1.world.drawn (match (choose (.sched rs.length)).run p m1.world with
      | .halt _ w => .machine (.ended (.stuck "sched" "") w)
      | .ok k world =>
        if rs.length ≤ 1 then .goroutine { m1 with world } (rs.getD k 0) else
        match (choose (.extern "sched.slice" 65536)).run p world with
        | .halt _ w => .machine (.ended (.stuck "sched.slice" "") w)
        | .ok n world => .goroutine { m1 with world, rest := { m1.rest with slice := if n = 0 then none else some (rs.getD k 0, n) } } (rs.getD k 0)) := fun m1 rs => by
    split
    · trivial
    · rename_i he
      have h1 := run_of he
      split
      · exact h1
      · split
        · trivial
        · rename_i he2
          exact Nat.le_trans h1 (run_of he2)
  split
  · trivial
  · rename_i k world he
    have h1 := run_of he
    simp only [resW] at h1
    split
    · exact nxD.mono h1 serve_d
    · split
      · split
        · exact h1
        · split
          · exact h1
          · split <;> trivial
      · split
        · exact mvD.mono h1 (hpick { m with world } _)
        · split
          · trivial
          · rename_i he2
            exact mvD.mono (Nat.le_trans h1 (run_of he2)) (hpick { m with world := _ } _)
          · rename_i he2
            exact Nat.le_trans h1 (run_of he2)
          · rename_i he2
            exact mvD.mono (Nat.le_trans h1 (run_of he2)) (hpick (({ m with world := _ } : Machine).advanceTo _) _)
theorem ask_d {p : Program} {m : Machine} : mvD m.world.drawn (ask p m) := by
  unfold ask
  split
  · split
    · trivial
    · rename_i wl he
      have h1 := run_of he
      simp only [resW] at h1
      have h2 := look_d (p := p) (gs := m.gs) (rest := m.rest) (w := wl)
      split
      · rename_i hl
        rw [hl] at h2
        exact mvD.mono (Nat.le_trans h1 h2) askOn_d
      · exact nxD.mono h1 h2
    · rename_i he
      exact mvD.mono (run_of he) (askOn_d (m := { m with world := _ }))
  · exact askOn_d
theorem move_d {p : Program} {m : Machine} : mvD m.world.drawn (move p m) := by
  unfold move
  split
  · split
    · exact Nat.le_refl _
    · trivial
  · split
    · split
      · exact Nat.le_refl _
      · exact ask_d (m := { m with rest := _ })
    · exact ask_d
theorem step_d {p : Program} {m : Machine} : nxD m.world.drawn (step p m) := by
  have h := move_d (p := p) (m := m)
  unfold step stepT
  split
  · rename_i he
    rw [he] at h
    exact nxD.mono h runT_d
  · rename_i he
    rw [he] at h
    exact h
theorem runN_d {p : Program} : ∀ (n : Nat) (m m' : Machine), runN p n m = .next m' → m.world.drawn ≤ m'.world.drawn
  | 0, m, m', h => by
    obtain rfl := Stepped.next.inj h
    exact Nat.le_refl _
  | n + 1, m, m', h => by
    have hs := step_d (p := p) (m := m)
    rw [runN] at h
    split at h
    · rename_i m1 he
      rw [he] at hs
      exact Nat.le_trans hs (runN_d n m1 m' h)
    · rename_i he
      exact absurd h (he m')
theorem steps_d {P : Program} {m m' : Machine} (h : Steps P m m') : m.world.drawn ≤ m'.world.drawn := by
  obtain ⟨n, hn⟩ := h
  exact runN_d n m m' hn
/-- A call that returns has asked the tape no less often. -/
theorem calls_drawn {P : Program} {f : FuncId} {args : Array Value} {w : World} {R : Ending → World → Prop} (h : Calls P f args w R) (hr : ∀ e w', R e w' → ∃ v, e = .returned v) : Calls P f args w fun e w' => R e w' ∧ w.drawn ≤ w'.drawn := by
  intro cs
  obtain ⟨e, w', fr, h1, h2, h3⟩ := h cs
  refine ⟨e, w', fr, ⟨h1, ?_⟩, h2, h3⟩
  obtain ⟨v, rfl⟩ := hr e w' h1
  exact steps_d h2
end Go.Proofs.YtacpllmlpmllbaaGreatDoor
/- The shelf's contract of slices.SortFunc, at this program, laid by the shelf's tool in plain words. -/
namespace Go.Proofs
open Go.Shelf
def Tryz.sortFd_ren : Go.Shelf.Ren := ⟨fun | 6 => 227 | 15 => 110 | 14 => 246 | 28 => 163 | 29 => 164 | 20 => 254 | 21 => 255 | 22 => 256 | 23 => 257 | 24 => 258 | 25 => 259 | 26 => 260 | 27 => 261 | 46 => 267 | 47 => 203 | 48 => 204 | 49 => 268 | 50 => 269 | 57 => 273 | n => n, fun | 22 => 41 | 24 => 110 | 25 => 214 | 3 => 3 | 39 => 153 | 0 => 0 | 53 => 193 | 55 => 152 | 4 => 4 | 46 => 187 | 45 => 186 | 50 => 166 | 5 => 5 | 9 => 9 | 66 => 225 | 70 => 229 | 76 => 251 | 77 => 252 | n => n, fun | n => n⟩
theorem Tryz.sortFd : Go.Proofs.SlLaysF0.n6 Tryz.prog Tryz.sortFd_ren := {
  mixed := by kernel_rfl
  f6 := ⟨Tryz.f227.name, by decide, Tryz.func227.trans (congrArg some (by kernel_rfl))⟩
  f14 := ⟨Tryz.f246.name, by decide, Tryz.func246.trans (congrArg some (by kernel_rfl))⟩
  f15 := Tryz.func110.trans (congrArg some (by kernel_rfl))
  f20 := ⟨Tryz.f254.name, by decide, Tryz.func254.trans (congrArg some (by kernel_rfl))⟩
  f21 := ⟨Tryz.f255.name, by decide, Tryz.func255.trans (congrArg some (by kernel_rfl))⟩
  f22 := ⟨Tryz.f256.name, by decide, Tryz.func256.trans (congrArg some (by kernel_rfl))⟩
  f23 := ⟨Tryz.f257.name, by decide, Tryz.func257.trans (congrArg some (by kernel_rfl))⟩
  f24 := ⟨Tryz.f258.name, by decide, Tryz.func258.trans (congrArg some (by kernel_rfl))⟩
  f25 := ⟨Tryz.f259.name, by decide, Tryz.func259.trans (congrArg some (by kernel_rfl))⟩
  f26 := ⟨Tryz.f260.name, by decide, Tryz.func260.trans (congrArg some (by kernel_rfl))⟩
  f27 := ⟨Tryz.f261.name, by decide, Tryz.func261.trans (congrArg some (by kernel_rfl))⟩
  f28 := Tryz.func163.trans (congrArg some (by kernel_rfl))
  f29 := Tryz.func164.trans (congrArg some (by kernel_rfl))
  f46 := ⟨Tryz.f267.name, by decide, Tryz.func267.trans (congrArg some (by kernel_rfl))⟩
  f47 := Tryz.func203.trans (congrArg some (by kernel_rfl))
  f48 := Tryz.func204.trans (congrArg some (by kernel_rfl))
  f49 := ⟨Tryz.f268.name, by decide, Tryz.func268.trans (congrArg some (by kernel_rfl))⟩
  f50 := ⟨Tryz.f269.name, by decide, Tryz.func269.trans (congrArg some (by kernel_rfl))⟩
  f57 := ⟨Tryz.f273.name, by decide, Tryz.func273.trans (congrArg some (by kernel_rfl))⟩
  t0 := Tryz.underlying0
  a0 := Tryz.isAgg0
  z0 := Tryz.sizeOf0
  v0 := Tryz.zeroValue0
  t3 := Tryz.underlying3
  a3 := Tryz.isAgg3
  z3 := Tryz.sizeOf3
  v3 := Tryz.zeroValue3
  t4 := Tryz.underlying4
  a4 := Tryz.isAgg4
  z4 := Tryz.sizeOf4
  v4 := Tryz.zeroValue4
  t5 := Tryz.underlying5
  a5 := Tryz.isAgg5
  z5 := Tryz.sizeOf5
  v5 := Tryz.zeroValue5
  t9 := Tryz.underlying9
  a9 := Tryz.isAgg9
  z9 := Tryz.sizeOf9
  v9 := Tryz.zeroValue9
  t22 := Tryz.underlying41
  a22 := Tryz.isAgg41
  z22 := Tryz.sizeOf41
  v22 := Tryz.zeroValue41
  t25 := Tryz.underlying214
  a25 := Tryz.isAgg214
  z25 := Tryz.sizeOf214
  v25 := Tryz.zeroValue214
  t39 := Tryz.underlying153
  a39 := Tryz.isAgg153
  z39 := Tryz.sizeOf153
  v39 := Tryz.zeroValue153
  t45 := Tryz.underlying186
  a45 := Tryz.isAgg186
  z45 := Tryz.sizeOf186
  v45 := Tryz.zeroValue186
  t46 := Tryz.underlying187
  a46 := Tryz.isAgg187
  z46 := Tryz.sizeOf187
  v46 := Tryz.zeroValue187
  t50 := Tryz.underlying166
  a50 := Tryz.isAgg166
  z50 := Tryz.sizeOf166
  v50 := Tryz.zeroValue166
  t53 := Tryz.underlying193
  a53 := Tryz.isAgg193
  z53 := Tryz.sizeOf193
  v53 := Tryz.zeroValue193
  t55 := Tryz.underlying152
  a55 := Tryz.isAgg152
  z55 := Tryz.sizeOf152
  v55 := Tryz.zeroValue152
  t66 := Tryz.underlying225
  a66 := Tryz.isAgg225
  z66 := Tryz.sizeOf225
  v66 := Tryz.zeroValue225
  t70 := Tryz.underlying229
  a70 := Tryz.isAgg229
  z70 := Tryz.sizeOf229
  v70 := Tryz.zeroValue229
  t76 := Tryz.underlying251
  a76 := Tryz.isAgg251
  z76 := Tryz.sizeOf251
  v76 := Tryz.zeroValue251
  t77 := Tryz.underlying252
  a77 := Tryz.isAgg252
  z77 := Tryz.sizeOf252
  v77 := Tryz.zeroValue252 }
end Go.Proofs
/- slices.SortFunc of fields by their names: over the shelf's contract. -/
namespace Go.Proofs.YtacpllmlpmllbaaGreatDoor
open Go.RowKit

/-- What leaves all there was, and has asked the tape no less often, has but drawn and grown. -/
theorem grow_of {w w' : World} (h : Below w.heap.size w w') (hd : w.drawn ≤ w'.drawn) : ∃ q os, w' = Sort.grow (w.drewN q) os := by
  refine ⟨w'.drawn - w.drawn, w'.heap.extract w.heap.size w'.heap.size, ?_⟩
  have h1 := h.os
  have h2 := h.tape
  have h3 := h.output
  have h4 := h.size
  have h5 := h.block
  obtain ⟨hp, tp, dr, os, ou⟩ := w
  obtain ⟨hp', tp', dr', os', ou'⟩ := w'
  dsimp only at *
  subst h1 h2 h3
  have e1 : hp' = hp ++ hp'.extract hp.size hp'.size := by
    apply Array.ext_getElem?
    intro i
    by_cases hi : i < hp.size
    · rw [Array.getElem?_append_left hi, h5 i hi]
    · rw [Array.getElem?_append_right (by omega), Array.getElem?_extract]
      by_cases h2 : i < hp'.size
      · rw [if_pos (by omega)]
        congr 1
        omega
      · rw [if_neg (by omega), Array.getElem?_eq_none (by omega)]
  have e2 : dr' = dr + (dr' - dr) := by omega
  unfold Sort.grow World.drewN
  dsimp only
  congr
/-- Fields whose names are not too long to be held against each other. -/
abbrev Fs := { x : Fd // x.n.size ≤ 1000000 }
instance : Inhabited Fs := ⟨⟨⟨⟨#[]⟩, 0, false⟩, by decide⟩⟩
def enFs (x : Fs) : List Value := enF x.1
def cfF (x y : Fs) : Int := cmpL x.1.n.data.toList y.1.n.data.toList
theorem byName_g (x y : Fs) (w : World) (hT : UT w) : Calls Tryz.prog 186 #[.agg (enFs x).toArray, .agg (enFs y).toArray] w fun e w' => e = .returned (.int .i64 (cfF x y)) ∧ ∃ q os, w' = Sort.grow (w.drewN q) os := by
  refine (calls_drawn (byName_any x.1 y.1 w x.2 y.2 hT) (fun e w' h => ⟨_, h.1⟩)).mono ?_
  rintro e w' ⟨⟨rfl, hb⟩, hd⟩
  exact ⟨rfl, grow_of hb hd⟩
theorem ltFs (x y : Fs) : ltOf cfF x y = true ↔ ltF x.1 y.1 := by
  unfold ltOf cfF ltF
  rw [decide_eq_true_eq, cmpL_lt]
theorem swoF : Sort.SWO (ltOf cfF) where
  irrefl x := by
    cases h : ltOf cfF x x
    · rfl
    · exact absurd ((ltFs x x).1 h) (ltF_irr _)
  trans x y z h1 h2 := (ltFs x z).2 (ltF_trans ((ltFs x y).1 h1) ((ltFs y z).1 h2))
  ntrans x y z h1 h2 := by
    cases h : ltOf cfF x z
    · rfl
    · exfalso
      have hxz := (ltFs x z).1 h
      have n1 : ¬ ltF x.1 y.1 := fun hh => by rw [(ltFs x y).2 hh] at h1; cases h1
      have n2 : ¬ ltF y.1 z.1 := fun hh => by rw [(ltFs y z).2 hh] at h2; cases h2
      unfold ltF cmpL at *
      have v1 := cmp_vals (foldL x.1.n.data.toList) (foldL y.1.n.data.toList)
      have v2 := cmp_vals (foldL y.1.n.data.toList) (foldL z.1.n.data.toList)
      have a1 := cmp_anti (foldL x.1.n.data.toList) (foldL y.1.n.data.toList)
      have a2 := cmp_anti (foldL y.1.n.data.toList) (foldL z.1.n.data.toList)
      rcases v1 with v1 | v1 | v1
      · exact n1 v1
      · have e := cmp_zero _ _ v1
        rw [← e] at n2
        exact n2 hxz
      · rcases v2 with v2 | v2 | v2
        · exact n2 v2
        · have e := cmp_zero _ _ v2
          rw [e] at n1
          exact n1 hxz
        · have t := cmp_trans _ _ _ (show Lib.compareBytes (foldL z.1.n.data.toList) (foldL y.1.n.data.toList) = -1 by omega) (show Lib.compareBytes (foldL y.1.n.data.toList) (foldL x.1.n.data.toList) = -1 by omega)
          have a3 := cmp_anti (foldL z.1.n.data.toList) (foldL x.1.n.data.toList)
          omega
theorem flat_getF : ∀ (D : List Fs) (j : Nat), j < D.length * 3 → (D.flatMap enFs)[j]? = some ((enFs (D[j / 3]!))[j % 3]!)
  | [], j, h => absurd h (by simp)
  | d :: D, 0, _ => rfl
  | d :: D, 1, _ => rfl
  | d :: D, 2, _ => rfl
  | d :: D, j + 3, h => by
    have e : (d :: D).flatMap enFs = enFs d ++ D.flatMap enFs := by simp
    have z : (enFs d).length = 3 := rfl
    rw [e, List.getElem?_append_right (by omega), show j + 3 - (enFs d).length = j by omega, flat_getF D j (by rw [List.length_cons] at h; omega), show (j + 3) / 3 = j / 3 + 1 by omega, show (j + 3) % 3 = j % 3 by omega]
    simp
theorem flatFs_len (D : List Fs) : (D.flatMap enFs).length = D.length * 3 := by
  induction D with
  | nil => rfl
  | cons d D ih => rw [List.flatMap_cons, List.length_append, ih, List.length_cons]; show 3 + _ = _; omega
theorem flatFs_eq (D : List Fs) : D.flatMap enFs = fCells (D.map Subtype.val) := by
  unfold fCells enFs
  rw [List.flatMap_map]
theorem below_sortF {base g m : Nat} {w : World} {d : Array Fs} {os : Array Obj} (hg : base ≤ g) (hgl : g < w.heap.size) : Below base w (sortWorldK enFs 3 w g 0 m d os) := by
  refine ⟨rfl, rfl, rfl, ?_, ?_⟩
  · show w.heap.size ≤ ((w.heap.modify g _) ++ os).size
    simp
  · intro k hk
    show ((w.heap.modify g _) ++ os)[k]? = w.heap[k]?
    by_cases hks : k < w.heap.size
    · rw [Array.getElem?_append_left (by simpa using hks), Array.getElem?_modify, if_neg (by omega)]
    · exact absurd (Nat.lt_of_lt_of_le hk hg) (by omega)
set_option maxRecDepth 100000 in
theorem sort_ownF (g cap base : Nat) (D : List Fs) (w : World) (hown : w.ownsRow base 110 3 (.slice (some ⟨g, 0, none⟩) D.length cap) D.length (D.flatMap enFs)) (hn : D.length ≤ 1000) (hU : ∀ w', Below base w w' → UT w') :
    Calls Tryz.prog 227 #[.slice (some ⟨g, 0, none⟩) D.length cap, .func (.func 186) #[] #[]] w fun e w' => e = .returned (.tuple #[]) ∧
      ∃ D' : List Fs, D'.Perm D ∧ D'.Pairwise (fun a b => ¬ cfF b a < 0) ∧ IsRow w' 3 (.slice (some ⟨g, 0, none⟩) D.length cap) D.length (D'.flatMap enFs) ∧ Below base w w' := by
  obtain ⟨hxl, ⟨hv, _⟩ | ⟨g', cap', cur, hv, hbg, hg, hnc, hcm, hcs, htk⟩⟩ := hown
  · cases hv
  simp only [Value.slice.injEq, Option.some.injEq, Addr.mk.injEq, and_true, true_and] at hv
  obtain ⟨rfl, rfl⟩ := hv
  have hlt : g < w.heap.size := (Array.getElem?_eq_some_iff.1 hg).1
  have hH : Sort.HoldsK enFs 3 w g 0 D.toArray := by
    intro j hj
    rw [Sort.size_flatK] at hj
    simp only [List.size_toArray] at hj
    refine ⟨?_, by simp [World.frozen?, hg]⟩
    rw [Sort.get_flatK enFs 3 D.toArray j (by simpa using hj), Nat.zero_add, Lib.cell_of_heap hg]
    have h2 := flat_getF D j hj
    rw [← htk, List.getElem?_take_of_lt hj] at h2
    simpa using h2
  have eg : ∀ args w, (callFunc 186 args).run Tryz.prog w = .ok (.enter 186 args) w := enters_of Tryz.func186 (by kernel_rfl) rfl
  have hcmp : CmpLays Tryz.prog 186 #[] enFs 3 cfF g 0 D.toArray.size w := fun m os dk _ x y => byName_g x y _ (hU _ (below_sortF hbg hlt))
  have hcon := AnyQ.slices_SortFunc Tryz.sortFd 3 Tryz.isAgg110 Tryz.sizeOf110 enFs (fun _ => rfl) (fun x v hv => by simp [enFs, enF] at hv; rcases hv with rfl | rfl | rfl <;> rfl) cfF swoF 186 #[] g 0 cap D.toArray w eg hcmp hH hlt (by simp; omega)
  rw [List.size_toArray] at hcon
  refine hcon.mono ?_
  rintro e w' ⟨rfl, d', m, os, ⟨hds, _, hp⟩, hs, rfl⟩
  have hds : d'.size = D.length := by simpa using hds
  refine ⟨rfl, d'.toList, ?_, ?_, ?_, below_sortF hbg hlt⟩
  · have e1 : d'.extract 0 D.length = d' := by rw [← hds]; exact Array.extract_size
    have e2 : D.toArray.extract 0 D.length = D.toArray := by
      have := @Array.extract_size _ D.toArray
      rwa [List.size_toArray] at this
    rw [e1, e2] at hp
    exact hp
  · rw [List.pairwise_iff_getElem]
    intro i j hi hj hij
    have hj' : j < d'.size := by simpa using hj
    have := hs i j (Nat.zero_le _) hij (by omega)
    rw [getElem!_pos d' j hj', getElem!_pos d' i (by omega)] at this
    unfold ltOf at this
    simpa using this
  · have hH2 : Sort.HoldsK enFs 3 (sortWorldK enFs 3 w g 0 m d' os) g 0 d' := Sort.holdsK_grow enFs 3 _ os g 0 d' (by show g < (w.heap.modify g _).size; simpa using hlt) (Sort.holdsK_putRowK enFs 3 (Sort.ahead w m) g 0 D.toArray d' (Sort.holdsK_ahead enFs 3 w m g 0 D.toArray hH) (by simpa using hds))
    have hl2 : d'.toList.length = D.length := by simpa using hds
    refine ⟨by rw [flatFs_len, hl2], .inr ⟨g, 0, cap, rfl, ?_, hnc, hcm, ?_⟩⟩
    · show g < ((w.heap.modify g _) ++ os).size
      simp
      omega
    · intro j u hu
      have hj : j < d'.toList.length * 3 := by rw [← flatFs_len]; exact (List.getElem?_eq_some_iff.1 hu).1
      have h3 := (hH2 j (by rw [Sort.size_flatK]; simpa using hj)).1
      rw [Sort.get_flatK enFs 3 d' j (by simpa using hj)] at h3
      rw [flat_getF _ j hj] at hu
      have hq : j / 3 < d'.size := by simp at hj; omega
      have e : d'.toList[j / 3]! = d'[j / 3]! := by rw [getElem!_pos d' _ hq, getElem!_pos d'.toList _ (by simpa using hq)]; simp
      rw [h3, ← hu, e]
      rfl
/-- The sort of a row of fields that the call owns. -/
theorem sortF_any (v : Value) (l : List Fd) (base : Nat) (w : World) (hown : w.ownsRow base 110 3 v l.length (fCells l)) (hn : l.length ≤ 1000) (hm : NmF l) (hU : ∀ w', Below base w w' → UT w') :
    Calls Tryz.prog 227 #[v, .func (.func 186) #[] #[]] w fun e w' => e = .returned (.tuple #[]) ∧
      ∃ D : List Fd, D.Perm l ∧ D.Pairwise leF ∧ IsRow w' 3 v l.length (fCells D) ∧ Below base w w' := by
  by_cases h0 : l.length = 0
  · obtain rfl : l = [] := List.eq_nil_of_length_eq_zero h0
    obtain ⟨a0, cap0, rfl⟩ := (IsRow.own hown).form
    refine (AnyF.slices_SortFunc_none Tryz.sortFd a0 cap0 _ w).mono ?_
    rintro e w' ⟨rfl, rfl⟩
    exact ⟨rfl, [], List.Perm.refl _, List.Pairwise.nil, IsRow.own hown, Below.refl _ _⟩
  · obtain ⟨g, cap, rfl⟩ : ∃ g cap, v = .slice (some ⟨g, 0, none⟩) l.length cap := by
      rcases hown.2 with ⟨_, h⟩ | ⟨g, cap, cur, hv, -⟩
      · exact absurd h h0
      · exact ⟨g, cap, hv⟩
    obtain ⟨D, hD⟩ : ∃ D : List Fs, D.map Subtype.val = l := ⟨l.attach.map fun x => ⟨x.1, hm x.1 x.2⟩, by simp [List.map_map, Function.comp_def]⟩
    have hlen : l.length = D.length := by rw [← hD, List.length_map]
    rw [← hD, ← flatFs_eq] at hown
    rw [List.length_map] at hown
    rw [hlen]
    refine (sort_ownF g cap base D w hown (by omega) hU).mono ?_
    rintro e w' ⟨rfl, D', hp, hs, hr, hb⟩
    refine ⟨rfl, D'.map Subtype.val, ?_, ?_, ?_, hb⟩
    · rw [← hD]; exact hp.map _
    · rw [List.pairwise_map]; exact hs
    · rw [← flatFs_eq]; exact hr
end Go.Proofs.YtacpllmlpmllbaaGreatDoor
