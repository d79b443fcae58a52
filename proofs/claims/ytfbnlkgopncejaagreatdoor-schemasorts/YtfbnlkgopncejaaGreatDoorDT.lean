/- How often the tape was asked never falls: of a goroutine's step, of the machine's, of a call. -/
import Derived.Test.YtfbnlkgopncejaaGreatDoorDS
import Derived.Control
namespace Go.Proofs.YtfbnlkgopncejaaGreatDoor
set_option maxHeartbeats 1000000 in
theorem exec_d {p : Program} {mn ls : Bool} {fr : Frame} {cs : List Frame} {dy : Option Dying} {w : World} : w.drawn ≤ (gsW (stepG.exec p mn ls fr cs dy w)).drawn := by
  unfold stepG.exec
  dsimp only
  generalize htd : fr.todo = td
  cases td with
  | nil =>
    dsimp only
    split
    · (repeat' split) <;> exact Nat.le_refl _
    · rw [Sem.runT_eq]
      dsimp only
      rw [after_w]
      split <;> rename_i he
      · rw [doReturn_d]; exact run_of he
      · exact run_of he
  | cons it k =>
    cases it with
    | code c =>
      cases c with
      | ret =>
        dsimp only
        split
        · (repeat' split) <;> exact Nat.le_refl _
        · rw [Sem.runT_eq]
          dsimp only
          rw [after_w]
          split <;> rename_i he
          · rw [doReturn_d]; exact run_of he
          · exact run_of he
      | exit id =>
        dsimp only
        cases exitTo id k with
        | none =>
          dsimp only [Option.elim]
          split
          · (repeat' split) <;> exact Nat.le_refl _
          · rw [Sem.runT_eq]
            dsimp only
            rw [after_w]
            split <;> rename_i he
            · rw [doReturn_d]; exact run_of he
            · exact run_of he
        | some t => exact Nat.le_refl _
      | goto l =>
        dsimp only
        cases gotoIn l k with
        | none =>
          dsimp only [Option.elim]
          split
          · (repeat' split) <;> exact Nat.le_refl _
          · rw [Sem.runT_eq]
            dsimp only
            rw [after_w]
            split <;> rename_i he
            · rw [doReturn_d]; exact run_of he
            · exact run_of he
        | some t => exact Nat.le_refl _
      | cond c a b => dsimp only; split <;> exact Nat.le_refl _
      | rangeFunc f ps as b =>
        dsimp only
        rw [Sem.runT_eq]
        dsimp only
        rw [after_w]
        split <;> rename_i he
        · exact Nat.le_trans (run_of he) (apply_d _ _ _ _ _ _ _)
        · exact run_of he
      | region id ops draw =>
        dsimp only
        split
        · exact Nat.le_refl _
        · split <;> rename_i he <;> exact run_of he
      | _ => exact Nat.le_refl _
    | beginRound => exact apply_d _ _ _ _ _ _ _
    | endRangeFunc l =>
      dsimp only
      rw [Sem.runT_eq]
      dsimp only
      rw [after_w]
      split <;> rename_i he <;> exact run_of he
    | call d a b c => exact apply_d _ _ _ _ _ _ _
    | extern row args =>
      dsimp only
      cases Extern.next row with
      | none => exact Nat.le_refl _
      | some e => exact apply_d _ _ _ _ _ _ _
    | inRegion ops l =>
      cases l with
      | nil => exact Nat.le_refl _
      | cons i l =>
        dsimp only
        split
        · exact oper_d
        · exact Nat.le_refl _
    | _ => exact Nat.le_refl _
theorem stepG_d {p : Program} {mn ls : Bool} {g : Goroutine} {w : World} : w.drawn ≤ (gsW (stepG p mn g w ls)).drawn := by
  unfold stepG
  obtain ⟨fr, cs, st, dy, off⟩ := g
  dsimp only
  split
  · exact die_d
  · exact exec_d
  · exact unwind_d
/-- Of what a step leaves, if it goes on. -/
def nxD (d : Nat) : Stepped → Prop
  | .next m => d ≤ m.world.drawn
  | _ => True
theorem nxD.mono {d e : Nat} {s : Stepped} (h : d ≤ e) (hs : nxD e s) : nxD d s := by
  cases s with
  | next m => exact Nat.le_trans h hs
  | _ => trivial
theorem drain_d (w : World) (c : Nat) : (drain w c).2.drawn = w.drawn := by unfold drain; split <;> rfl
theorem retime_d (m : Machine) (k : Nat) (t : Timer) (a b : Nat) : (retime m k t a b).2.world.drawn = m.world.drawn := by
  unfold retime
  dsimp only
  split
  · exact drain_d _ _
  · rfl
theorem timerOp_d {m m' : Machine} {o : TimerOp} {v : Value} (h : timerOp m o = .ok (v, m')) : m.world.drawn = m'.world.drawn := by
  have hn : ∀ (m0 : Machine) (var : Addr) (f : Nat → Timer → Value × Machine), (∀ k t, (f k t).2.world.drawn = m.world.drawn) → timerOp.named m0 var f = .ok (v, m') → m.world.drawn = m'.world.drawn := fun m0 var f hf hh => by
    unfold timerOp.named at hh
    split at hh
    · have e := Except.ok.inj hh
      rw [← hf _ _, e]
    · cases hh
  unfold timerOp at h
  split at h
  · split at h
    · obtain ⟨-, rfl⟩ := Prod.mk.inj (Except.ok.inj h); rfl
    · split at h
      · split at h
        · cases h
        · obtain ⟨-, rfl⟩ := Prod.mk.inj (Except.ok.inj h); rfl
      · cases h
  · exact hn _ _ _ (fun k t => retime_d _ _ _ _ _) h
  · split at h
    · rename_i m1 ho
      have e1 : m1.world.drawn = m.world.drawn := by
        unfold timerOp.opened at ho
        split at ho
        · split at ho
          · have := Option.some.inj ho; subst this; rfl
          · cases ho
        · have := Option.some.inj ho; subst this; rfl
      exact hn _ _ _ (fun k t => (retime_d _ _ _ _ _).trans e1) h
    · cases h
  · obtain ⟨-, rfl⟩ := Prod.mk.inj (Except.ok.inj h); rfl
theorem serve_d {p : Program} {m : Machine} {k : Nat} : nxD m.world.drawn (serve p m k) := by
  unfold serve
  split
  · trivial
  · exact Nat.le_refl _
  · dsimp only
    split
    · trivial
    · exact Nat.le_refl _
set_option maxHeartbeats 1000000 in
theorem look_d {p : Program} {gs : Array Goroutine} {rest : Rest} {w : World} : nxD w.drawn (look p gs rest w) := by
  unfold look
  split
  · dsimp only
    split
    · trivial
    · split
      · trivial
      · split
        · rename_i he; exact run_of he
        · trivial
        · trivial
  · trivial
theorem waitingAt_d {rest : Rest} {cases : Array CommCase} {w w' : World} (h : waitingAt rest cases w = some w') : w'.drawn = w.drawn := by
  unfold waitingAt at h
  split at h
  · split at h
    · have := Option.some.inj h; subst this; rfl
    · cases h
  · have := Option.some.inj h; subst this; rfl
set_option maxHeartbeats 1000000 in
theorem communicate_d {p : Program} {rest : Rest} {gs : Array Goroutine} {i : Nat} {g : Goroutine} {cases : Array CommCase} {b : Bool} {shape : CommShape} {w : World} : nxD w.drawn (communicate p rest gs i g cases b shape w).1 := by
  unfold communicate
  dsimp only
  split
  · trivial
  split
  · split
    · split
      · rename_i he; exact Nat.le_of_eq (waitingAt_d he).symm
      · trivial
    · exact Nat.le_refl _
  · split
    · trivial
    · rename_i hp
      have h0 := run_of hp
      simp only [resW] at h0
      split
      · split
        · rename_i he
          exact Nat.le_trans h0 (run_of he)
        · trivial
      · exact h0
      · exact h0
      · split
        · exact h0
        · split
          · rename_i he
            exact Nat.le_trans h0 (run_of he)
          · trivial
      · exact h0
      · exact h0
      · trivial
theorem endThrow_w {fr : Frame} {s : String} {w w' : World} {g : Goroutine} {es : Array Event} (h : endThrow fr s w = .go g w' es) : w.drawn ≤ w'.drawn := by
  have := endThrow_d (fr := fr) (m := s) (w := w)
  rw [h] at this
  exact this
set_option maxHeartbeats 1000000 in
theorem runT_d {p : Program} {m : Machine} {i : Nat} {ls : Bool} : nxD m.world.drawn (runT p m i ls).1 := by
  unfold runT
  dsimp only
  generalize hs : stepG p (i == 0) (m.gs.swapAt! i { (default : Goroutine) with status := .finished }).1 m.world ls = s
  have h0 : m.world.drawn ≤ (gsW s).drawn := by rw [← hs]; exact stepG_d
  cases s with
  | ended o w e => trivial
  | comm g c b sh w e => exact nxD.mono h0 communicate_d
  | go g w e => exact h0
  | spawn g c w e => exact h0
  | count g w e =>
    dsimp only
    split
    · trivial
    · exact h0
  | alone g on w e => exact h0
  | collect g w e => exact nxD.mono h0 look_d
  | watch g w e => exact h0
  | newcoro g c d w e => exact h0
  | coroswitch g c ex w e =>
    dsimp only
    split
    · exact h0
    · split
      · rename_i he; exact Nat.le_trans h0 (endThrow_w he)
      · trivial
    · trivial
  | timer g op w e =>
    dsimp only
    split
    · rename_i he; exact Nat.le_trans h0 (Nat.le_of_eq (timerOp_d he))
    · split
      · rename_i he; exact Nat.le_trans h0 (endThrow_w he)
      · trivial
    · trivial
    · trivial
/-- Of what is moved next. -/
def mvD (d : Nat) : Move → Prop
  | .goroutine m _ => d ≤ m.world.drawn
  | .machine s _ => nxD d s
theorem mvD.mono {d e : Nat} {s : Move} (h : d ≤ e) (hs : mvD e s) : mvD d s := by
  cases s with
  | goroutine m i => exact Nat.le_trans h hs
  | machine s o => exact nxD.mono h hs
set_option maxHeartbeats 1000000 in
theorem askOn_d {p : Program} {m : Machine} : mvD m.world.drawn (askOn p m) := by
  unfold askOn
  dsimp only
  have hpick : ∀ (m1 : Machine) (rs : List Nat), mvD m1.world.drawn (match (choose (.sched rs.length)).run p m1.world with
      | .halt _ w => .machine (.ended (.stuck "sched" "") w)
      | .ok k world =>
        if rs.length ≤ 1 then .goroutine { m1 with world } (rs.getD k 0) else
        match (choose (.extern "sched.slice" 65536)).run p world with
        | .halt _ w => .machine (.ended (.stuck "sched.slice" "") w)
        | .ok n world => .goroutine { m1 with world, rest := { m1.rest with slice := if n = 0 then none else some (rs.getD k 0, n) } } (rs.getD k 0)) := fun m1 rs => by
    split
    · trivial
    · rename_i he
      have h1 := run_of he
      split
      · exact h1
      · split
        · trivial
        · rename_i he2
          exact Nat.le_trans h1 (run_of he2)
  split
  · trivial
  · rename_i k world he
    have h1 := run_of he
    simp only [resW] at h1
    split
    · exact nxD.mono h1 serve_d
    · split
      · split
        · exact h1
        · split
          · exact h1
          · split <;> trivial
      · split
        · exact mvD.mono h1 (hpick { m with world } _)
        · split
          · trivial
          · rename_i he2
            exact mvD.mono (Nat.le_trans h1 (run_of he2)) (hpick { m with world := _ } _)
          · rename_i he2
            exact Nat.le_trans h1 (run_of he2)
          · rename_i he2
            exact mvD.mono (Nat.le_trans h1 (run_of he2)) (hpick (({ m with world := _ } : Machine).advanceTo _) _)
theorem ask_d {p : Program} {m : Machine} : mvD m.world.drawn (ask p m) := by
  unfold ask
  split
  · split
    · trivial
    · rename_i wl he
      have h1 := run_of he
      simp only [resW] at h1
      have h2 := look_d (p := p) (gs := m.gs) (rest := m.rest) (w := wl)
      split
      · rename_i hl
        rw [hl] at h2
        exact mvD.mono (Nat.le_trans h1 h2) askOn_d
      · exact nxD.mono h1 h2
    · rename_i he
      exact mvD.mono (run_of he) (askOn_d (m := { m with world := _ }))
  · exact askOn_d
theorem move_d {p : Program} {m : Machine} : mvD m.world.drawn (move p m) := by
  unfold move
  split
  · split
    · exact Nat.le_refl _
    · trivial
  · split
    · split
      · exact Nat.le_refl _
      · exact ask_d (m := { m with rest := _ })
    · exact ask_d
theorem step_d {p : Program} {m : Machine} : nxD m.world.drawn (step p m) := by
  have h := move_d (p := p) (m := m)
  unfold step stepT
  split
  · rename_i he
    rw [he] at h
    exact nxD.mono h runT_d
  · rename_i he
    rw [he] at h
    exact h
theorem runN_d {p : Program} : ∀ (n : Nat) (m m' : Machine), runN p n m = .next m' → m.world.drawn ≤ m'.world.drawn
  | 0, m, m', h => by
    obtain rfl := Stepped.next.inj h
    exact Nat.le_refl _
  | n + 1, m, m', h => by
    have hs := step_d (p := p) (m := m)
    rw [runN] at h
    split at h
    · rename_i m1 he
      rw [he] at hs
      exact Nat.le_trans hs (runN_d n m1 m' h)
    · rename_i he
      exact absurd h (he m')
theorem steps_d {P : Program} {m m' : Machine} (h : Steps P m m') : m.world.drawn ≤ m'.world.drawn := by
  obtain ⟨n, hn⟩ := h
  exact runN_d n m m' hn
/-- A call that returns has asked the tape no less often. -/
theorem calls_drawn {P : Program} {f : FuncId} {args : Array Value} {w : World} {R : Ending → World → Prop} (h : Calls P f args w R) (hr : ∀ e w', R e w' → ∃ v, e = .returned v) : Calls P f args w fun e w' => R e w' ∧ w.drawn ≤ w'.drawn := by
  intro cs
  obtain ⟨e, w', fr, h1, h2, h3⟩ := h cs
  refine ⟨e, w', fr, ⟨h1, ?_⟩, h2, h3⟩
  obtain ⟨v, rfl⟩ := hr e w' h1
  exact steps_d h2
end Go.Proofs.YtfbnlkgopncejaaGreatDoor
