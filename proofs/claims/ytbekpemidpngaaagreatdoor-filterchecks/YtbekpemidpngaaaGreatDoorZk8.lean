/- How often the tape was asked never falls: of a goroutine's step, of the machine's, of a call. -/
import Derived.Test.YtbekpemidpngaaaGreatDoorZk7
import Derived.Control
import Derived.Shelf.SlSortCmp.NoneTotal
import Derived.Ground.SlsfProg
import Derived.Test.YtbekpemidpngaaaGreatDoorProg
import Derived.Test.YtbekpemidpngaaaGreatDoorZk6
import Derived.Test.YtbekpemidpngaaaGreatDoorZk5
import Derived.Lib.SplitLaws
namespace Go.Proofs.YtbekpemidpngaaaGreatDoor
set_option maxHeartbeats 1000000 in
theorem exec_d {p : Program} {mn ls : Bool} {fr : Frame} {cs : List Frame} {dy : Option Dying} {w : World} : w.drawn ≤ (gsW (stepG.exec p mn ls fr cs dy w)).drawn := by
  unfold stepG.exec
  dsimp only
  generalize htd : fr.todo = td
  cases td with
  | nil =>
    dsimp only
    split
    · (repeat' split) <;> exact Nat.le_refl _
    · rw [Sem.runT_eq]
      dsimp only
      rw [after_w]
      split <;> rename_i he
      · rw [doReturn_d]; exact run_of he
      · exact run_of he
  | cons it k =>
    cases it with
    | code c =>
      cases c with
      | ret =>
        dsimp only
        split
        · (repeat' split) <;> exact Nat.le_refl _
        · rw [Sem.runT_eq]
          dsimp only
          rw [after_w]
          split <;> rename_i he
          · rw [doReturn_d]; exact run_of he
          · exact run_of he
      | exit id =>
        dsimp only
        cases exitTo id k with
        | none =>
          dsimp only [Option.elim]
          split
          · (repeat' split) <;> exact Nat.le_refl _
          · rw [Sem.runT_eq]
            dsimp only
            rw [after_w]
            split <;> rename_i he
            · rw [doReturn_d]; exact run_of he
            · exact run_of he
        | some t => exact Nat.le_refl _
      | goto l =>
        dsimp only
        cases gotoIn l k with
        | none =>
          dsimp only [Option.elim]
          split
          · (repeat' split) <;> exact Nat.le_refl _
          · rw [Sem.runT_eq]
            dsimp only
            rw [after_w]
            split <;> rename_i he
            · rw [doReturn_d]; exact run_of he
            · exact run_of he
        | some t => exact Nat.le_refl _
      | cond c a b => dsimp only; split <;> exact Nat.le_refl _
      | rangeFunc f ps ag b =>
        dsimp only
        rw [Sem.runT_eq]
        dsimp only
        rw [after_w]
        split <;> rename_i he
        · exact Nat.le_trans (run_of he) (apply_d _ _ _ _ _ _ _)
        · exact run_of he
      | region id ops draw =>
        dsimp only
        split
        · exact Nat.le_refl _
        · split <;> rename_i he <;> exact run_of he
      | _ => exact Nat.le_refl _
    | beginRound => exact apply_d _ _ _ _ _ _ _
    | endRangeFunc l =>
      dsimp only
      rw [Sem.runT_eq]
      dsimp only
      rw [after_w]
      split <;> rename_i he <;> exact run_of he
    | call d a b c => exact apply_d _ _ _ _ _ _ _
    | extern row args =>
      dsimp only
      cases Extern.next row with
      | none => exact Nat.le_refl _
      | some e => exact apply_d _ _ _ _ _ _ _
    | inRegion ops l =>
      cases l with
      | nil => exact Nat.le_refl _
      | cons i l =>
        dsimp only
        split
        · exact oper_d
        · exact Nat.le_refl _
    | _ => exact Nat.le_refl _
theorem stepG_d {p : Program} {mn ls : Bool} {g : Goroutine} {w : World} : w.drawn ≤ (gsW (stepG p mn g w ls)).drawn := by
  unfold stepG
  obtain ⟨fr, cs, st, dy, off⟩ := g
  dsimp only
  split
  · exact die_d
  · exact exec_d
  · exact unwind_d
/-- Of what a step leaves, if it goes on. -/
def nxD (d : Nat) : Stepped → Prop
  | .next m => d ≤ m.world.drawn
  | _ => True
theorem nxD.mono {d e : Nat} {s : Stepped} (h : d ≤ e) (hs : nxD e s) : nxD d s := by
  cases s with
  | next m => exact Nat.le_trans h hs
  | _ => trivial
theorem drain_d (w : World) (c : Nat) : (drain w c).2.drawn = w.drawn := by unfold drain; split <;> rfl
theorem retime_d (m : Machine) (k : Nat) (t : Timer) (a b : Nat) : (retime m k t a b).2.world.drawn = m.world.drawn := by
  unfold retime
  dsimp only
  split
  · exact drain_d _ _
  · rfl
theorem timerOp_d {m m' : Machine} {o : TimerOp} {v : Value} (h : timerOp m o = .ok (v, m')) : m.world.drawn = m'.world.drawn := by
  have hn : ∀ (m0 : Machine) (var : Addr) (f : Nat → Timer → Value × Machine), (∀ k t, (f k t).2.world.drawn = m.world.drawn) → timerOp.named m0 var f = .ok (v, m') → m.world.drawn = m'.world.drawn := fun m0 var f hf hh => by
    unfold timerOp.named at hh
    split at hh
    · have e := Except.ok.inj hh
      rw [← hf _ _, e]
    · cases hh
  unfold timerOp at h
  split at h
  · split at h
    · obtain ⟨-, rfl⟩ := Prod.mk.inj (Except.ok.inj h); rfl
    · split at h
      · split at h
        · cases h
        · obtain ⟨-, rfl⟩ := Prod.mk.inj (Except.ok.inj h); rfl
      · cases h
  · exact hn _ _ _ (fun k t => retime_d _ _ _ _ _) h
  · split at h
    · rename_i m1 ho
      have e1 : m1.world.drawn = m.world.drawn := by
        unfold timerOp.opened at ho
        split at ho
        · split at ho
          · have := Option.some.inj ho; subst this; rfl
          · cases ho
        · have := Option.some.inj ho; subst this; rfl
      exact hn _ _ _ (fun k t => (retime_d _ _ _ _ _).trans e1) h
    · cases h
  · obtain ⟨-, rfl⟩ := Prod.mk.inj (Except.ok.inj h); rfl
theorem serve_d {p : Program} {m : Machine} {k : Nat} : nxD m.world.drawn (serve p m k) := by
  unfold serve
  split
  · trivial
  · exact Nat.le_refl _
  · dsimp only
    split
    · trivial
    · exact Nat.le_refl _
set_option maxHeartbeats 1000000 in
theorem look_d {p : Program} {gs : Array Goroutine} {rest : Rest} {w : World} : nxD w.drawn (look p gs rest w) := by
  unfold look
  split
  · dsimp only
    split
    · trivial
    · split
      · trivial
      · split
        · rename_i he; exact run_of he
        · trivial
        · trivial
  · trivial
theorem waitingAt_d {rest : Rest} {cases : Array CommCase} {w w' : World} (h : waitingAt rest cases w = some w') : w'.drawn = w.drawn := by
  unfold waitingAt at h
  split at h
  · split at h
    · have := Option.some.inj h; subst this; rfl
    · cases h
  · have := Option.some.inj h; subst this; rfl
set_option maxHeartbeats 1000000 in
theorem communicate_d {p : Program} {rest : Rest} {gs : Array Goroutine} {i : Nat} {g : Goroutine} {cases : Array CommCase} {b : Bool} {shape : CommShape} {w : World} : nxD w.drawn (communicate p rest gs i g cases b shape w).1 := by
  unfold communicate
  dsimp only
  split
  · trivial
  split
  · split
    · split
      · rename_i he; exact Nat.le_of_eq (waitingAt_d he).symm
      · trivial
    · exact Nat.le_refl _
  · split
    · trivial
    · rename_i hp
      have h0 := run_of hp
      simp only [resW] at h0
      split
      · split
        · rename_i he
          exact Nat.le_trans h0 (run_of he)
        · trivial
      · exact h0
      · exact h0
      · split
        · exact h0
        · split
          · rename_i he
            exact Nat.le_trans h0 (run_of he)
          · trivial
      · exact h0
      · exact h0
      · trivial
theorem endThrow_w {fr : Frame} {s : String} {w w' : World} {g : Goroutine} {es : Array Event} (h : endThrow fr s w = .go g w' es) : w.drawn ≤ w'.drawn := by
  have := endThrow_d (fr := fr) (m := s) (w := w)
  rw [h] at this
  exact this
set_option maxHeartbeats 1000000 in
theorem runT_d {p : Program} {m : Machine} {i : Nat} {ls : Bool} : nxD m.world.drawn (runT p m i ls).1 := by
  unfold runT
  dsimp only
  generalize hs : stepG p (i == 0) (m.gs.swapAt! i { (default : Goroutine) with status := .finished }).1 m.world ls = s
  have h0 : m.world.drawn ≤ (gsW s).drawn := by rw [← hs]; exact stepG_d
  cases s with
  | ended o w e => trivial
  | comm g c b sh w e => exact nxD.mono h0 communicate_d
  | go g w e => exact h0
  | spawn g c w e => exact h0
  | count g w e =>
    dsimp only
    split
    · trivial
    · exact h0
  | alone g on w e => exact h0
  | collect g w e => exact nxD.mono h0 look_d
  | watch g w e => exact h0
  | newcoro g c d w e => exact h0
  | coroswitch g c ex w e =>
    dsimp only
    split
    · exact h0
    · split
      · rename_i he; exact Nat.le_trans h0 (endThrow_w he)
      · trivial
    · trivial
  | timer g op w e =>
    dsimp only
    split
    · rename_i he; exact Nat.le_trans h0 (Nat.le_of_eq (timerOp_d he))
    · split
      · rename_i he; exact Nat.le_trans h0 (endThrow_w he)
      · trivial
    · trivial
    · trivial
/-- Of what is moved next. -/
def mvD (d : Nat) : Move → Prop
  | .goroutine m _ => d ≤ m.world.drawn
  | .machine s _ => nxD d s
theorem mvD.mono {d e : Nat} {s : Move} (h : d ≤ e) (hs : mvD e s) : mvD d s := by
  cases s with
  | goroutine m i => exact Nat.le_trans h hs
  | machine s o => exact nxD.mono h hs
set_option maxHeartbeats 1000000 in
theorem askOn_d {p : Program} {m : Machine} : mvD m.world.drawn (askOn p m) := by
  unfold askOn
  dsimp only
  have hpick : ∀ (m1 : Machine) (rs : List Nat), mvD m1.world.drawn (match (choose (.sched rs.length)).run p m1.world with
      | .halt _ w => .machine (.ended (.stuck "sched" "") w)
      | .ok k world =>
        if rs.length ≤ 1 then .goroutine { m1 with world } (rs.getD k 0) else
        match (choose (.extern "sched.slice" 65536)).run p world with
        | .halt _ w => .machine (.ended (.stuck "sched.slice" "") w)
        | .ok n world => .goroutine { m1 with world, rest := { m1.rest with slice := if n = 0 then none else some (rs.getD k 0, n) } } (rs.getD k 0)) := fun m1 rs => by
    split
    · trivial
    · rename_i he
      have h1 := run_of he
      split
      · exact h1
      · split
        · trivial
        · rename_i he2
          exact Nat.le_trans h1 (run_of he2)
  split
  · trivial
  · rename_i k world he
    have h1 := run_of he
    simp only [resW] at h1
    split
    · exact nxD.mono h1 serve_d
    · split
      · split
        · exact h1
        · split
          · exact h1
          · split <;> trivial
      · split
        · exact mvD.mono h1 (hpick { m with world } _)
        · split
          · trivial
          · rename_i he2
            exact mvD.mono (Nat.le_trans h1 (run_of he2)) (hpick { m with world := _ } _)
          · rename_i he2
            exact Nat.le_trans h1 (run_of he2)
          · rename_i he2
            exact mvD.mono (Nat.le_trans h1 (run_of he2)) (hpick (({ m with world := _ } : Machine).advanceTo _) _)
theorem ask_d {p : Program} {m : Machine} : mvD m.world.drawn (ask p m) := by
  unfold ask
  split
  · split
    · trivial
    · rename_i wl he
      have h1 := run_of he
      simp only [resW] at h1
      have h2 := look_d (p := p) (gs := m.gs) (rest := m.rest) (w := wl)
      split
      · rename_i hl
        rw [hl] at h2
        exact mvD.mono (Nat.le_trans h1 h2) askOn_d
      · exact nxD.mono h1 h2
    · rename_i he
      exact mvD.mono (run_of he) (askOn_d (m := { m with world := _ }))
  · exact askOn_d
theorem move_d {p : Program} {m : Machine} : mvD m.world.drawn (move p m) := by
  unfold move
  split
  · split
    · exact Nat.le_refl _
    · trivial
  · split
    · split
      · exact Nat.le_refl _
      · exact ask_d (m := { m with rest := _ })
    · exact ask_d
theorem step_d {p : Program} {m : Machine} : nxD m.world.drawn (step p m) := by
  have h := move_d (p := p) (m := m)
  unfold step stepT
  split
  · rename_i he
    rw [he] at h
    exact nxD.mono h runT_d
  · rename_i he
    rw [he] at h
    exact h
theorem runN_d {p : Program} : ∀ (n : Nat) (m m' : Machine), runN p n m = .next m' → m.world.drawn ≤ m'.world.drawn
  | 0, m, m', h => by
    obtain rfl := Stepped.next.inj h
    exact Nat.le_refl _
  | n + 1, m, m', h => by
    have hs := step_d (p := p) (m := m)
    rw [runN] at h
    split at h
    · rename_i m1 he
      rw [he] at hs
      exact Nat.le_trans hs (runN_d n m1 m' h)
    · rename_i he
      exact absurd h (he m')
theorem steps_d {P : Program} {m m' : Machine} (h : Steps P m m') : m.world.drawn ≤ m'.world.drawn := by
  obtain ⟨n, hn⟩ := h
  exact runN_d n m m' hn
/-- A call that returns has asked the tape no less often. -/
theorem calls_drawn {P : Program} {f : FuncId} {args : Array Value} {w : World} {R : Ending → World → Prop} (h : Calls P f args w R) (hr : ∀ e w', R e w' → ∃ v, e = .returned v) : Calls P f args w fun e w' => R e w' ∧ w.drawn ≤ w'.drawn := by
  intro cs
  obtain ⟨e, w', fr, h1, h2, h3⟩ := h cs
  refine ⟨e, w', fr, ⟨h1, ?_⟩, h2, h3⟩
  obtain ⟨v, rfl⟩ := hr e w' h1
  exact steps_d h2
end Go.Proofs.YtbekpemidpngaaaGreatDoor
/- The shelf's contract of slices.SortFunc, at this program, laid by the shelf's tool in plain words. -/
namespace Go.Proofs
open Go.Shelf
def Tryz.sortVl_ren : Go.Shelf.Ren := ⟨fun | 6 => 163 | 15 => 179 | 14 => 178 | 28 => 198 | 29 => 199 | 20 => 190 | 21 => 191 | 22 => 192 | 23 => 193 | 24 => 194 | 25 => 195 | 26 => 196 | 27 => 197 | 46 => 206 | 47 => 207 | 48 => 208 | 49 => 209 | 50 => 210 | 57 => 216 | n => n, fun | 22 => 43 | 24 => 54 | 25 => 140 | 3 => 3 | 39 => 147 | 0 => 0 | 53 => 210 | 55 => 184 | 4 => 4 | 46 => 234 | 45 => 233 | 50 => 238 | 5 => 5 | 9 => 9 | 66 => 247 | 70 => 251 | 76 => 254 | 77 => 255 | n => n, fun | n => n⟩
theorem Tryz.sortVl : Go.Proofs.SlLaysF0.n6 Tryz.prog Tryz.sortVl_ren := {
  mixed := by kernel_rfl
  f6 := ⟨Tryz.f163.name, by decide, Tryz.func163.trans (congrArg some (by kernel_rfl))⟩
  f14 := ⟨Tryz.f178.name, by decide, Tryz.func178.trans (congrArg some (by kernel_rfl))⟩
  f15 := Tryz.func179.trans (congrArg some (by kernel_rfl))
  f20 := ⟨Tryz.f190.name, by decide, Tryz.func190.trans (congrArg some (by kernel_rfl))⟩
  f21 := ⟨Tryz.f191.name, by decide, Tryz.func191.trans (congrArg some (by kernel_rfl))⟩
  f22 := ⟨Tryz.f192.name, by decide, Tryz.func192.trans (congrArg some (by kernel_rfl))⟩
  f23 := ⟨Tryz.f193.name, by decide, Tryz.func193.trans (congrArg some (by kernel_rfl))⟩
  f24 := ⟨Tryz.f194.name, by decide, Tryz.func194.trans (congrArg some (by kernel_rfl))⟩
  f25 := ⟨Tryz.f195.name, by decide, Tryz.func195.trans (congrArg some (by kernel_rfl))⟩
  f26 := ⟨Tryz.f196.name, by decide, Tryz.func196.trans (congrArg some (by kernel_rfl))⟩
  f27 := ⟨Tryz.f197.name, by decide, Tryz.func197.trans (congrArg some (by kernel_rfl))⟩
  f28 := Tryz.func198.trans (congrArg some (by kernel_rfl))
  f29 := Tryz.func199.trans (congrArg some (by kernel_rfl))
  f46 := ⟨Tryz.f206.name, by decide, Tryz.func206.trans (congrArg some (by kernel_rfl))⟩
  f47 := Tryz.func207.trans (congrArg some (by kernel_rfl))
  f48 := Tryz.func208.trans (congrArg some (by kernel_rfl))
  f49 := ⟨Tryz.f209.name, by decide, Tryz.func209.trans (congrArg some (by kernel_rfl))⟩
  f50 := ⟨Tryz.f210.name, by decide, Tryz.func210.trans (congrArg some (by kernel_rfl))⟩
  f57 := ⟨Tryz.f216.name, by decide, Tryz.func216.trans (congrArg some (by kernel_rfl))⟩
  t0 := Tryz.underlying0
  a0 := Tryz.isAgg0
  z0 := Tryz.sizeOf0
  v0 := Tryz.zeroValue0
  t3 := Tryz.underlying3
  a3 := Tryz.isAgg3
  z3 := Tryz.sizeOf3
  v3 := Tryz.zeroValue3
  t4 := Tryz.underlying4
  a4 := Tryz.isAgg4
  z4 := Tryz.sizeOf4
  v4 := Tryz.zeroValue4
  t5 := Tryz.underlying5
  a5 := Tryz.isAgg5
  z5 := Tryz.sizeOf5
  v5 := Tryz.zeroValue5
  t9 := Tryz.underlying9
  a9 := Tryz.isAgg9
  z9 := Tryz.sizeOf9
  v9 := Tryz.zeroValue9
  t22 := Tryz.underlying43
  a22 := Tryz.isAgg43
  z22 := Tryz.sizeOf43
  v22 := Tryz.zeroValue43
  t25 := Tryz.underlying140
  a25 := Tryz.isAgg140
  z25 := Tryz.sizeOf140
  v25 := Tryz.zeroValue140
  t39 := Tryz.underlying147
  a39 := Tryz.isAgg147
  z39 := Tryz.sizeOf147
  v39 := Tryz.zeroValue147
  t45 := Tryz.underlying233
  a45 := Tryz.isAgg233
  z45 := Tryz.sizeOf233
  v45 := Tryz.zeroValue233
  t46 := Tryz.underlying234
  a46 := Tryz.isAgg234
  z46 := Tryz.sizeOf234
  v46 := Tryz.zeroValue234
  t50 := Tryz.underlying238
  a50 := Tryz.isAgg238
  z50 := Tryz.sizeOf238
  v50 := Tryz.zeroValue238
  t53 := Tryz.underlying210
  a53 := Tryz.isAgg210
  z53 := Tryz.sizeOf210
  v53 := Tryz.zeroValue210
  t55 := Tryz.underlying184
  a55 := Tryz.isAgg184
  z55 := Tryz.sizeOf184
  v55 := Tryz.zeroValue184
  t66 := Tryz.underlying247
  a66 := Tryz.isAgg247
  z66 := Tryz.sizeOf247
  v66 := Tryz.zeroValue247
  t70 := Tryz.underlying251
  a70 := Tryz.isAgg251
  z70 := Tryz.sizeOf251
  v70 := Tryz.zeroValue251
  t76 := Tryz.underlying254
  a76 := Tryz.isAgg254
  z76 := Tryz.sizeOf254
  v76 := Tryz.zeroValue254
  t77 := Tryz.underlying255
  a77 := Tryz.isAgg255
  z77 := Tryz.sizeOf255
  v77 := Tryz.zeroValue255 }
end Go.Proofs
/- slices.SortFunc of values by value.Compare: over the shelf's contract. -/
namespace Go.Proofs.YtbekpemidpngaaaGreatDoor
open Go.RowKit

/-- What leaves all there was, and has asked the tape no less often, has but drawn and grown. -/
theorem grow_of {w w' : World} (h : Below w.heap.size w w') (hd : w.drawn ≤ w'.drawn) : ∃ q os, w' = Sort.grow (w.drewN q) os := by
  refine ⟨w'.drawn - w.drawn, w'.heap.extract w.heap.size w'.heap.size, ?_⟩
  have h1 := h.os
  have h2 := h.tape
  have h3 := h.output
  have h4 := h.size
  have h5 := h.block
  obtain ⟨hp, tp, dr, os, ou⟩ := w
  obtain ⟨hp', tp', dr', os', ou'⟩ := w'
  dsimp only at *
  subst h1 h2 h3
  have e1 : hp' = hp ++ hp'.extract hp.size hp'.size := by
    apply Array.ext_getElem?
    intro i
    by_cases hi : i < hp.size
    · rw [Array.getElem?_append_left hi, h5 i hi]
    · rw [Array.getElem?_append_right (by omega), Array.getElem?_extract]
      by_cases h2 : i < hp'.size
      · rw [if_pos (by omega)]
        congr 1
        omega
      · rw [if_neg (by omega), Array.getElem?_eq_none (by omega)]
  have e2 : dr' = dr + (dr' - dr) := by omega
  unfold Sort.grow World.drewN
  dsimp only
  congr
instance : Inhabited It := ⟨⟨0, 0, ⟨#[]⟩⟩⟩
def cfV (x y : It) : Int := V.cmpV x.k x.n x.s y.k y.n y.s
theorem cmpV_g (x y : It) (w : World) : Calls Tryz.prog 92 #[.agg (It.cells x).toArray, .agg (It.cells y).toArray] w fun e w' => e = .returned (.int .i64 (cfV x y)) ∧ ∃ q os, w' = Sort.grow (w.drewN q) os := by
  refine (calls_drawn (V.compare_any x.k x.n x.s y.k y.n y.s w) (fun e w' h => ⟨_, h.1⟩)).mono ?_
  rintro e w' ⟨⟨rfl, hb⟩, hd⟩
  exact ⟨rfl, grow_of hb hd⟩
theorem ltVs (x y : It) : ltOf cfV x y = true ↔ cfV x y < 0 := by
  unfold ltOf
  rw [decide_eq_true_eq]
theorem cfV_anti (x y : It) : cfV x y = - cfV y x := V.cv_anti ..
theorem cfV_zero {x y : It} (h : cfV x y = 0) : x = y := by
  obtain ⟨h1, h2, h3⟩ := (V.cv_zero ..).1 h
  cases x; cases y
  simp_all
theorem cfV_self (x : It) : cfV x x = 0 := (V.cv_zero ..).2 ⟨rfl, rfl, rfl⟩
theorem cfV_trans {x y z : It} (h1 : cfV x y < 0) (h2 : cfV y z < 0) : cfV x z < 0 := V.cv_trans h1 h2
theorem swoV : Sort.SWO (ltOf cfV) where
  irrefl x := by
    cases h : ltOf cfV x x
    · rfl
    · have := (ltVs x x).1 h
      rw [cfV_self] at this
      exact absurd this (by decide)
  trans x y z h1 h2 := (ltVs x z).2 (cfV_trans ((ltVs x y).1 h1) ((ltVs y z).1 h2))
  ntrans x y z h1 h2 := by
    cases h : ltOf cfV x z
    · rfl
    · exfalso
      have hxz := (ltVs x z).1 h
      have n1 : ¬ cfV x y < 0 := fun hh => by rw [(ltVs x y).2 hh] at h1; cases h1
      have n2 : ¬ cfV y z < 0 := fun hh => by rw [(ltVs y z).2 hh] at h2; cases h2
      by_cases e1 : cfV x y = 0
      · obtain rfl := cfV_zero e1
        exact n2 hxz
      · by_cases e2 : cfV y z = 0
        · obtain rfl := cfV_zero e2
          exact n1 hxz
        · have a1 := cfV_anti x y
          have a2 := cfV_anti y z
          have a3 := cfV_anti x z
          have := cfV_trans (show cfV z y < 0 by omega) (show cfV y x < 0 by omega)
          omega
theorem flat_getV : ∀ (D : List It) (j : Nat), j < D.length * 3 → (D.flatMap It.cells)[j]? = some ((It.cells (D[j / 3]!))[j % 3]!)
  | [], j, h => absurd h (by simp)
  | d :: D, 0, _ => rfl
  | d :: D, 1, _ => rfl
  | d :: D, 2, _ => rfl
  | d :: D, j + 3, h => by
    have e : (d :: D).flatMap It.cells = It.cells d ++ D.flatMap It.cells := by simp
    have z : (It.cells d).length = 3 := rfl
    rw [e, List.getElem?_append_right (by omega), show j + 3 - (It.cells d).length = j by omega, flat_getV D j (by rw [List.length_cons] at h; omega), show (j + 3) / 3 = j / 3 + 1 by omega, show (j + 3) % 3 = j % 3 by omega]
    simp
theorem flatVs_len (D : List It) : (D.flatMap It.cells).length = D.length * 3 := by
  induction D with
  | nil => rfl
  | cons d D ih => rw [List.flatMap_cons, List.length_append, ih, List.length_cons]; show 3 + _ = _; omega
theorem below_sortV {base g m : Nat} {w : World} {d : Array It} {os : Array Obj} (hg : base ≤ g) (hgl : g < w.heap.size) : Below base w (sortWorldK It.cells 3 w g 0 m d os) := by
  refine ⟨rfl, rfl, rfl, ?_, ?_⟩
  · show w.heap.size ≤ ((w.heap.modify g _) ++ os).size
    simp
  · intro k hk
    show ((w.heap.modify g _) ++ os)[k]? = w.heap[k]?
    by_cases hks : k < w.heap.size
    · rw [Array.getElem?_append_left (by simpa using hks), Array.getElem?_modify, if_neg (by omega)]
    · exact absurd (Nat.lt_of_lt_of_le hk hg) (by omega)
set_option maxRecDepth 100000 in
theorem sort_ownV (g cap base : Nat) (D : List It) (w : World) (hown : w.ownsRow base 54 3 (.slice (some ⟨g, 0, none⟩) D.length cap) D.length (D.flatMap It.cells)) (hn : D.length ≤ 1000) :
    Calls Tryz.prog 163 #[.slice (some ⟨g, 0, none⟩) D.length cap, .func (.func 92) #[] #[]] w fun e w' => e = .returned (.tuple #[]) ∧
      ∃ D' : List It, D'.Perm D ∧ D'.Pairwise (fun a b => ¬ cfV b a < 0) ∧ IsRow w' 3 (.slice (some ⟨g, 0, none⟩) D.length cap) D.length (D'.flatMap It.cells) ∧ Below base w w' := by
  obtain ⟨hxl, ⟨hv, _⟩ | ⟨g', cap', cur, hv, hbg, hg, hnc, hcm, hcs, htk⟩⟩ := hown
  · cases hv
  simp only [Value.slice.injEq, Option.some.injEq, Addr.mk.injEq, and_true, true_and] at hv
  obtain ⟨rfl, rfl⟩ := hv
  have hlt : g < w.heap.size := (Array.getElem?_eq_some_iff.1 hg).1
  have hH : Sort.HoldsK It.cells 3 w g 0 D.toArray := by
    intro j hj
    rw [Sort.size_flatK] at hj
    simp only [List.size_toArray] at hj
    refine ⟨?_, by simp [World.frozen?, hg]⟩
    rw [Sort.get_flatK It.cells 3 D.toArray j (by simpa using hj), Nat.zero_add, Lib.cell_of_heap hg]
    have h2 := flat_getV D j hj
    rw [← htk, List.getElem?_take_of_lt hj] at h2
    simpa using h2
  have eg : ∀ args w, (callFunc 92 args).run Tryz.prog w = .ok (.enter 92 args) w := enters_of Tryz.func92 (by kernel_rfl) rfl
  have hcmp : CmpLays Tryz.prog 92 #[] It.cells 3 cfV g 0 D.toArray.size w := fun m os dk _ x y => cmpV_g x y _
  have hcon := AnyQ.slices_SortFunc Tryz.sortVl 3 Tryz.isAgg54 Tryz.sizeOf54 It.cells (fun _ => rfl) (fun x v hv => by simp [It.cells] at hv; rcases hv with rfl | rfl | rfl <;> rfl) cfV swoV 92 #[] g 0 cap D.toArray w eg hcmp hH hlt (by simp; omega)
  rw [List.size_toArray] at hcon
  refine hcon.mono ?_
  rintro e w' ⟨rfl, d', m, os, ⟨hds, _, hp⟩, hs, rfl⟩
  have hds : d'.size = D.length := by simpa using hds
  refine ⟨rfl, d'.toList, ?_, ?_, ?_, below_sortV hbg hlt⟩
  · have e1 : d'.extract 0 D.length = d' := by rw [← hds]; exact Array.extract_size
    have e2 : D.toArray.extract 0 D.length = D.toArray := by
      have := @Array.extract_size _ D.toArray
      rwa [List.size_toArray] at this
    rw [e1, e2] at hp
    exact hp
  · rw [List.pairwise_iff_getElem]
    intro i j hi hj hij
    have hj' : j < d'.size := by simpa using hj
    have := hs i j (Nat.zero_le _) hij (by omega)
    rw [getElem!_pos d' j hj', getElem!_pos d' i (by omega)] at this
    unfold ltOf at this
    simpa using this
  · have hH2 : Sort.HoldsK It.cells 3 (sortWorldK It.cells 3 w g 0 m d' os) g 0 d' := Sort.holdsK_grow It.cells 3 _ os g 0 d' (by show g < (w.heap.modify g _).size; simpa using hlt) (Sort.holdsK_putRowK It.cells 3 (Sort.ahead w m) g 0 D.toArray d' (Sort.holdsK_ahead It.cells 3 w m g 0 D.toArray hH) (by simpa using hds))
    have hl2 : d'.toList.length = D.length := by simpa using hds
    refine ⟨by rw [flatVs_len, hl2], .inr ⟨g, 0, cap, rfl, ?_, hnc, hcm, ?_⟩⟩
    · show g < ((w.heap.modify g _) ++ os).size
      simp
      omega
    · intro j u hu
      have hj : j < d'.toList.length * 3 := by rw [← flatVs_len]; exact (List.getElem?_eq_some_iff.1 hu).1
      have h3 := (hH2 j (by rw [Sort.size_flatK]; simpa using hj)).1
      rw [Sort.get_flatK It.cells 3 d' j (by simpa using hj)] at h3
      rw [flat_getV _ j hj] at hu
      have hq : j / 3 < d'.size := by simp at hj; omega
      have e : d'.toList[j / 3]! = d'[j / 3]! := by rw [getElem!_pos d' _ hq, getElem!_pos d'.toList _ (by simpa using hq)]; simp
      rw [h3, ← hu, e]
      rfl
/-- The sort of a row of values that the call owns. -/
theorem sortV_any (v : Value) (l : List It) (base : Nat) (w : World) (hown : w.ownsRow base 54 3 v l.length (itCells l)) (hn : l.length ≤ 1000) :
    Calls Tryz.prog 163 #[v, .func (.func 92) #[] #[]] w fun e w' => e = .returned (.tuple #[]) ∧
      ∃ D : List It, D.Perm l ∧ D.Pairwise (fun a b => ¬ cfV b a < 0) ∧ IsRow w' 3 v l.length (itCells D) ∧ Below base w w' := by
  by_cases h0 : l.length = 0
  · obtain rfl : l = [] := List.eq_nil_of_length_eq_zero h0
    obtain ⟨a0, cap0, rfl⟩ := (IsRow.own hown).form
    refine (AnyF.slices_SortFunc_none Tryz.sortVl a0 cap0 _ w).mono ?_
    rintro e w' ⟨rfl, rfl⟩
    exact ⟨rfl, [], List.Perm.refl _, List.Pairwise.nil, IsRow.own hown, Below.refl _ _⟩
  · obtain ⟨g, cap, rfl⟩ : ∃ g cap, v = .slice (some ⟨g, 0, none⟩) l.length cap := by
      rcases hown.2 with ⟨_, h⟩ | ⟨g, cap, cur, hv, -⟩
      · exact absurd h h0
      · exact ⟨g, cap, hv⟩
    refine (sort_ownV g cap base l w hown hn).mono ?_
    rintro e w' ⟨rfl, D', hp, hs, hr, hb⟩
    exact ⟨rfl, D', hp, hs, hr, hb⟩
/-- Two that stand the wrong way round are turned. -/
theorem sort2 {D : List It} {x y : It} (hp : D.Perm [y, x]) (hs : D.Pairwise fun a b => ¬ cfV b a < 0) (h : cfV x y < 0) : D = [x, y] := by
  have hl := hp.length_eq
  match D, hl, hp, hs with
  | [a, b], _, hp, hs =>
    have hab : ¬ cfV b a < 0 := by simpa using hs
    have ha : a = y ∨ a = x := by simpa using hp.subset (show a ∈ [a, b] by simp)
    rcases ha with rfl | rfl
    · have h2 : [b].Perm [x] := List.Perm.cons_inv hp
      obtain rfl : b = x := by simpa using h2.subset (show b ∈ [b] by simp)
      exact absurd h hab
    · have h2 : [b].Perm [y] := by
        have : (a :: [b]).Perm (a :: [y]) := hp.trans (List.Perm.swap a y [])
        exact List.Perm.cons_inv this
      obtain rfl : b = y := by simpa using h2.subset (show b ∈ [b] by simp)
      rfl
end Go.Proofs.YtbekpemidpngaaaGreatDoor
/- schema.Get: its walk. -/
namespace Go.Proofs.YtbekpemidpngaaaGreatDoor
open Go.RowKit

theorem z4 {w : World} {b : Nat} {x y z u : Value} {t : TypeId} (h : w.heap[b]? = some (.cells #[x, y, z, u] t)) :
    w.cell? ⟨b, 0, none⟩ = some x ∧ w.cell? ⟨b, 1, none⟩ = some y ∧ w.cell? ⟨b, 2, none⟩ = some z ∧ w.cell? ⟨b, 3, none⟩ = some u :=
  ⟨by rw [Lib.cell_of_heap h]; rfl, by rw [Lib.cell_of_heap h]; rfl, by rw [Lib.cell_of_heap h]; rfl, by rw [Lib.cell_of_heap h]; rfl⟩
end Go.Proofs.YtbekpemidpngaaaGreatDoor
/- schema.isIn, schema.Within: walks. -/
namespace Go.Proofs.YtbekpemidpngaaaGreatDoor
open Go.RowKit

end Go.Proofs.YtbekpemidpngaaaGreatDoor
/- schema.Fits: its walk. -/
namespace Go.Proofs.YtbekpemidpngaaaGreatDoor
open Go.RowKit

end Go.Proofs.YtbekpemidpngaaaGreatDoor
/- schema.kindOf, schema.parseField: walks. -/
namespace Go.Proofs.YtbekpemidpngaaaGreatDoor
open Go.RowKit

end Go.Proofs.YtbekpemidpngaaaGreatDoor
/- schema.parseField: its walk. -/
namespace Go.Proofs.YtbekpemidpngaaaGreatDoor
open Go.RowKit

end Go.Proofs.YtbekpemidpngaaaGreatDoor
/- schema.Parse: its walk. -/
namespace Go.Proofs.YtbekpemidpngaaaGreatDoor
open Go.RowKit

theorem wpl_appE {P : Program} (wr : World) {ops : Array Oper} {rest : List Oper} {o : Oper} {a : Act} {Q : Exit → Act → World → Prop} (hgd : o.guard = none) (s x : Operand) (t e : TypeId)
    (ho : o.op = .call { callee := .builtin .append, args := #[s, x], argTypes := #[t, t] })
    (i : TypeInfo) (z : Value) (size bytes : Nat) (ht : P.underlying t = some (.slice e)) (hi : P.info? e = some i) (hz : i.zero = some z)
    (hsize : i.size = size) (hby : i.bytes = bytes) (hzs : z.cells.size = size) (hsz : 0 < size)
    (base : Nat) (v : Value) (n : Nat) (xs : List Value) (hs : a.eval s = v) (hown : wr.ownsRow base e size v n xs)
    (es : List Value) (hes : es.length = size) (C : Array Value) (hC : C = es.toArray) (hx : a.eval x = .slice (some ⟨wr.heap.size, 0, none⟩) 1 1) (h1 : ∀ u ∈ es, u.oneCell' = true)
    (hbytes : (n + 1) * bytes ≤ 140737488355328) (h63 : n + 1 ≤ maxLen) (hbase : base ≤ wr.heap.size)
    (h : ∀ v' w', w'.ownsRow base e size v' (n + 1) (xs ++ es) → Below base wr w' → wpList P ops Q rest (a.put o.dst v') w') :
    wpList P ops Q (o :: rest) a (wr.alloc (.cells C e)) := by
  subst hC
  refine wpList_append_own _ hgd s x t ho base e i z size bytes ht hi hz hsize hby hzs hsz v n xs hs (hown.alloc _) ⟨wr.heap.size, 0, none⟩ 1 1 es hx (by omega) ?_ h1 h63 hbytes ?_ ?_
  · intro j u hj
    have : (⟨wr.heap.size, 0, none⟩ : Addr).add j = ⟨wr.heap.size, j, none⟩ := by unfold Addr.add; split <;> simp_all
    rw [this]
    simp
    exact hj
  · simp; omega
  · intro v' w' h2 h3 _
    exact h v' w' h2 (((Below.refl _ _).alloc hbase _).grown h3 (by simp; omega) (fun k hk => (hown.lt k hk).1))
theorem own_belowE {w w1 : World} {base : Nat} {e : TypeId} {sz : Nat} {v : Value} {n : Nat} {xs : List Value} (h : w.ownsRow base e sz v n xs) (hb : Below w.heap.size w w1) : w1.ownsRow base e sz v n xs :=
  h.kept (row := none) ⟨hb.os, hb.tape, hb.output, hb.size, fun k hk _ => hb.block k hk⟩ (by cases hv : v.ownBlock <;> simp)
def sVals (l : List ByteArray) : List Value := l.map Value.string
theorem s_at {w : World} {a : Option Addr} {cap n : Nat} {l : List ByteArray} (h : IsRow w 1 (.slice a n cap) l.length (sVals l)) (h0 : 0 < l.length) :
    ∃ b off, a = some ⟨b, off, none⟩ ∧ n = l.length ∧ b < w.heap.size ∧ l.length ≤ cap ∧ ∀ (k : Nat) (hk : k < l.length), w.cell? ⟨b, off + k, none⟩ = some (.string l[k]) := by
  obtain ⟨b, off, cap', hv, hlt, q1, q2, hc⟩ := h.open (by omega)
  simp only [Value.slice.injEq] at hv
  exact ⟨b, off, hv.1, hv.2.1, hlt, by omega, fun k hk => hc k _ (by simp [sVals, hk])⟩
end Go.Proofs.YtbekpemidpngaaaGreatDoor
