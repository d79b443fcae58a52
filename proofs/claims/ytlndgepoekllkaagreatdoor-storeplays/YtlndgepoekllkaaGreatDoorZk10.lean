/- A store's map, from folded names to what is kept, as it lies in memory. -/
import Derived.Test.YtlndgepoekllkaaGreatDoorZk1
import Derived.Maps.OwnSet
import Derived.Test.YtlndgepoekllkaaGreatDoorZk7
import Derived.Test.YtlndgepoekllkaaGreatDoorZk5
import Derived.Shelf.GgSortFunc.SW
import Derived.Shelf.SlSortCmp.NoneTotal
import Derived.Shelf.SlIter.Collect
import Derived.Ground.SlsfProg
import Derived.Ground.GgzProg
import Derived.Test.YtlndgepoekllkaaGreatDoorProg
namespace Go.Proofs.YtlndgepoekllkaaGreatDoor
open Go.RowKit Go.ChangeMaps

theorem ba_beq (a b : ByteArray) : (a == b) = decide (a = b) := by
  obtain ⟨x⟩ := a
  obtain ⟨y⟩ := b
  show (x == y) = _
  rw [Bool.eq_iff_iff]
  simp
abbrev ptS (o : Option Nat) : Value := .pointer (o.map fun g => ⟨g, 0, none⟩)
abbrev kS (p : ByteArray × Nat) : Value × Value := (.string p.1, ptS (some p.2))
/-- The block that is kept at a key. -/
def lkS (E : List (ByteArray × Nat)) (k : ByteArray) : Option Nat := (E.find? fun p => decide (p.1 = k)).map (·.2)
/-- The entries with one of them set. -/
def stS (E : List (ByteArray × Nat)) (k : ByteArray) (g : Nat) : List (ByteArray × Nat) := if lkS E k = none then E ++ [(k, g)] else E.map fun p => if p.1 = k then (k, g) else p
/-- A map's block holds these entries, in this order; no key twice. -/
def MapS (w : World) (m : Nat) (E : List (ByteArray × Nat)) : Prop := (∃ es clock, w.heap[m]? = some (.map es clock) ∧ es.toList.map (fun e => (e.key, e.val)) = E.map kS ∧ MapKept.Stamped es clock) ∧ (E.map (·.1)).Nodup
theorem MapS.keep {w w' : World} {m : Nat} {E : List (ByteArray × Nat)} (h : MapS w m E) (hk : w'.heap[m]? = w.heap[m]?) : MapS w' m E := by
  obtain ⟨⟨es, c, hb, r⟩, hn⟩ := h
  exact ⟨⟨es, c, hk.trans hb, r⟩, hn⟩
theorem MapS.lt {w : World} {m : Nat} {E : List (ByteArray × Nat)} (h : MapS w m E) : m < w.heap.size := by
  obtain ⟨⟨es, c, hb, r⟩, hn⟩ := h
  exact (Array.getElem?_eq_some_iff.1 hb).1
theorem MapS.new {w : World} {m : Nat} (h : w.heap[m]? = some (.map #[] 0)) : MapS w m [] := ⟨⟨_, _, h, rfl, MapKept.stamped_empty 0⟩, List.nodup_nil⟩
theorem lkS_none {E : List (ByteArray × Nat)} {k : ByteArray} : lkS E k = none ↔ ∀ p ∈ E, p.1 ≠ k := by
  unfold lkS
  rw [Option.map_eq_none_iff, List.find?_eq_none]
  exact ⟨fun h p hp e => h p hp (by simp [e]), fun h p hp e => h p hp (by simpa using e)⟩
theorem lkS_at : ∀ {E : List (ByteArray × Nat)} {j : Nat} {k : ByteArray} {g : Nat}, E[j]? = some (k, g) → (E.map (·.1)).Nodup → lkS E k = some g
  | [], j, k, g, h, _ => by simp at h
  | p :: E, 0, k, g, h, _ => by
    simp at h
    subst h
    simp [lkS]
  | p :: E, j + 1, k, g, h, hn => by
    have h' : E[j]? = some (k, g) := by simpa using h
    rw [List.map_cons, List.nodup_cons] at hn
    have hp : p.1 ≠ k := fun e => hn.1 (by rw [e]; exact List.mem_map.2 ⟨(k, g), List.mem_of_getElem? h', rfl⟩)
    have hb : decide (p.1 = k) = false := by simp [hp]
    have := lkS_at h' hn.2
    unfold lkS at this ⊢
    rw [List.find?_cons, hb]
    exact this
theorem find_strS (k : ByteArray) : ∀ (l : List MapEntry) (E : List (ByteArray × Nat)) (i : Nat), l.map (fun e => (e.key, e.val)) = E.map kS →
    (lkS E k = none ∧ Instr.findNow .string (.string k) l i = some none) ∨
    ∃ j g, E[j]? = some (k, g) ∧ Instr.findNow .string (.string k) l i = some (some (i + j, ptS (some g))) ∧ j < l.length
  | [], E, i, h => by
    cases E with
    | nil => exact .inl ⟨rfl, rfl⟩
    | cons p E => simp at h
  | e :: l, E, i, h => by
    cases E with
    | nil => simp at h
    | cons p E =>
      rw [List.map_cons, List.map_cons, List.cons.injEq] at h
      obtain ⟨h1, h2⟩ := h
      obtain ⟨hk, hv⟩ := Prod.mk.inj h1
      by_cases hp : p.1 = k
      · refine .inr ⟨0, p.2, by simp [← hp], ?_, by simp⟩
        unfold Instr.findNow
        rw [hk, hv]
        simp [Instr.sameNow, hp, ba_beq]
      · have hb : decide (p.1 = k) = false := by simp [hp]
        have hn : ∀ l', Instr.findNow .string (.string k) (e :: l') i = Instr.findNow .string (.string k) l' (i + 1) := fun l' => by
          show (match Instr.sameNow .string (.string k) e.key with | some true => _ | some false => _ | none => _) = _
          rw [hk]
          have : (k == p.1) = false := by rw [ba_beq]; exact decide_eq_false fun e => hp e.symm
          simp [Instr.sameNow, this]
        rcases find_strS k l E (i + 1) h2 with ⟨a1, a2⟩ | ⟨j, g, a1, a2, a3⟩
        · refine .inl ⟨?_, by rw [hn]; exact a2⟩
          unfold lkS at a1 ⊢
          rw [List.find?_cons, hb]
          exact a1
        · exact .inr ⟨j + 1, g, by simpa using a1, by rw [hn, a2, show i + 1 + j = i + (j + 1) by omega], by simpa using a3⟩
theorem und_mapS : Tryz.prog.underlying 48 = some (.map 9 82) := Tryz.underlying48
theorem und_strS : Tryz.prog.underlying 9 = some .string := Tryz.underlying9
/-- v := m[k]. -/
theorem MapS.look {w : World} {m : Nat} {E : List (ByteArray × Nat)} (h : MapS w m E) (k : ByteArray) :
    (Instr.lookup 48 (.map (some m)) (.string k) false).run Tryz.prog w = .ok (ptS (lkS E k)) w := by
  obtain ⟨⟨es, c, hb, hr, hst⟩, hn⟩ := h
  have hc := fun e n => MapKept.run_checkKey (P := Tryz.prog) (w := w) (k := .string k) und_strS trivial e n
  rcases find_strS k es.toList E 0 hr with ⟨a1, a2⟩ | ⟨j, g, a1, a2, -⟩
  · rw [a1]
    simp [Instr.lookup, run_underlying und_mapS, MapKept.run_getObj_map hb, hc, MapKept.run_findKey und_strS a2, Result.andThen]
  · rw [lkS_at a1 hn]
    simp [Instr.lookup, run_underlying und_mapS, MapKept.run_getObj_map hb, hc, MapKept.run_findKey und_strS a2, Result.andThen]
theorem MapS.len {w : World} {m : Nat} {E : List (ByteArray × Nat)} (h : MapS w m E) (ty : TypeId) : (Builtin.len_ #[48] ty #[.map (some m)]).run Tryz.prog w = .ok (.int .i64 E.length) w := by
  obtain ⟨⟨es, c, hb, hr, hst⟩, hn⟩ := h
  have hl : es.size = E.length := by
    have := congrArg List.length hr
    simpa using this
  simp [Builtin.len_, run_underlying und_mapS, MapKept.run_getObj_map hb, Result.andThen, hl, goInt]
theorem stS_keys (E : List (ByteArray × Nat)) (k : ByteArray) (g : Nat) (h : lkS E k ≠ none) : (stS E k g).map (·.1) = E.map (·.1) := by
  unfold stS
  rw [if_neg h, List.map_map]
  refine List.map_congr_left fun p _ => ?_
  show (if p.1 = k then (k, g) else p).1 = p.1
  split
  · next e => exact e.symm
  · rfl
theorem stS_nodup {E : List (ByteArray × Nat)} (k : ByteArray) (g : Nat) (hn : (E.map (·.1)).Nodup) : ((stS E k g).map (·.1)).Nodup := by
  by_cases h : lkS E k = none
  · unfold stS
    rw [if_pos h, List.map_append, List.nodup_append]
    refine ⟨hn, by simp, ?_⟩
    intro a ha b hb e
    obtain ⟨p, hp, rfl⟩ := List.mem_map.1 ha
    simp at hb
    exact lkS_none.1 h p hp (e.trans hb)
  · rw [stS_keys E k g h]
    exact hn
/-- m[k] = v. -/
theorem MapS.put {w : World} {m : Nat} {E : List (ByteArray × Nat)} (h : MapS w m E) (k : ByteArray) (g : Nat) :
    ∃ w', (Instr.mapUpdate 48 (.map (some m)) (.string k) (ptS (some g))).run Tryz.prog w = .ok () w' ∧ MapS w' m (stS E k g) ∧ w.grownBy w' (some m) := by
  obtain ⟨⟨es, c, hb, hr, hst⟩, hn⟩ := h
  have hc := fun e n => MapKept.run_checkKey (P := Tryz.prog) (w := w) (k := .string k) und_strS trivial e n
  rcases find_strS k es.toList E 0 hr with ⟨a1, a2⟩ | ⟨j, g0, a1, a2, a3⟩
  · refine ⟨setBlock w m (.map (es.push ⟨.string k, ptS (some g), c⟩) (c + 1)), ?_, ⟨⟨_, _, heap_setBlock_same hb _, ?_, MapKept.stamped_push hst fun x hx e => ?_⟩, stS_nodup k g hn⟩, ⟨rfl, rfl, rfl, by simp [setBlock], fun i _ hi => heap_setBlock_other hb _ (fun e => hi (by rw [e]))⟩⟩
    · simp [Instr.mapUpdate, run_underlying und_mapS, MapKept.run_getObj_map hb, hc, MapKept.run_findKey und_strS a2, MapKept.run_setObj_map _ hb, Result.andThen, setBlock]
    · unfold stS
      rw [if_pos a1, Array.toList_push, List.map_append, hr, List.map_append]; rfl
    · have hm : (x.key, x.val) ∈ E.map kS := by rw [← hr]; exact List.mem_map.2 ⟨x, hx, rfl⟩
      obtain ⟨p, hp, hq⟩ := List.mem_map.1 hm
      have h1 : Value.string p.1 = x.key := (Prod.mk.inj hq).1
      rw [e] at h1
      exact lkS_none.1 a1 p hp (Value.string.inj h1)
  · have hj : j < es.size := by simpa using a3
    have hkey : es[j].key = .string k := by
      have h1 : (es.toList.map fun e => (e.key, e.val))[j]? = (E.map kS)[j]? := by rw [hr]
      rw [List.getElem?_map, List.getElem?_map, a1, List.getElem?_eq_getElem a3] at h1
      simp at h1
      exact h1.1
    refine ⟨setBlock w m (.map (es.modify j fun e => { e with key := .string k, val := ptS (some g) }) c), ?_, ⟨⟨_, _, heap_setBlock_same hb _, ?_, MapKept.stamped_modify hst _ _ (fun _ _ => rfl) fun e _ he => ?_⟩, stS_nodup k g hn⟩, ⟨rfl, rfl, rfl, by simp [setBlock], fun i _ hi => heap_setBlock_other hb _ (fun e => hi (by rw [e]))⟩⟩
    · simp [Instr.mapUpdate, run_underlying und_mapS, MapKept.run_getObj_map hb, hc, MapKept.run_findKey und_strS a2, MapKept.run_setObj_map _ hb, Result.andThen, setBlock, Instr.keyThatStays, Instr.sameBits, hj, hkey, ba_beq]
    · have hne : lkS E k ≠ none := by rw [lkS_at a1 hn]; simp
      unfold stS
      rw [if_neg hne]
      refine List.ext_getElem? fun i => ?_
      have h1 : (es.toList.map fun e => (e.key, e.val))[i]? = (E.map kS)[i]? := by rw [hr]
      rw [List.getElem?_map, List.getElem?_map] at h1
      rw [List.getElem?_map, List.getElem?_map, List.getElem?_map, Array.getElem?_toList, Array.getElem?_modify]
      rw [Array.getElem?_toList] at h1
      by_cases hij : j = i
      · subst hij
        rw [if_pos rfl, a1, Array.getElem?_eq_getElem hj]
        simp
      · rw [if_neg hij]
        cases hE : E[i]? with
        | none => rw [hE] at h1; rw [h1]; rfl
        | some p =>
          rw [hE] at h1
          have hp : p.1 ≠ k := fun e => by
            have h3 := List.getElem?_eq_some_iff.1 hE
            have h4 := List.getElem?_eq_some_iff.1 a1
            obtain ⟨l3, e3⟩ := h3
            obtain ⟨l4, e4⟩ := h4
            exact hij ((List.getElem_inj (h₀ := by simpa using l4) (h₁ := by simpa using l3) hn).1 (by simp [e3, e4, e]))
          rw [h1]
          simp [hp]
    · rw [Array.getElem?_eq_getElem hj] at he
      obtain rfl := Option.some.inj he
      exact hkey.symm
end Go.Proofs.YtlndgepoekllkaaGreatDoor
/- A store, plainly, and as it lies in memory; store's New and find: walks. -/
namespace Go.Proofs.YtlndgepoekllkaaGreatDoor
open Go.RowKit Go.ChangeMaps

/-- What is kept: a type, whether it is sure, for whom it waits. -/
structure Kp where
  t : Ty
  s : Bool
  f : Nat → Bool
abbrev kpA (x : Kp) (vo va vc : Value) : Array Value := #[.string x.t.n, .string x.t.p, vo, va, vc, .int .i64 x.t.nd, .int .i64 x.t.lf, .int .i64 x.t.sq, .bool x.s, .bool (x.f 0), .bool (x.f 1), .bool (x.f 2), .bool (x.f 3), .bool (x.f 4), .bool (x.f 5), .bool (x.f 6), .bool (x.f 7), .bool (x.f 8), .bool (x.f 9), .bool (x.f 10), .bool (x.f 11), .bool (x.f 12), .bool (x.f 13), .bool (x.f 14), .bool (x.f 15)]
def KpV (base : Nat) (w : World) (g : Nat) (x : Kp) : Prop := base ≤ g ∧ ∃ vo va vc, w.heap[g]? = some (.cells (kpA x vo va vc) 87 (0, 0)) ∧ OwnTy base w x.t vo va vc
abbrev stP (s : Nat) : Value := .pointer (some ⟨s, 0, none⟩)
theorem own_below {w w' : World} {base : Nat} {e : TypeId} {sz : Nat} {v : Value} {n : Nat} {xs : List Value} (h : w.ownsRow base e sz v n xs) (hb : Below w.heap.size w w') : w'.ownsRow base e sz v n xs :=
  ⟨h.1, h.2.imp id fun ⟨g, cap, cur, a, b, c, r⟩ => ⟨g, cap, cur, a, b, (hb.block g (Array.getElem?_eq_some_iff.1 c).1).trans c, r⟩⟩
theorem OwnTy.below {base : Nat} {w w' : World} {t : Ty} {vo va vc : Value} (h : OwnTy base w t vo va vc) (hb : Below w.heap.size w w') : OwnTy base w' t vo va vc := ⟨own_below h.1 hb, own_below h.2.1 hb, own_below h.2.2 hb⟩
theorem KpV.below {base : Nat} {w w' : World} {g : Nat} {x : Kp} (h : KpV base w g x) (hb : Below w.heap.size w w') : KpV base w' g x := by
  obtain ⟨h1, vo, va, vc, h2, h3⟩ := h
  exact ⟨h1, vo, va, vc, (hb.block g (Array.getElem?_eq_some_iff.1 h2).1).trans h2, h3.below hb⟩
/-- The store that a pointer to block s means: its map in block m, what is kept in the blocks of E. -/
structure StV (base : Nat) (w : World) (s m : Nat) (E : List (ByteArray × Nat)) (X : Nat → Kp) : Prop where
  lo : base ≤ s
  lm : base ≤ m
  blk : w.heap[s]? = some (.cells #[.map (some m)] 50 (0, 0))
  mp : MapS w m E
  kp : ∀ p ∈ E, KpV base w p.2 (X p.2)
  nd : (E.map (·.2)).Nodup
theorem StV.below {base : Nat} {w w' : World} {s m : Nat} {E : List (ByteArray × Nat)} {X : Nat → Kp} (h : StV base w s m E X) (hb : Below w.heap.size w w') : StV base w' s m E X :=
  ⟨h.lo, h.lm, (hb.block s (Array.getElem?_eq_some_iff.1 h.blk).1).trans h.blk, h.mp.keep (hb.block m h.mp.lt), fun p hp => (h.kp p hp).below hb, h.nd⟩
theorem StV.cell {base : Nat} {w : World} {s m : Nat} {E : List (ByteArray × Nat)} {X : Nat → Kp} (h : StV base w s m E X) : w.cell? ⟨s, 0, none⟩ = some (.map (some m)) := by
  rw [Lib.cell_of_heap h.blk]; rfl
theorem st_new {w' : World} (base : Nat) (s m : Nat) (X : Nat → Kp) (hs : base ≤ s) (hm : base ≤ m) (h1 : w'.heap[s]? = some (.cells #[.map (some m)] 50 (0, 0))) (h2 : w'.heap[m]? = some (.map #[] 0)) : StV base w' s m [] X :=
  ⟨hs, hm, h1, MapS.new h2, fun p hp => absurd hp (by simp), List.nodup_nil⟩
theorem storeNew_any (w : World) (X : Nat → Kp) : Calls Tryz.prog 4 #[] w fun e w' => ∃ s m, e = .returned (stP s) ∧ StV w.heap.size w' s m [] X ∧ Below w.heap.size w w' := by
  have HL : Hid (StV w.heap.size ((w.alloc (.map #[] 0)).alloc (.cells #[.map (some w.heap.size)] 50)) (w.heap.size + 1) w.heap.size [] X) := by
    refine st_new _ _ _ X (by omega) (Nat.le_refl _) ?_ ?_
    · show ((w.heap.push _).push _)[w.heap.size + 1]? = _
      rw [Array.getElem?_push, if_pos (by simp)]
    · show ((w.heap.push _).push _)[w.heap.size]? = _
      rw [Array.getElem?_push, if_neg (by simp), Array.getElem?_push, if_pos rfl]
  have HB : Hid (Below w.heap.size w ((w.alloc (.map #[] 0)).alloc (.cells #[.map (some w.heap.size)] 50))) := (al_b w _).trans ((al_b _ _).mono (by simp))
  have hmm := @run_makeMap Tryz.prog
  go_enter Tryz.func4, Tryz.ntmps4
  go_wp2
  go_ret
  exact ⟨_, _, rfl, HL.out, HB.out⟩
/-- A name, folded. -/
def fldB (n : ByteArray) : ByteArray := str (foldL n.data.toList)
set_option maxRecDepth 100000 in
set_option maxHeartbeats 1000000 in
theorem find_any {base : Nat} {w : World} {s m : Nat} {E : List (ByteArray × Nat)} {X : Nat → Kp} (h : StV base w s m E X) (n : ByteArray) (hn : n.size ≤ 1000000) (hT : UT w) :
    Calls Tryz.prog 29 #[stP s, .string n] w fun e w' => e = .returned (ptS (lkS E (fldB n))) ∧ Below w.heap.size w w' := by
  have HC : Hid (∀ W, Below w.heap.size w W → W.cell? ⟨s, 0, none⟩ = some (.map (some m)) ∧ (Instr.lookup 48 (.map (some m)) (.string (fldB n)) false).run Tryz.prog W = .ok (ptS (lkS E (fldB n))) W) := fun W hb => ⟨(h.below hb).cell, (h.below hb).mp.look _⟩
  have HF : Hid (∀ W, Below w.heap.size w W → Calls Tryz.prog 56 #[.string n] W fun e w' => e = .returned (.string (fldB n)) ∧ Below W.heap.size W w') := fun W hb => fold_any n W hn (Utf8Tabs_below hT hb)
  clear h hn hT
  generalize fldB n = k at *
  generalize hP : ptS (lkS E k) = P at *
  clear hP
  go_enter Tryz.func29, Tryz.ntmps29
  go_wp2_with fail
  refine wp_region_quiet (C := fun w' => Below w.heap.size w w') (by kernel_rfl) (by kernel_rfl) ((Below.refl _ _).drew) ?_
  dsimp only
  repeat (first
    | go_big_quiet_skip
    | (go_big_quiet_want
       apply Exists.intro
       refine ⟨fun W' hW' => ?_, ?_⟩
       · have hw : Below w.heap.size w W' := hW'
         obtain ⟨c0, hl⟩ := HC.out W' hw
         go_simp
         first
           | done
           | rfl
           | (go_at_call 56; (with_reducible refine Calls.mono (HF.out W' hw) ?_); rintro e w'' ⟨rfl, hb⟩; exact ⟨rfl, hw.trans (hb.mono hw.size)⟩)
       go_big_quiet_on
       try simp only [Act.put, List.setIfInBounds_toArray, List.set_cons_zero, List.set_cons_succ]))
  refine wpQuiet_nil ?_
  intro w2 hqw2
  have H2 : Hid (Below w.heap.size w w2) := hqw2
  clear hqw2
  go_wp2
  go_ret
  exact ⟨rfl, H2.out⟩
end Go.Proofs.YtlndgepoekllkaaGreatDoor
/- A store into which something is put: plainly. -/
namespace Go.Proofs.YtlndgepoekllkaaGreatDoor
open Go.RowKit Go.ChangeMaps

/-- What a call that writes only the blocks F leaves. -/
structure Stp (w : World) (F F' : Nat → Prop) (w' : World) : Prop where
  os : w'.os = w.os
  tape : w'.tape = w.tape
  output : w'.output = w.output
  size : w.heap.size ≤ w'.heap.size
  block : ∀ k, k < w.heap.size → ¬ F k → w'.heap[k]? = w.heap[k]?
  fp : ∀ k, F' k → F k ∨ w.heap.size ≤ k
theorem Stp.of {w w' : World} (F : Nat → Prop) (hb : Below w.heap.size w w') : Stp w F F w' := ⟨hb.os, hb.tape, hb.output, hb.size, fun k hk _ => hb.block k hk, fun _ h => .inl h⟩
theorem Stp.trans {w w1 w2 : World} {F F1 F2 : Nat → Prop} (h : Stp w F F1 w1) (k : Stp w1 F1 F2 w2) : Stp w F F2 w2 :=
  ⟨k.os.trans h.os, k.tape.trans h.tape, k.output.trans h.output, Nat.le_trans h.size k.size, fun i hi hn => (k.block i (Nat.lt_of_lt_of_le hi h.size) (fun hf => by
    rcases h.fp i hf with hf | hf
    · exact hn hf
    · omega)).trans (h.block i hi hn), fun i hf => by
    rcases k.fp i hf with hf | hf
    · exact h.fp i hf
    · exact .inr (Nat.le_trans h.size hf)⟩
theorem Stp.below {base : Nat} {w w' : World} {F F' : Nat → Prop} (h : Stp w F F' w') (hs : base ≤ w.heap.size) (hf : ∀ k, F k → base ≤ k) : Below base w w' :=
  ⟨h.os, h.tape, h.output, h.size, fun k hk => h.block k (Nat.lt_of_lt_of_le hk hs) fun hk' => by have := hf k hk'; omega⟩
theorem Stp.far {w w' : World} {F F' : Nat → Prop} (h : Stp w F F' w') {k : Nat} (hk : k < w.heap.size) (hn : ¬ F k) : w'.heap[k]? = w.heap[k]? ∧ ¬ F' k := ⟨h.block k hk hn, fun hf => by
  rcases h.fp k hf with hf | hf
  · exact hn hf
  · omega⟩
/-- The blocks of a store that its calls write. -/
def SF (m : Nat) (E : List (ByteArray × Nat)) (k : Nat) : Prop := k = m ∨ k ∈ E.map (·.2)
def upX (X : Nat → Kp) (g : Nat) (x : Kp) : Nat → Kp := fun b => if b = g then x else X b
def zW : Nat → Bool := fun _ => false
theorem own_keep {w w' : World} {base : Nat} {e : TypeId} {sz : Nat} {v : Value} {n : Nat} {xs : List Value} (h : w.ownsRow base e sz v n xs) (hk : ∀ (g : Nat) (C : Array Value) (z : Nat × Nat), w.heap[g]? = some (Obj.cells C e z) → w'.heap[g]? = w.heap[g]?) : w'.ownsRow base e sz v n xs :=
  ⟨h.1, h.2.imp id fun ⟨g, cap, cur, a, b, c, r⟩ => ⟨g, cap, cur, a, b, (hk g _ _ c).trans c, r⟩⟩
theorem KpV.keep {base : Nat} {w w' : World} {g : Nat} {x : Kp} (h : KpV base w g x) (hg : w'.heap[g]? = w.heap[g]?) (hr : ∀ (j : Nat) (C : Array Value) (z : Nat × Nat), (w.heap[j]? = some (Obj.cells C 94 z) ∨ w.heap[j]? = some (Obj.cells C 9 z)) → w'.heap[j]? = w.heap[j]?) : KpV base w' g x := by
  obtain ⟨h1, vo, va, vc, h2, h3, h4, h5⟩ := h
  exact ⟨h1, vo, va, vc, hg.trans h2, own_keep h3 fun j C z hc => hr j C z (.inl hc), own_keep h4 fun j C z hc => hr j C z (.inl hc), own_keep h5 fun j C z hc => hr j C z (.inr hc)⟩
theorem stS_mem {E : List (ByteArray × Nat)} {k : ByteArray} {g : Nat} {p : ByteArray × Nat} (h : p ∈ stS E k g) : p.2 = g ∨ p ∈ E := by
  unfold stS at h
  split at h
  · rcases List.mem_append.1 h with h | h
    · exact .inr h
    · rw [List.mem_singleton] at h
      exact .inl (by rw [h])
  · obtain ⟨q, hq, rfl⟩ := List.mem_map.1 h
    split
    · exact .inl rfl
    · exact .inr hq
theorem map_nd {k : ByteArray} {g : Nat} : ∀ (E : List (ByteArray × Nat)), (E.map (·.1)).Nodup → (E.map (·.2)).Nodup → g ∉ E.map (·.2) → ((E.map fun p => if p.1 = k then (k, g) else p).map (·.2)).Nodup
  | [], _, _, _ => List.nodup_nil
  | p :: E, h1, h2, h3 => by
    rw [List.map_cons, List.nodup_cons] at h1 h2
    rw [List.map_cons, List.mem_cons, not_or] at h3
    rw [List.map_cons, List.map_cons, List.nodup_cons]
    by_cases hp : p.1 = k
    · have he : (E.map fun p => if p.1 = k then (k, g) else p) = E := by
        refine (List.map_congr_left fun q hq => ?_).trans (List.map_id E)
        rw [if_neg fun e => h1.1 (by rw [hp, ← e]; exact List.mem_map.2 ⟨q, hq, rfl⟩)]
        rfl
      rw [he, if_pos hp]
      exact ⟨h3.2, h2.2⟩
    · rw [if_neg hp]
      refine ⟨fun hm => ?_, map_nd E h1.2 h2.2 h3.2⟩
      obtain ⟨q, hq, e⟩ := List.mem_map.1 hm
      obtain ⟨r, hr, rfl⟩ := List.mem_map.1 hq
      split at e
      · exact h3.1 e
      · exact h2.1 (by rw [← e]; exact List.mem_map.2 ⟨r, hr, rfl⟩)
theorem StV.put {base : Nat} {w w1 : World} {s m : Nat} {E : List (ByteArray × Nat)} {X : Nat → Kp} (h : StV base w s m E X) {k : ByteArray} {g : Nat} {x : Kp} (hx : KpV base w g x) (hg : g ∉ E.map (·.2)) (hgr : w.grownBy w1 (some m)) (hm : MapS w1 m (stS E k g)) : StV base w1 s m (stS E k g) (upX X g x) := by
  obtain ⟨⟨es, c, hb, -⟩, hkn⟩ := h.mp
  have ne : ∀ (j : Nat) (C : Array Value) (ty : TypeId) (z : Nat × Nat), w.heap[j]? = some (Obj.cells C ty z) → w1.heap[j]? = w.heap[j]? := fun j C ty z hj => hgr.block j (Array.getElem?_eq_some_iff.1 hj).1 fun e => by
    rw [Option.some.inj e, hb] at hj
    cases hj
  have kk : ∀ g' x', KpV base w g' x' → KpV base w1 g' x' := fun g' x' h' => h'.keep (by obtain ⟨-, vo, va, vc, h2, -⟩ := h'; exact ne _ _ _ _ h2) fun j C z hj => by
    rcases hj with hj | hj
    · exact ne _ _ _ _ hj
    · exact ne _ _ _ _ hj
  refine ⟨h.lo, h.lm, (ne _ _ _ _ h.blk).trans h.blk, hm, fun p hp => ?_, ?_⟩
  · unfold upX
    by_cases hpg : p.2 = g
    · rw [if_pos hpg, hpg]
      exact kk _ _ hx
    · rw [if_neg hpg]
      exact kk _ _ (h.kp p ((stS_mem hp).resolve_left hpg))
  · unfold stS
    split
    · rw [List.map_append, List.nodup_append]
      refine ⟨h.nd, by simp, fun a ha b hb' e => ?_⟩
      simp at hb'
      exact hg (by rw [← hb', ← e]; exact ha)
    · exact map_nd E hkn h.nd hg
theorem StV.lt {base : Nat} {w : World} {s m : Nat} {E : List (ByteArray × Nat)} {X : Nat → Kp} (h : StV base w s m E X) {k : Nat} (hk : SF m E k) : base ≤ k ∧ k < w.heap.size := by
  rcases hk with rfl | hk
  · exact ⟨h.lm, h.mp.lt⟩
  · obtain ⟨p, hp, rfl⟩ := List.mem_map.1 hk
    obtain ⟨h1, vo, va, vc, h2, -⟩ := h.kp p hp
    exact ⟨h1, (Array.getElem?_eq_some_iff.1 h2).1⟩
theorem put_stp {w w1 : World} {m : Nat} (hgr : w.grownBy w1 (some m)) {w0 : World} (h0 : Below w0.heap.size w0 w) : Stp w0 (fun k => k = m) (fun k => k = m) w1 :=
  ⟨hgr.os.trans h0.os, hgr.tape.trans h0.tape, hgr.output.trans h0.output, Nat.le_trans h0.size hgr.size, fun j hj hn => (hgr.block j (Nat.lt_of_lt_of_le hj h0.size) fun e => hn (Option.some.inj e)).trans (h0.block j hj), fun _ h => .inl h⟩
/-- All that is cells stays. -/
def CKp (w w' : World) : Prop := w.heap.size ≤ w'.heap.size ∧ ∀ (j : Nat) (C : Array Value) (ty : TypeId) (z : Nat × Nat), w.heap[j]? = some (Obj.cells C ty z) → w'.heap[j]? = w.heap[j]?
theorem CKp.of {w w' : World} (h : Below w.heap.size w w') : CKp w w' := ⟨h.size, fun j _ _ _ hj => h.block j (Array.getElem?_eq_some_iff.1 hj).1⟩
theorem CKp.trans {w w1 w2 : World} (h : CKp w w1) (k : CKp w1 w2) : CKp w w2 := ⟨Nat.le_trans h.1 k.1, fun j C ty z hj => (k.2 j C ty z ((h.2 j C ty z hj).trans hj)).trans (h.2 j C ty z hj)⟩
theorem CKp.stp {w w' : World} {base s m : Nat} {E : List (ByteArray × Nat)} {X : Nat → Kp} (h : StV base w s m E X) (hs : Stp w (fun k => k = m) (fun k => k = m) w') : CKp w w' := by
  obtain ⟨⟨es, c, hm, -⟩, -⟩ := h.mp
  exact ⟨hs.size, fun j C ty z hj => hs.block j (Array.getElem?_eq_some_iff.1 hj).1 fun e => by rw [e, hm] at hj; cases hj⟩
theorem CKp.cell {w w' : World} (h : CKp w w') {g j : Nat} {v : Value} (hc : w.cell? ⟨g, j, none⟩ = some v) : w'.cell? ⟨g, j, none⟩ = some v := by
  unfold World.cell? at hc ⊢
  dsimp only at hc ⊢
  split at hc
  · next C ty z hg =>
    rw [h.2 _ _ _ _ hg, hg]
    exact hc
  · cases hc
theorem CKp.row {w w' : World} (h : CKp w w') {sz n : Nat} {v : Value} {xs : List Value} (hr : IsRow w sz v n xs) : IsRow w' sz v n xs := by
  refine ⟨hr.1, ?_⟩
  rcases hr.2 with h0 | ⟨b, off, cap, rfl, hlt, hc, hm, hcell⟩
  · exact .inl h0
  · exact .inr ⟨b, off, cap, rfl, Nat.lt_of_lt_of_le hlt h.1, hc, hm, fun j u hu => h.cell (hcell j u hu)⟩
theorem CKp.ty {w w' : World} (h : CKp w w') {t : Ty} {vo va vc : Value} (hr : IsTy w t vo va vc) : IsTy w' t vo va vc := ⟨h.row hr.1, h.row hr.2.1, h.row hr.2.2⟩
/-- A store stays where a block of another kind is written. -/
theorem StV.far {base : Nat} {w w' : World} {s m : Nat} {E : List (ByteArray × Nat)} {X : Nat → Kp} (h : StV base w s m E X) {g : Nat} {C : Array Value} {ty : TypeId} {z : Nat × Nat} (hg : w.heap[g]? = some (Obj.cells C ty z)) (h1 : ty ≠ 50) (h2 : ty ≠ 87) (h3 : ty ≠ 94) (h4 : ty ≠ 9) (hk : ∀ j, j ≠ g → w'.heap[j]? = w.heap[j]?) : StV base w' s m E X := by
  have ne : ∀ (j : Nat) (C' : Array Value) (ty' : TypeId) (z' : Nat × Nat), w.heap[j]? = some (Obj.cells C' ty' z') → ty ≠ ty' → w'.heap[j]? = w.heap[j]? := fun j C' ty' z' hj hne => hk j fun e => by
    rw [e, hg] at hj
    exact hne (Obj.cells.inj (Option.some.inj hj)).2.1
  have hm : m ≠ g := fun e => by
    obtain ⟨⟨es, c, hm, -⟩, -⟩ := h.mp
    rw [e, hg] at hm
    cases hm
  refine ⟨h.lo, h.lm, (ne _ _ _ _ h.blk h1).trans h.blk, h.mp.keep (hk m hm), fun p hp => (h.kp p hp).keep ?_ fun j C' z' hj => ?_, h.nd⟩
  · obtain ⟨-, vo, va, vc, hb, -⟩ := h.kp p hp
    exact ne _ _ _ _ hb h2
  · rcases hj with hj | hj
    · exact ne _ _ _ _ hj h3
    · exact ne _ _ _ _ hj h4
end Go.Proofs.YtlndgepoekllkaaGreatDoor
/- What a call that has but drawn and grown leaves. -/
namespace Go.Proofs.YtlndgepoekllkaaGreatDoor
open Go.RowKit

/-- What leaves all there was, and has asked the tape no less often, has but drawn and grown. -/
theorem grow_of {w w' : World} (h : Below w.heap.size w w') (hd : w.drawn ≤ w'.drawn) : ∃ q os, w' = Sort.grow (w.drewN q) os := by
  refine ⟨w'.drawn - w.drawn, w'.heap.extract w.heap.size w'.heap.size, ?_⟩
  have h1 := h.os
  have h2 := h.tape
  have h3 := h.output
  have h4 := h.size
  have h5 := h.block
  obtain ⟨hp, tp, dr, os, ou⟩ := w
  obtain ⟨hp', tp', dr', os', ou'⟩ := w'
  dsimp only at *
  subst h1 h2 h3
  have e1 : hp' = hp ++ hp'.extract hp.size hp'.size := by
    apply Array.ext_getElem?
    intro i
    by_cases hi : i < hp.size
    · rw [Array.getElem?_append_left hi, h5 i hi]
    · rw [Array.getElem?_append_right (by omega), Array.getElem?_extract]
      by_cases h2 : i < hp'.size
      · rw [if_pos (by omega)]
        congr 1
        omega
      · rw [if_neg (by omega), Array.getElem?_eq_none (by omega)]
  have e2 : dr' = dr + (dr' - dr) := by omega
  unfold Sort.grow World.drewN
  dsimp only
  congr
end Go.Proofs.YtlndgepoekllkaaGreatDoor
/- The shelf's contracts of slices.SortFunc and Collect at strings and of maps.Keys, at this program, laid by the shelf's tool in plain words. -/
namespace Go.Proofs
open Go.Shelf
def Tryz.sortSt_ren : Go.Shelf.Ren := ⟨fun | 6 => 79 | 15 => 98 | 14 => 97 | 28 => 120 | 29 => 121 | 20 => 112 | 21 => 113 | 22 => 114 | 23 => 115 | 24 => 116 | 25 => 117 | 26 => 118 | 27 => 119 | 46 => 128 | 47 => 129 | 48 => 130 | 49 => 131 | 50 => 132 | 57 => 134 | n => n, fun | 22 => 31 | 24 => 9 | 25 => 111 | 3 => 3 | 39 => 141 | 0 => 0 | 53 => 166 | 55 => 168 | 4 => 4 | 46 => 159 | 45 => 158 | 50 => 163 | 5 => 5 | 9 => 9 | 66 => 172 | 70 => 176 | 76 => 179 | 77 => 180 | n => n, fun | n => n⟩
theorem Tryz.sortSt : Go.Proofs.SlLaysF.n6 Tryz.prog Tryz.sortSt_ren := {
  mixed := by kernel_rfl
  f6 := ⟨Tryz.f79.name, by decide, Tryz.func79.trans (congrArg some (by kernel_rfl))⟩
  f14 := ⟨Tryz.f97.name, by decide, Tryz.func97.trans (congrArg some (by kernel_rfl))⟩
  f15 := Tryz.func98.trans (congrArg some (by kernel_rfl))
  f20 := ⟨Tryz.f112.name, by decide, Tryz.func112.trans (congrArg some (by kernel_rfl))⟩
  f21 := ⟨Tryz.f113.name, by decide, Tryz.func113.trans (congrArg some (by kernel_rfl))⟩
  f22 := ⟨Tryz.f114.name, by decide, Tryz.func114.trans (congrArg some (by kernel_rfl))⟩
  f23 := ⟨Tryz.f115.name, by decide, Tryz.func115.trans (congrArg some (by kernel_rfl))⟩
  f24 := ⟨Tryz.f116.name, by decide, Tryz.func116.trans (congrArg some (by kernel_rfl))⟩
  f25 := ⟨Tryz.f117.name, by decide, Tryz.func117.trans (congrArg some (by kernel_rfl))⟩
  f26 := ⟨Tryz.f118.name, by decide, Tryz.func118.trans (congrArg some (by kernel_rfl))⟩
  f27 := ⟨Tryz.f119.name, by decide, Tryz.func119.trans (congrArg some (by kernel_rfl))⟩
  f28 := Tryz.func120.trans (congrArg some (by kernel_rfl))
  f29 := Tryz.func121.trans (congrArg some (by kernel_rfl))
  f46 := ⟨Tryz.f128.name, by decide, Tryz.func128.trans (congrArg some (by kernel_rfl))⟩
  f47 := Tryz.func129.trans (congrArg some (by kernel_rfl))
  f48 := Tryz.func130.trans (congrArg some (by kernel_rfl))
  f49 := ⟨Tryz.f131.name, by decide, Tryz.func131.trans (congrArg some (by kernel_rfl))⟩
  f50 := ⟨Tryz.f132.name, by decide, Tryz.func132.trans (congrArg some (by kernel_rfl))⟩
  f57 := ⟨Tryz.f134.name, by decide, Tryz.func134.trans (congrArg some (by kernel_rfl))⟩
  t0 := Tryz.underlying0
  a0 := Tryz.isAgg0
  z0 := Tryz.sizeOf0
  v0 := Tryz.zeroValue0
  t3 := Tryz.underlying3
  a3 := Tryz.isAgg3
  z3 := Tryz.sizeOf3
  v3 := Tryz.zeroValue3
  t4 := Tryz.underlying4
  a4 := Tryz.isAgg4
  z4 := Tryz.sizeOf4
  v4 := Tryz.zeroValue4
  t5 := Tryz.underlying5
  a5 := Tryz.isAgg5
  z5 := Tryz.sizeOf5
  v5 := Tryz.zeroValue5
  t9 := Tryz.underlying9
  a9 := Tryz.isAgg9
  z9 := Tryz.sizeOf9
  v9 := Tryz.zeroValue9
  t22 := Tryz.underlying31
  a22 := Tryz.isAgg31
  z22 := Tryz.sizeOf31
  v22 := Tryz.zeroValue31
  a24 := Tryz.isAgg9
  z24 := Tryz.sizeOf9
  t25 := Tryz.underlying111
  a25 := Tryz.isAgg111
  z25 := Tryz.sizeOf111
  v25 := Tryz.zeroValue111
  t39 := Tryz.underlying141
  a39 := Tryz.isAgg141
  z39 := Tryz.sizeOf141
  v39 := Tryz.zeroValue141
  t45 := Tryz.underlying158
  a45 := Tryz.isAgg158
  z45 := Tryz.sizeOf158
  v45 := Tryz.zeroValue158
  t46 := Tryz.underlying159
  a46 := Tryz.isAgg159
  z46 := Tryz.sizeOf159
  v46 := Tryz.zeroValue159
  t50 := Tryz.underlying163
  a50 := Tryz.isAgg163
  z50 := Tryz.sizeOf163
  v50 := Tryz.zeroValue163
  t53 := Tryz.underlying166
  a53 := Tryz.isAgg166
  z53 := Tryz.sizeOf166
  v53 := Tryz.zeroValue166
  t55 := Tryz.underlying168
  a55 := Tryz.isAgg168
  z55 := Tryz.sizeOf168
  v55 := Tryz.zeroValue168
  t66 := Tryz.underlying172
  a66 := Tryz.isAgg172
  z66 := Tryz.sizeOf172
  v66 := Tryz.zeroValue172
  t70 := Tryz.underlying176
  a70 := Tryz.isAgg176
  z70 := Tryz.sizeOf176
  v70 := Tryz.zeroValue176
  t76 := Tryz.underlying179
  a76 := Tryz.isAgg179
  z76 := Tryz.sizeOf179
  v76 := Tryz.zeroValue179
  t77 := Tryz.underlying180
  a77 := Tryz.isAgg180
  z77 := Tryz.sizeOf180
  v77 := Tryz.zeroValue180 }
def Tryz.keysK_ren : Go.Shelf.Ren := ⟨fun | 7 => 54 | 10 => 80 | n => n, fun | 23 => 48 | 26 => 9 | 3 => 82 | 28 => 109 | 0 => 0 | 27 => 108 | 33 => 129 | 4 => 4 | n => n, fun | n => n⟩
theorem Tryz.keysK : Go.Proofs.SlLaysZ.n7 Tryz.prog Tryz.keysK_ren := {
  mixed := by kernel_rfl
  f7 := ⟨Tryz.f54.name, by decide, Tryz.func54.trans (congrArg some (by kernel_rfl))⟩
  f10 := ⟨Tryz.f80.name, by decide, Tryz.func80.trans (congrArg some (by kernel_rfl))⟩
  t0 := Tryz.underlying0
  a0 := Tryz.isAgg0
  z0 := Tryz.sizeOf0
  v0 := Tryz.zeroValue0
  t4 := Tryz.underlying4
  a4 := Tryz.isAgg4
  z4 := Tryz.sizeOf4
  v4 := Tryz.zeroValue4
  t23 := Tryz.underlying48
  a23 := Tryz.isAgg48
  z23 := Tryz.sizeOf48
  v23 := Tryz.zeroValue48
  t26 := Tryz.underlying9
  a26 := Tryz.isAgg9
  z26 := Tryz.sizeOf9
  v26 := Tryz.zeroValue9
  t27 := Tryz.underlying108
  a27 := Tryz.isAgg108
  z27 := Tryz.sizeOf108
  v27 := Tryz.zeroValue108
  t28 := Tryz.underlying109
  a28 := Tryz.isAgg109
  z28 := Tryz.sizeOf109
  v28 := Tryz.zeroValue109
  t33 := Tryz.underlying129
  a33 := Tryz.isAgg129
  z33 := Tryz.sizeOf129
  v33 := Tryz.zeroValue129 }
def Tryz.collS_ren : Go.Shelf.Ren := ⟨fun | 8 => 78 | 11 => 96 | n => n, fun | 26 => 9 | 28 => 109 | 24 => 31 | 0 => 0 | 33 => 129 | 4 => 4 | n => n, fun | n => n⟩
theorem Tryz.collS : Go.Proofs.SlLaysZ.n8 Tryz.prog Tryz.collS_ren := {
  mixed := by kernel_rfl
  f8 := ⟨Tryz.f78.name, by decide, Tryz.func78.trans (congrArg some (by kernel_rfl))⟩
  f11 := ⟨Tryz.f96.name, by decide, Tryz.func96.trans (congrArg some (by kernel_rfl))⟩
  t0 := Tryz.underlying0
  a0 := Tryz.isAgg0
  z0 := Tryz.sizeOf0
  v0 := Tryz.zeroValue0
  t24 := Tryz.underlying31
  a24 := Tryz.isAgg31
  z24 := Tryz.sizeOf31
  v24 := Tryz.zeroValue31
  t26 := Tryz.underlying9
  a26 := Tryz.isAgg9
  z26 := Tryz.sizeOf9
  v26 := Tryz.zeroValue9
  t28 := Tryz.underlying109
  a28 := Tryz.isAgg109
  z28 := Tryz.sizeOf109
  v28 := Tryz.zeroValue109
  i26 := by kernel_rfl }
end Go.Proofs
