/- A store, plainly, and as it lies in memory; store's New and find: walks. -/
import Derived.Test.YthdbnlpbidkojaaGreatDoorZk11
import Derived.Test.YthdbnlpbidkojaaGreatDoorZk8
import Derived.Deep.RegionHeld3
namespace Go.Proofs.YthdbnlpbidkojaaGreatDoor
open Go.RowKit Go.ChangeMaps

/-- What is kept: a type, whether it is sure, for whom it waits. -/
structure Kp where
  t : Ty
  s : Bool
  f : Nat → Bool
abbrev kpA (x : Kp) (vo va vc : Value) : Array Value := #[.string x.t.n, .string x.t.p, vo, va, vc, .int .i64 x.t.nd, .int .i64 x.t.lf, .int .i64 x.t.sq, .bool x.s, .bool (x.f 0), .bool (x.f 1), .bool (x.f 2), .bool (x.f 3), .bool (x.f 4), .bool (x.f 5), .bool (x.f 6), .bool (x.f 7), .bool (x.f 8), .bool (x.f 9), .bool (x.f 10), .bool (x.f 11), .bool (x.f 12), .bool (x.f 13), .bool (x.f 14), .bool (x.f 15)]
def KpV (base : Nat) (w : World) (g : Nat) (x : Kp) : Prop := base ≤ g ∧ ∃ vo va vc, w.heap[g]? = some (.cells (kpA x vo va vc) 91 (0, 0)) ∧ OwnTy base w x.t vo va vc
abbrev stP (s : Nat) : Value := .pointer (some ⟨s, 0, none⟩)
theorem own_below {w w' : World} {base : Nat} {e : TypeId} {sz : Nat} {v : Value} {n : Nat} {xs : List Value} (h : w.ownsRow base e sz v n xs) (hb : Below w.heap.size w w') : w'.ownsRow base e sz v n xs :=
  ⟨h.1, h.2.imp id fun ⟨g, cap, cur, a, b, c, r⟩ => ⟨g, cap, cur, a, b, (hb.block g (Array.getElem?_eq_some_iff.1 c).1).trans c, r⟩⟩
theorem OwnTy.below {base : Nat} {w w' : World} {t : Ty} {vo va vc : Value} (h : OwnTy base w t vo va vc) (hb : Below w.heap.size w w') : OwnTy base w' t vo va vc := ⟨own_below h.1 hb, own_below h.2.1 hb, own_below h.2.2 hb⟩
theorem KpV.below {base : Nat} {w w' : World} {g : Nat} {x : Kp} (h : KpV base w g x) (hb : Below w.heap.size w w') : KpV base w' g x := by
  obtain ⟨h1, vo, va, vc, h2, h3⟩ := h
  exact ⟨h1, vo, va, vc, (hb.block g (Array.getElem?_eq_some_iff.1 h2).1).trans h2, h3.below hb⟩
/-- The store that a pointer to block s means: its map in block m, what is kept in the blocks of E. -/
structure StV (base : Nat) (w : World) (s m : Nat) (E : List (ByteArray × Nat)) (X : Nat → Kp) : Prop where
  lo : base ≤ s
  lm : base ≤ m
  blk : w.heap[s]? = some (.cells #[.map (some m)] 65 (0, 0))
  mp : MapS w m E
  kp : ∀ p ∈ E, KpV base w p.2 (X p.2)
  nd : (E.map (·.2)).Nodup
theorem StV.below {base : Nat} {w w' : World} {s m : Nat} {E : List (ByteArray × Nat)} {X : Nat → Kp} (h : StV base w s m E X) (hb : Below w.heap.size w w') : StV base w' s m E X :=
  ⟨h.lo, h.lm, (hb.block s (Array.getElem?_eq_some_iff.1 h.blk).1).trans h.blk, h.mp.keep (hb.block m h.mp.lt), fun p hp => (h.kp p hp).below hb, h.nd⟩
theorem StV.cell {base : Nat} {w : World} {s m : Nat} {E : List (ByteArray × Nat)} {X : Nat → Kp} (h : StV base w s m E X) : w.cell? ⟨s, 0, none⟩ = some (.map (some m)) := by
  rw [Lib.cell_of_heap h.blk]; rfl
theorem st_new {w' : World} (base : Nat) (s m : Nat) (X : Nat → Kp) (hs : base ≤ s) (hm : base ≤ m) (h1 : w'.heap[s]? = some (.cells #[.map (some m)] 65 (0, 0))) (h2 : w'.heap[m]? = some (.map #[] 0)) : StV base w' s m [] X :=
  ⟨hs, hm, h1, MapS.new h2, fun p hp => absurd hp (by simp), List.nodup_nil⟩
theorem storeNew_any (w : World) (X : Nat → Kp) : Calls Tryz.prog 6 #[] w fun e w' => ∃ s m, e = .returned (stP s) ∧ StV w.heap.size w' s m [] X ∧ Below w.heap.size w w' := by
  have HL : Hid (StV w.heap.size ((w.alloc (.map #[] 0)).alloc (.cells #[.map (some w.heap.size)] 65)) (w.heap.size + 1) w.heap.size [] X) := by
    refine st_new _ _ _ X (by omega) (Nat.le_refl _) ?_ ?_
    · show ((w.heap.push _).push _)[w.heap.size + 1]? = _
      rw [Array.getElem?_push, if_pos (by simp)]
    · show ((w.heap.push _).push _)[w.heap.size]? = _
      rw [Array.getElem?_push, if_neg (by simp), Array.getElem?_push, if_pos rfl]
  have HB : Hid (Below w.heap.size w ((w.alloc (.map #[] 0)).alloc (.cells #[.map (some w.heap.size)] 65))) := (al_b w _).trans ((al_b _ _).mono (by simp))
  have hmm := @run_makeMap Tryz.prog
  go_enter Tryz.func6, Tryz.ntmps6
  go_wp2
  go_ret
  exact ⟨_, _, rfl, HL.out, HB.out⟩
/-- A name, folded. -/
def fldB (n : ByteArray) : ByteArray := str (foldL n.data.toList)
set_option maxRecDepth 100000 in
set_option maxHeartbeats 1000000 in
theorem find_any {base : Nat} {w : World} {s m : Nat} {E : List (ByteArray × Nat)} {X : Nat → Kp} (h : StV base w s m E X) (n : ByteArray) (hn : n.size ≤ 1000000) (hT : UT w) :
    Calls Tryz.prog 35 #[stP s, .string n] w fun e w' => e = .returned (ptS (lkS E (fldB n))) ∧ Below w.heap.size w w' := by
  have HC : Hid (∀ W, Below w.heap.size w W → W.cell? ⟨s, 0, none⟩ = some (.map (some m)) ∧ (Instr.lookup 63 (.map (some m)) (.string (fldB n)) false).run Tryz.prog W = .ok (ptS (lkS E (fldB n))) W) := fun W hb => ⟨(h.below hb).cell, (h.below hb).mp.look _⟩
  have HF : Hid (∀ W, Below w.heap.size w W → Calls Tryz.prog 66 #[.string n] W fun e w' => e = .returned (.string (fldB n)) ∧ Below W.heap.size W w') := fun W hb => fold_any n W hn (Utf8Tabs_below hT hb)
  clear h hn hT
  generalize fldB n = k at *
  generalize hP : ptS (lkS E k) = P at *
  clear hP
  go_enter Tryz.func35, Tryz.ntmps35
  go_wp2_with fail
  refine wp_region_quiet (C := fun w' => Below w.heap.size w w') (by kernel_rfl) (by kernel_rfl) ((Below.refl _ _).drew) ?_
  dsimp only
  repeat (first
    | go_big_quiet_skip
    | (go_big_quiet_want
       apply Exists.intro
       refine ⟨fun W' hW' => ?_, ?_⟩
       · have hw : Below w.heap.size w W' := hW'
         obtain ⟨c0, hl⟩ := HC.out W' hw
         go_simp
         first
           | done
           | rfl
           | (go_at_call 66; (with_reducible refine Calls.mono (HF.out W' hw) ?_); rintro e w'' ⟨rfl, hb⟩; exact ⟨rfl, hw.trans (hb.mono hw.size)⟩)
       go_big_quiet_on
       try simp only [Act.put, List.setIfInBounds_toArray, List.set_cons_zero, List.set_cons_succ]))
  refine wpQuiet_nil ?_
  intro w2 hqw2
  have H2 : Hid (Below w.heap.size w w2) := hqw2
  clear hqw2
  go_wp2
  go_ret
  exact ⟨rfl, H2.out⟩
end Go.Proofs.YthdbnlpbidkojaaGreatDoor
/- A store into which something is put: plainly. -/
namespace Go.Proofs.YthdbnlpbidkojaaGreatDoor
open Go.RowKit Go.ChangeMaps

/-- What a call that writes only the blocks F leaves. -/
structure Stp (w : World) (F F' : Nat → Prop) (w' : World) : Prop where
  os : w'.os = w.os
  tape : w'.tape = w.tape
  output : w'.output = w.output
  size : w.heap.size ≤ w'.heap.size
  block : ∀ k, k < w.heap.size → ¬ F k → w'.heap[k]? = w.heap[k]?
  fp : ∀ k, F' k → F k ∨ w.heap.size ≤ k
theorem Stp.of {w w' : World} (F : Nat → Prop) (hb : Below w.heap.size w w') : Stp w F F w' := ⟨hb.os, hb.tape, hb.output, hb.size, fun k hk _ => hb.block k hk, fun _ h => .inl h⟩
theorem Stp.trans {w w1 w2 : World} {F F1 F2 : Nat → Prop} (h : Stp w F F1 w1) (k : Stp w1 F1 F2 w2) : Stp w F F2 w2 :=
  ⟨k.os.trans h.os, k.tape.trans h.tape, k.output.trans h.output, Nat.le_trans h.size k.size, fun i hi hn => (k.block i (Nat.lt_of_lt_of_le hi h.size) (fun hf => by
    rcases h.fp i hf with hf | hf
    · exact hn hf
    · omega)).trans (h.block i hi hn), fun i hf => by
    rcases k.fp i hf with hf | hf
    · exact h.fp i hf
    · exact .inr (Nat.le_trans h.size hf)⟩
theorem Stp.below {base : Nat} {w w' : World} {F F' : Nat → Prop} (h : Stp w F F' w') (hs : base ≤ w.heap.size) (hf : ∀ k, F k → base ≤ k) : Below base w w' :=
  ⟨h.os, h.tape, h.output, h.size, fun k hk => h.block k (Nat.lt_of_lt_of_le hk hs) fun hk' => by have := hf k hk'; omega⟩
theorem Stp.far {w w' : World} {F F' : Nat → Prop} (h : Stp w F F' w') {k : Nat} (hk : k < w.heap.size) (hn : ¬ F k) : w'.heap[k]? = w.heap[k]? ∧ ¬ F' k := ⟨h.block k hk hn, fun hf => by
  rcases h.fp k hf with hf | hf
  · exact hn hf
  · omega⟩
/-- The blocks of a store that its calls write. -/
def SF (m : Nat) (E : List (ByteArray × Nat)) (k : Nat) : Prop := k = m ∨ k ∈ E.map (·.2)
def upX (X : Nat → Kp) (g : Nat) (x : Kp) : Nat → Kp := fun b => if b = g then x else X b
def zW : Nat → Bool := fun _ => false
theorem own_keep {w w' : World} {base : Nat} {e : TypeId} {sz : Nat} {v : Value} {n : Nat} {xs : List Value} (h : w.ownsRow base e sz v n xs) (hk : ∀ (g : Nat) (C : Array Value) (z : Nat × Nat), w.heap[g]? = some (Obj.cells C e z) → w'.heap[g]? = w.heap[g]?) : w'.ownsRow base e sz v n xs :=
  ⟨h.1, h.2.imp id fun ⟨g, cap, cur, a, b, c, r⟩ => ⟨g, cap, cur, a, b, (hk g _ _ c).trans c, r⟩⟩
theorem KpV.keep {base : Nat} {w w' : World} {g : Nat} {x : Kp} (h : KpV base w g x) (hg : w'.heap[g]? = w.heap[g]?) (hr : ∀ (j : Nat) (C : Array Value) (z : Nat × Nat), (w.heap[j]? = some (Obj.cells C 95 z) ∨ w.heap[j]? = some (Obj.cells C 9 z)) → w'.heap[j]? = w.heap[j]?) : KpV base w' g x := by
  obtain ⟨h1, vo, va, vc, h2, h3, h4, h5⟩ := h
  exact ⟨h1, vo, va, vc, hg.trans h2, own_keep h3 fun j C z hc => hr j C z (.inl hc), own_keep h4 fun j C z hc => hr j C z (.inl hc), own_keep h5 fun j C z hc => hr j C z (.inr hc)⟩
theorem stS_mem {E : List (ByteArray × Nat)} {k : ByteArray} {g : Nat} {p : ByteArray × Nat} (h : p ∈ stS E k g) : p.2 = g ∨ p ∈ E := by
  unfold stS at h
  split at h
  · rcases List.mem_append.1 h with h | h
    · exact .inr h
    · rw [List.mem_singleton] at h
      exact .inl (by rw [h])
  · obtain ⟨q, hq, rfl⟩ := List.mem_map.1 h
    split
    · exact .inl rfl
    · exact .inr hq
theorem map_nd {k : ByteArray} {g : Nat} : ∀ (E : List (ByteArray × Nat)), (E.map (·.1)).Nodup → (E.map (·.2)).Nodup → g ∉ E.map (·.2) → ((E.map fun p => if p.1 = k then (k, g) else p).map (·.2)).Nodup
  | [], _, _, _ => List.nodup_nil
  | p :: E, h1, h2, h3 => by
    rw [List.map_cons, List.nodup_cons] at h1 h2
    rw [List.map_cons, List.mem_cons, not_or] at h3
    rw [List.map_cons, List.map_cons, List.nodup_cons]
    by_cases hp : p.1 = k
    · have he : (E.map fun p => if p.1 = k then (k, g) else p) = E := by
        refine (List.map_congr_left fun q hq => ?_).trans (List.map_id E)
        rw [if_neg fun e => h1.1 (by rw [hp, ← e]; exact List.mem_map.2 ⟨q, hq, rfl⟩)]
        rfl
      rw [he, if_pos hp]
      exact ⟨h3.2, h2.2⟩
    · rw [if_neg hp]
      refine ⟨fun hm => ?_, map_nd E h1.2 h2.2 h3.2⟩
      obtain ⟨q, hq, e⟩ := List.mem_map.1 hm
      obtain ⟨r, hr, rfl⟩ := List.mem_map.1 hq
      split at e
      · exact h3.1 e
      · exact h2.1 (by rw [← e]; exact List.mem_map.2 ⟨r, hr, rfl⟩)
theorem StV.put {base : Nat} {w w1 : World} {s m : Nat} {E : List (ByteArray × Nat)} {X : Nat → Kp} (h : StV base w s m E X) {k : ByteArray} {g : Nat} {x : Kp} (hx : KpV base w g x) (hg : g ∉ E.map (·.2)) (hgr : w.grownBy w1 (some m)) (hm : MapS w1 m (stS E k g)) : StV base w1 s m (stS E k g) (upX X g x) := by
  obtain ⟨⟨es, c, hb, -⟩, hkn⟩ := h.mp
  have ne : ∀ (j : Nat) (C : Array Value) (ty : TypeId) (z : Nat × Nat), w.heap[j]? = some (Obj.cells C ty z) → w1.heap[j]? = w.heap[j]? := fun j C ty z hj => hgr.block j (Array.getElem?_eq_some_iff.1 hj).1 fun e => by
    rw [Option.some.inj e, hb] at hj
    cases hj
  have kk : ∀ g' x', KpV base w g' x' → KpV base w1 g' x' := fun g' x' h' => h'.keep (by obtain ⟨-, vo, va, vc, h2, -⟩ := h'; exact ne _ _ _ _ h2) fun j C z hj => by
    rcases hj with hj | hj
    · exact ne _ _ _ _ hj
    · exact ne _ _ _ _ hj
  refine ⟨h.lo, h.lm, (ne _ _ _ _ h.blk).trans h.blk, hm, fun p hp => ?_, ?_⟩
  · unfold upX
    by_cases hpg : p.2 = g
    · rw [if_pos hpg, hpg]
      exact kk _ _ hx
    · rw [if_neg hpg]
      exact kk _ _ (h.kp p ((stS_mem hp).resolve_left hpg))
  · unfold stS
    split
    · rw [List.map_append, List.nodup_append]
      refine ⟨h.nd, by simp, fun a ha b hb' e => ?_⟩
      simp at hb'
      exact hg (by rw [← hb', ← e]; exact ha)
    · exact map_nd E hkn h.nd hg
theorem StV.lt {base : Nat} {w : World} {s m : Nat} {E : List (ByteArray × Nat)} {X : Nat → Kp} (h : StV base w s m E X) {k : Nat} (hk : SF m E k) : base ≤ k ∧ k < w.heap.size := by
  rcases hk with rfl | hk
  · exact ⟨h.lm, h.mp.lt⟩
  · obtain ⟨p, hp, rfl⟩ := List.mem_map.1 hk
    obtain ⟨h1, vo, va, vc, h2, -⟩ := h.kp p hp
    exact ⟨h1, (Array.getElem?_eq_some_iff.1 h2).1⟩
theorem put_stp {w w1 : World} {m : Nat} (hgr : w.grownBy w1 (some m)) {w0 : World} (h0 : Below w0.heap.size w0 w) : Stp w0 (fun k => k = m) (fun k => k = m) w1 :=
  ⟨hgr.os.trans h0.os, hgr.tape.trans h0.tape, hgr.output.trans h0.output, Nat.le_trans h0.size hgr.size, fun j hj hn => (hgr.block j (Nat.lt_of_lt_of_le hj h0.size) fun e => hn (Option.some.inj e)).trans (h0.block j hj), fun _ h => .inl h⟩
/-- All that is cells stays. -/
def CKp (w w' : World) : Prop := w.heap.size ≤ w'.heap.size ∧ ∀ (j : Nat) (C : Array Value) (ty : TypeId) (z : Nat × Nat), w.heap[j]? = some (Obj.cells C ty z) → w'.heap[j]? = w.heap[j]?
theorem CKp.of {w w' : World} (h : Below w.heap.size w w') : CKp w w' := ⟨h.size, fun j _ _ _ hj => h.block j (Array.getElem?_eq_some_iff.1 hj).1⟩
theorem CKp.trans {w w1 w2 : World} (h : CKp w w1) (k : CKp w1 w2) : CKp w w2 := ⟨Nat.le_trans h.1 k.1, fun j C ty z hj => (k.2 j C ty z ((h.2 j C ty z hj).trans hj)).trans (h.2 j C ty z hj)⟩
theorem CKp.stp {w w' : World} {base s m : Nat} {E : List (ByteArray × Nat)} {X : Nat → Kp} (h : StV base w s m E X) (hs : Stp w (fun k => k = m) (fun k => k = m) w') : CKp w w' := by
  obtain ⟨⟨es, c, hm, -⟩, -⟩ := h.mp
  exact ⟨hs.size, fun j C ty z hj => hs.block j (Array.getElem?_eq_some_iff.1 hj).1 fun e => by rw [e, hm] at hj; cases hj⟩
theorem CKp.cell {w w' : World} (h : CKp w w') {g j : Nat} {v : Value} (hc : w.cell? ⟨g, j, none⟩ = some v) : w'.cell? ⟨g, j, none⟩ = some v := by
  unfold World.cell? at hc ⊢
  dsimp only at hc ⊢
  split at hc
  · next C ty z hg =>
    rw [h.2 _ _ _ _ hg, hg]
    exact hc
  · cases hc
theorem CKp.row {w w' : World} (h : CKp w w') {sz n : Nat} {v : Value} {xs : List Value} (hr : IsRow w sz v n xs) : IsRow w' sz v n xs := by
  refine ⟨hr.1, ?_⟩
  rcases hr.2 with h0 | ⟨b, off, cap, rfl, hlt, hc, hm, hcell⟩
  · exact .inl h0
  · exact .inr ⟨b, off, cap, rfl, Nat.lt_of_lt_of_le hlt h.1, hc, hm, fun j u hu => h.cell (hcell j u hu)⟩
theorem CKp.ty {w w' : World} (h : CKp w w') {t : Ty} {vo va vc : Value} (hr : IsTy w t vo va vc) : IsTy w' t vo va vc := ⟨h.row hr.1, h.row hr.2.1, h.row hr.2.2⟩
/-- A store stays where a block of another kind is written. -/
theorem StV.far {base : Nat} {w w' : World} {s m : Nat} {E : List (ByteArray × Nat)} {X : Nat → Kp} (h : StV base w s m E X) {g : Nat} {C : Array Value} {ty : TypeId} {z : Nat × Nat} (hg : w.heap[g]? = some (Obj.cells C ty z)) (h1 : ty ≠ 65) (h2 : ty ≠ 91) (h3 : ty ≠ 95) (h4 : ty ≠ 9) (hk : ∀ j, j ≠ g → w'.heap[j]? = w.heap[j]?) : StV base w' s m E X := by
  have ne : ∀ (j : Nat) (C' : Array Value) (ty' : TypeId) (z' : Nat × Nat), w.heap[j]? = some (Obj.cells C' ty' z') → ty ≠ ty' → w'.heap[j]? = w.heap[j]? := fun j C' ty' z' hj hne => hk j fun e => by
    rw [e, hg] at hj
    exact hne (Obj.cells.inj (Option.some.inj hj)).2.1
  have hm : m ≠ g := fun e => by
    obtain ⟨⟨es, c, hm, -⟩, -⟩ := h.mp
    rw [e, hg] at hm
    cases hm
  refine ⟨h.lo, h.lm, (ne _ _ _ _ h.blk h1).trans h.blk, h.mp.keep (hk m hm), fun p hp => (h.kp p hp).keep ?_ fun j C' z' hj => ?_, h.nd⟩
  · obtain ⟨-, vo, va, vc, hb, -⟩ := h.kp p hp
    exact ne _ _ _ _ hb h2
  · rcases hj with hj | hj
    · exact ne _ _ _ _ hj h3
    · exact ne _ _ _ _ hj h4
end Go.Proofs.YthdbnlpbidkojaaGreatDoor
/- store's keep: its walk. -/
namespace Go.Proofs.YthdbnlpbidkojaaGreatDoor
open Go.RowKit Go.ChangeMaps

theorem heap_setS {w : World} {g : Nat} {C : Array Value} {ty : TypeId} {z : Nat × Nat} (h : w.heap[g]? = some (.cells C ty z)) (j : Nat) (v : Value) : (w.setCell ⟨g, j, none⟩ v).heap[g]? = some (.cells (C.setIfInBounds j v) ty z) := by
  show (w.heap.modify g _)[g]? = _
  rw [Array.getElem?_modify, if_pos rfl, h]
  rfl
theorem bTS {a b c : World} (h1 : Below a.heap.size a b) (h2 : Below b.heap.size b c) : Below a.heap.size a c := h1.trans (h2.mono h1.size)
theorem kp6 {base : Nat} {W w6 : World} {s m g : Nat} {E : List (ByteArray × Nat)} {X : Nat → Kp} {t : Ty} {vo va vc : Value} (h : StV base W s m E X) (hb : W.heap[g]? = some (.cells (tyA t vo va vc) 35 (0, 0))) (hg : W.grownBy w6 (some m)) : BxT g t vo va vc w6 ∧ w6.cell? ⟨s, 0, none⟩ = some (.map (some m)) := by
  obtain ⟨⟨es, c, hm, -⟩, -⟩ := h.mp
  have ne : ∀ (j : Nat) (C : Array Value) (ty : TypeId) (z : Nat × Nat), W.heap[j]? = some (Obj.cells C ty z) → w6.heap[j]? = W.heap[j]? := fun j C ty z hj => hg.block j (Array.getElem?_eq_some_iff.1 hj).1 fun e => by
    rw [Option.some.inj e, hm] at hj
    cases hj
  exact ⟨BxT.of ((ne _ _ _ _ hb).trans hb), by rw [Lib.cell_of_heap ((ne _ _ _ _ h.blk).trans h.blk)]; rfl⟩
/-- What keep leaves, if there is room. -/
def KeP (base : Nat) (w : World) (s m : Nat) (E : List (ByteArray × Nat)) (X : Nat → Kp) (t : Ty) (e : Ending) (w' : World) : Prop :=
  ∃ g, e = .returned (.int .i64 0) ∧ StV base w' s m (stS E (fldB t.n) g) (upX X g ⟨t, false, zW⟩) ∧ w.heap.size ≤ g ∧ Stp w (fun k => k = m) (fun k => k = m) w'
theorem kep_of {base : Nat} {w W w5 : World} {s m : Nat} {E : List (ByteArray × Nat)} {X : Nat → Kp} {t : Ty} {vo va vc : Value} (hS : StV base w s m E X) (hb0 : base ≤ w.heap.size) (hW : Below w.heap.size w W) (ho : OwnTy w.heap.size W t vo va vc)
    (hg : (W.alloc (.cells (kpA ⟨t, false, zW⟩ vo va vc) 91)).grownBy w5 (some m)) (hm : MapS w5 m (stS E (fldB t.n) W.heap.size)) : KeP base w s m E X t (.returned (.int .i64 0)) w5 := by
  have hb1 := al_b W (.cells (kpA ⟨t, false, zW⟩ vo va vc) 91)
  have hB : Below w.heap.size w (W.alloc (.cells (kpA ⟨t, false, zW⟩ vo va vc) 91)) := hW.trans (hb1.mono hW.size)
  have hn : (W.alloc (.cells (kpA ⟨t, false, zW⟩ vo va vc) 91)).heap[W.heap.size]? = some (.cells (kpA ⟨t, false, zW⟩ vo va vc) 91 (0, 0)) := new_at _ _
  have hx : KpV base (W.alloc (.cells (kpA ⟨t, false, zW⟩ vo va vc) 91)) W.heap.size ⟨t, false, zW⟩ := ⟨Nat.le_trans hb0 hW.size, vo, va, vc, hn, (ho.le hb0).below hb1⟩
  refine ⟨W.heap.size, rfl, (hS.below hB).put hx (fun hm' => ?_) hg hm, hW.size, put_stp hg hB⟩
  have := (hS.lt (.inr hm')).2
  have := hW.size
  omega
set_option maxRecDepth 100000 in
set_option maxHeartbeats 4000000 in
theorem keep_any {base : Nat} {w : World} {s m : Nat} {E : List (ByteArray × Nat)} {X : Nat → Kp} (h : StV base w s m E X) (hb0 : base ≤ w.heap.size) (t : Ty) (vo va vc : Value) (hr : IsTy w t vo va vc) (h1 : t.own.length ≤ 1000) (h2 : t.all.length ≤ 1000) (h3 : t.ch.length ≤ 1000) (hn : t.n.size ≤ 1000000) (hT : UT w) (hfree : lkS E (fldB t.n) = none → E.length < 200) :
    Calls Tryz.prog 42 #[stP s, tyV t vo va vc] w fun e w' => KeP base w s m E X t e w' := by
  obtain ⟨ao, co, rfl⟩ := hr.1.form
  obtain ⟨aa, ca, rfl⟩ := hr.2.1.form
  obtain ⟨ac, cc, rfl⟩ := hr.2.2.form
  have HFi : Hid (∀ W, Below w.heap.size w W → Calls Tryz.prog 35 #[stP s, .string t.n] W fun e w' => e = .returned (ptS (lkS E (fldB t.n))) ∧ Below W.heap.size W w') := fun W hb => find_any (h.below hb) t.n hn (Utf8Tabs_below hT hb)
  have HFo : Hid (∀ W, Below w.heap.size w W → Calls Tryz.prog 66 #[.string t.n] W fun e w' => e = .returned (.string (fldB t.n)) ∧ Below W.heap.size W w') := fun W hb => fold_any t.n W hn (Utf8Tabs_below hT hb)
  have HCo : Hid (∀ W, Below w.heap.size w W → Calls Tryz.prog 36 #[tyV t (.slice ao t.own.length co) (.slice aa t.all.length ca) (.slice ac t.ch.length cc)] W fun e w' => CpT t W e w') := fun W hb => copyOf_any t _ _ _ W (hr.below hb) h1 h2 h3
  have HS : Hid (∀ W, Below w.heap.size w W → StV base W s m E X) := fun W hb => h.below hb
  have HEnd : Hid (∀ W vo va vc w5, Below w.heap.size w W → OwnTy w.heap.size W t vo va vc → (W.alloc (.cells (kpA ⟨t, false, zW⟩ vo va vc) 91)).grownBy w5 (some m) → MapS w5 m (stS E (fldB t.n) W.heap.size) → KeP base w s m E X t (.returned (.int .i64 0)) w5) := fun W vo va vc w5 hW ho hg hm => kep_of h hb0 hW ho hg hm
  have HC : Hid (∀ W, Below w.heap.size w W → W.cell? ⟨s, 0, none⟩ = some (.map (some m)) ∧ ∀ ty, (Builtin.len_ #[63] ty #[.map (some m)]).run Tryz.prog W = .ok (.int .i64 E.length) W) := fun W hb => ⟨(h.below hb).cell, fun ty => (h.below hb).mp.len ty⟩
  clear h hr h1 h2 h3 hn hT hb0
  obtain ⟨ky, hky⟩ : ∃ ky, ky = fldB t.n := ⟨_, rfl⟩
  rw [← hky] at HFi HFo HEnd hfree
  obtain ⟨R, hR⟩ : ∃ R : Ending → World → Prop, R = KeP base w s m E X t := ⟨_, rfl⟩
  show Calls Tryz.prog 42 #[stP s, tyV t (.slice ao t.own.length co) (.slice aa t.all.length ca) (.slice ac t.ch.length cc)] w fun e w' => KeP base w s m E X t e w'
  rw [← hR] at HEnd ⊢
  clear hky hR
  cases hL : lkS E ky
  case none =>
    rw [hL] at HFi
    have hlt := hfree hL
    have d1 : decide ((200 : Int) ≤ (E.length : Int)) = false := decide_eq_false (by omega)
    clear hL hfree hlt
    obtain ⟨w1, hw1⟩ : ∃ w1, w1 = w.alloc (.cells (tyA t (.slice ao t.own.length co) (.slice aa t.all.length ca) (.slice ac t.ch.length cc)) 35) := ⟨_, rfl⟩
    have B1 : Hid (Below w.heap.size w w1) := by show Below _ _ _; rw [hw1]; exact al_b _ _
    have hn1 : w1.heap[w.heap.size]? = some (.cells (tyA t (.slice ao t.own.length co) (.slice aa t.all.length ca) (.slice ac t.ch.length cc)) 35 (0, 0)) := by rw [hw1]; exact new_at _ _
    have C1 : Hid (∀ W, Below w1.heap.size w1 W → W.heap[w.heap.size]? = some (.cells (tyA t (.slice ao t.own.length co) (.slice aa t.all.length ca) (.slice ac t.ch.length cc)) 35 (0, 0))) := fun W h => (h.block _ (Array.getElem?_eq_some_iff.1 hn1).1).trans hn1
    clear hn1
    have hk := C1.out w1 (Below.refl _ _)
    have c1_0 : w1.cell? ⟨w.heap.size, 0, none⟩ = some (.string t.n) := by rw [Lib.cell_of_heap hk]; rfl
    have c1_1 : w1.cell? ⟨w.heap.size, 1, none⟩ = some (.string t.p) := by rw [Lib.cell_of_heap hk]; rfl
    have c1_2 : w1.cell? ⟨w.heap.size, 2, none⟩ = some (.slice ao t.own.length co) := by rw [Lib.cell_of_heap hk]; rfl
    have c1_3 : w1.cell? ⟨w.heap.size, 3, none⟩ = some (.slice aa t.all.length ca) := by rw [Lib.cell_of_heap hk]; rfl
    have c1_4 : w1.cell? ⟨w.heap.size, 4, none⟩ = some (.slice ac t.ch.length cc) := by rw [Lib.cell_of_heap hk]; rfl
    have c1_5 : w1.cell? ⟨w.heap.size, 5, none⟩ = some (.int .i64 t.nd) := by rw [Lib.cell_of_heap hk]; rfl
    have c1_6 : w1.cell? ⟨w.heap.size, 6, none⟩ = some (.int .i64 t.lf) := by rw [Lib.cell_of_heap hk]; rfl
    have c1_7 : w1.cell? ⟨w.heap.size, 7, none⟩ = some (.int .i64 t.sq) := by rw [Lib.cell_of_heap hk]; rfl
    clear hk
    rw [hw1] at c1_0 c1_1 c1_2 c1_3 c1_4 c1_5 c1_6 c1_7
    go_enter Tryz.func42, Tryz.ntmps42
    go_wp2_with fail
    rw [← hw1]
    clear hw1
    clear c1_0 c1_1 c1_2 c1_3 c1_4 c1_5 c1_6 c1_7
    refine (HFi.out _ B1.out).mono ?_
    rintro e w2 ⟨rfl, hb⟩
    have B2 : Hid (Below w1.heap.size w1 w2) := hb
    clear hb 
    obtain ⟨cs, hlen⟩ := HC.out _ (bTS B1.out B2.out)
    go_wp2_with fail
    clear cs hlen
    have HBk : Hid (Below w.heap.size w w2.drew) := ((bTS B1.out B2.out)).drew
    have HX : Hid (∀ W, Below w.heap.size w W → Below w1.heap.size w1 W → BxT w.heap.size t (.slice ao t.own.length co) (.slice aa t.all.length ca) (.slice ac t.ch.length cc) W ∧ W.cell? ⟨s, 0, none⟩ = some (.map (some m))) := fun W hb hb1 => ⟨BxT.of (C1.out W hb1), (HC.out W hb).1⟩
    have HB1 : Hid (Below w1.heap.size w1 w2.drew) := (B2.out).drew
    refine wp_region_held_drew (S := fun w' => BxT w.heap.size t (.slice ao t.own.length co) (.slice aa t.all.length ca) (.slice ac t.ch.length cc) w' ∧ w'.cell? ⟨s, 0, none⟩ = some (.map (some m))) (by kernel_rfl) (HX.out _ HBk.out HB1.out) (fun hHeld => ?_)
    refine wpAnyH_take (i := 0) (v := ?_) rfl (by kernel_rfl) (by kernel_rfl) (by kernel_rfl) (fun _ _ _ h => h) (Or.inl ⟨by rfl, ?_⟩) hHeld ?_
    rotate_left 1
    · intro w9 hSw; obtain ⟨⟨⟨g0, g1, g2, g3⟩, g4, g5, g6, g7⟩, cs⟩ := hSw; go_simp; try with_reducible rfl
    change wpAnyH _ _ _ _ _ _ _ (Act.put _ (some 18) _) _
    simp only [Act.put, List.setIfInBounds_toArray, List.set_cons_zero, List.set_cons_succ]
    refine wpAnyH_take (i := 1) (v := ?_) rfl (by kernel_rfl) (by kernel_rfl) (by kernel_rfl) (fun _ _ _ h => h) (Or.inl ⟨by rfl, ?_⟩) hHeld ?_
    rotate_left 1
    · intro w9 hSw; obtain ⟨⟨⟨g0, g1, g2, g3⟩, g4, g5, g6, g7⟩, cs⟩ := hSw; go_simp; try with_reducible rfl
    change wpAnyH _ _ _ _ _ _ _ (Act.put _ (some 19) _) _
    simp only [Act.put, List.setIfInBounds_toArray, List.set_cons_zero, List.set_cons_succ]
    refine wpAnyH_take (i := 2) (v := ?_) rfl (by kernel_rfl) (by kernel_rfl) (by kernel_rfl) (fun _ _ _ h => h) (Or.inl ⟨by rfl, ?_⟩) hHeld ?_
    rotate_left 1
    · intro w9 hSw; obtain ⟨⟨⟨g0, g1, g2, g3⟩, g4, g5, g6, g7⟩, cs⟩ := hSw; go_simp; try with_reducible rfl
    change wpAnyH _ _ _ _ _ _ _ (Act.put _ (some 20) _) _
    simp only [Act.put, List.setIfInBounds_toArray, List.set_cons_zero, List.set_cons_succ]
    refine wpAnyH_take (i := 3) (v := ?_) rfl (by kernel_rfl) (by kernel_rfl) (by kernel_rfl) (fun _ _ _ h => h) (Or.inl ⟨by rfl, ?_⟩) hHeld ?_
    rotate_left 1
    · intro w9 hSw; obtain ⟨⟨⟨g0, g1, g2, g3⟩, g4, g5, g6, g7⟩, cs⟩ := hSw; go_simp; try with_reducible rfl
    change wpAnyH _ _ _ _ _ _ _ (Act.put _ (some 21) _) _
    simp only [Act.put, List.setIfInBounds_toArray, List.set_cons_zero, List.set_cons_succ]
    refine wpAnyH_take (i := 4) (v := ?_) rfl (by kernel_rfl) (by kernel_rfl) (by kernel_rfl) (fun _ _ _ h => h) (Or.inl ⟨by rfl, ?_⟩) hHeld ?_
    rotate_left 1
    · intro w9 hSw; obtain ⟨⟨⟨g0, g1, g2, g3⟩, g4, g5, g6, g7⟩, cs⟩ := hSw; go_simp; try with_reducible rfl
    change wpAnyH _ _ _ _ _ _ _ (Act.put _ (some 22) _) _
    simp only [Act.put, List.setIfInBounds_toArray, List.set_cons_zero, List.set_cons_succ]
    refine wpAnyH_take (i := 5) (v := ?_) rfl (by kernel_rfl) (by kernel_rfl) (by kernel_rfl) (fun _ _ _ h => h) (Or.inl ⟨by rfl, ?_⟩) hHeld ?_
    rotate_left 1
    · intro w9 hSw; obtain ⟨⟨⟨g0, g1, g2, g3⟩, g4, g5, g6, g7⟩, cs⟩ := hSw; go_simp; try with_reducible rfl
    change wpAnyH _ _ _ _ _ _ _ (Act.put _ (some 23) _) _
    simp only [Act.put, List.setIfInBounds_toArray, List.set_cons_zero, List.set_cons_succ]
    refine wpAnyH_take (i := 7) (v := ?_) rfl (by kernel_rfl) (by kernel_rfl) (by kernel_rfl) (fun _ _ _ h => h) (Or.inl ⟨by rfl, ?_⟩) hHeld ?_
    rotate_left 1
    · intro w9 hSw; obtain ⟨⟨⟨g0, g1, g2, g3⟩, g4, g5, g6, g7⟩, cs⟩ := hSw; go_simp; try with_reducible rfl
    change wpAnyH _ _ _ _ _ _ _ (Act.put _ (some 25) _) _
    simp only [Act.put, List.setIfInBounds_toArray, List.set_cons_zero, List.set_cons_succ]
    refine wpAnyH_ready (rs := [6]) (by kernel_rfl) (by simp) ?_
    refine AllReadyH.cons rfl (fun K hK => ?_) AllReadyH.nil
    go_simp
    refine (HFo.out _ HBk.out).mono ?_
    rintro e wf ⟨rfl, hbf⟩
    have HBf : Hid (Below w.heap.size w wf) := HBk.out.trans (hbf.mono HBk.out.size)
    have HB2 : Hid (Below w1.heap.size w1 wf) := HB1.out.trans (hbf.mono HB1.out.size)
    clear hbf
    go_simp
    refine hK.out _ _ (HX.out _ HBf.out HB2.out) (fun hHeld => ?_)
    clear hK K
    refine wpAnyH_ready (rs := [8]) (by kernel_rfl) (by simp) ?_
    refine AllReadyH.cons rfl (fun K hK => ?_) AllReadyH.nil
    go_simp
    refine (HCo.out _ HBf.out).mono ?_
    rintro e wg ⟨v1, v2, v3, rfl, ho, hbf⟩
    have HBg : Hid (Below w.heap.size w wg) := HBf.out.trans (hbf.mono HBf.out.size)
    have HB3 : Hid (Below w1.heap.size w1 wg) := HB2.out.trans (hbf.mono HB2.out.size)
    have HO : Hid (OwnTy w.heap.size wg t v1 v2 v3) := ho.le HBf.out.size
    obtain ⟨W5, hW5⟩ : ∃ W5, W5 = wg.alloc (.cells (kpA ⟨t, false, zW⟩ v1 v2 v3) 91) := ⟨_, rfl⟩
    have hb5 : Below wg.heap.size wg W5 := by rw [hW5]; exact al_b _ _
    have HB5 : Hid (Below w.heap.size w W5) := HBg.out.trans (hb5.mono HBg.out.size)
    have HB6 : Hid (Below w1.heap.size w1 W5) := HB3.out.trans (hb5.mono HB3.out.size)
    obtain ⟨w6, hput0, hm6, hg6⟩ := (HS.out W5 HB5.out).mp.put ky wg.heap.size
    have hput : (Instr.mapUpdate 63 (.map (some m)) (.string ky) (.pointer (some ⟨wg.heap.size, 0, none⟩))).run Tryz.prog W5 = .ok () w6 := hput0
    clear hput0
    have HFin : Hid (R (.returned (.int .i64 0)) w6) := HEnd.out wg v1 v2 v3 w6 HBg.out HO.out (hW5 ▸ hg6) hm6
    have HS6 : Hid (BxT w.heap.size t (.slice ao t.own.length co) (.slice aa t.all.length ca) (.slice ac t.ch.length cc) w6 ∧ w6.cell? ⟨s, 0, none⟩ = some (.map (some m))) := kp6 (HS.out W5 HB5.out) (C1.out W5 HB6.out) hg6
    have HWK : Hid (wg.alloc (.cells #[.string t.n, .string t.p, v1, v2, v3, .int .i64 t.nd, .int .i64 t.lf, .int .i64 t.sq, .bool false, .bool false, .bool false, .bool false, .bool false, .bool false, .bool false, .bool false, .bool false, .bool false, .bool false, .bool false, .bool false, .bool false, .bool false, .bool false, .bool false] 91) = W5) := by show _ = _; rw [hW5]; rfl
    clear hbf ho hb5 hg6 hm6 hW5
    go_simp
    refine hK.out _ _ (HX.out _ HBg.out HB3.out) (fun hHeld => ?_)
    clear hK K
    refine wpAnyH_take (i := 9) (v := ?_) rfl (by kernel_rfl) (by kernel_rfl) (by kernel_rfl) (fun _ _ _ h => h) (Or.inl ⟨by rfl, ?_⟩) hHeld ?_
    rotate_left 1
    · intro w9 hSw; obtain ⟨⟨⟨g0, g1, g2, g3⟩, g4, g5, g6, g7⟩, cs⟩ := hSw; go_simp; try with_reducible rfl
    change wpAnyH _ _ _ _ _ _ _ (Act.put _ (some 27) _) _
    simp only [Act.put, List.setIfInBounds_toArray, List.set_cons_zero, List.set_cons_succ]
    refine wpAnyH_ready (rs := [10]) (by kernel_rfl) (by simp) ?_
    refine AllReadyH.cons rfl (fun K hK => ?_) AllReadyH.nil
    go_simp
    refine hK.out _ _ (by rw [HWK.out]; exact HX.out _ HB5.out HB6.out) (fun hHeld => ?_)
    clear hK K
    rw [HWK.out] at hHeld ⊢
    clear HWK
    refine wpAnyH_ready (rs := [11]) (by kernel_rfl) (by simp) ?_
    refine AllReadyH.cons rfl (fun K hK => ?_) AllReadyH.nil
    go_simp
    refine hK.out _ _ HS6.out (fun hHeld => ?_)
    clear hK K hput
    refine wpAnyH_done (by kernel_rfl) ?_ _
    clear hHeld
    go_wp2
    exact HFin.out
  case some g0 =>
    rw [hL] at HFi
    clear hL hfree
    obtain ⟨w1, hw1⟩ : ∃ w1, w1 = w.alloc (.cells (tyA t (.slice ao t.own.length co) (.slice aa t.all.length ca) (.slice ac t.ch.length cc)) 35) := ⟨_, rfl⟩
    have B1 : Hid (Below w.heap.size w w1) := by show Below _ _ _; rw [hw1]; exact al_b _ _
    have hn1 : w1.heap[w.heap.size]? = some (.cells (tyA t (.slice ao t.own.length co) (.slice aa t.all.length ca) (.slice ac t.ch.length cc)) 35 (0, 0)) := by rw [hw1]; exact new_at _ _
    have C1 : Hid (∀ W, Below w1.heap.size w1 W → W.heap[w.heap.size]? = some (.cells (tyA t (.slice ao t.own.length co) (.slice aa t.all.length ca) (.slice ac t.ch.length cc)) 35 (0, 0))) := fun W h => (h.block _ (Array.getElem?_eq_some_iff.1 hn1).1).trans hn1
    clear hn1
    have hk := C1.out w1 (Below.refl _ _)
    have c1_0 : w1.cell? ⟨w.heap.size, 0, none⟩ = some (.string t.n) := by rw [Lib.cell_of_heap hk]; rfl
    have c1_1 : w1.cell? ⟨w.heap.size, 1, none⟩ = some (.string t.p) := by rw [Lib.cell_of_heap hk]; rfl
    have c1_2 : w1.cell? ⟨w.heap.size, 2, none⟩ = some (.slice ao t.own.length co) := by rw [Lib.cell_of_heap hk]; rfl
    have c1_3 : w1.cell? ⟨w.heap.size, 3, none⟩ = some (.slice aa t.all.length ca) := by rw [Lib.cell_of_heap hk]; rfl
    have c1_4 : w1.cell? ⟨w.heap.size, 4, none⟩ = some (.slice ac t.ch.length cc) := by rw [Lib.cell_of_heap hk]; rfl
    have c1_5 : w1.cell? ⟨w.heap.size, 5, none⟩ = some (.int .i64 t.nd) := by rw [Lib.cell_of_heap hk]; rfl
    have c1_6 : w1.cell? ⟨w.heap.size, 6, none⟩ = some (.int .i64 t.lf) := by rw [Lib.cell_of_heap hk]; rfl
    have c1_7 : w1.cell? ⟨w.heap.size, 7, none⟩ = some (.int .i64 t.sq) := by rw [Lib.cell_of_heap hk]; rfl
    clear hk
    rw [hw1] at c1_0 c1_1 c1_2 c1_3 c1_4 c1_5 c1_6 c1_7
    go_enter Tryz.func42, Tryz.ntmps42
    go_wp2_with fail
    rw [← hw1]
    clear hw1
    clear c1_0 c1_1 c1_2 c1_3 c1_4 c1_5 c1_6 c1_7
    refine (HFi.out _ B1.out).mono ?_
    rintro e w2 ⟨rfl, hb⟩
    have B2 : Hid (Below w1.heap.size w1 w2) := hb
    clear hb 
    obtain ⟨cs, hlen⟩ := HC.out _ (bTS B1.out B2.out)
    go_wp2_with fail
    clear cs hlen
    have HBk : Hid (Below w.heap.size w w2.drew) := ((bTS B1.out B2.out)).drew
    have HX : Hid (∀ W, Below w.heap.size w W → Below w1.heap.size w1 W → BxT w.heap.size t (.slice ao t.own.length co) (.slice aa t.all.length ca) (.slice ac t.ch.length cc) W ∧ W.cell? ⟨s, 0, none⟩ = some (.map (some m))) := fun W hb hb1 => ⟨BxT.of (C1.out W hb1), (HC.out W hb).1⟩
    have HB1 : Hid (Below w1.heap.size w1 w2.drew) := (B2.out).drew
    refine wp_region_held_drew (S := fun w' => BxT w.heap.size t (.slice ao t.own.length co) (.slice aa t.all.length ca) (.slice ac t.ch.length cc) w' ∧ w'.cell? ⟨s, 0, none⟩ = some (.map (some m))) (by kernel_rfl) (HX.out _ HBk.out HB1.out) (fun hHeld => ?_)
    refine wpAnyH_take (i := 0) (v := ?_) rfl (by kernel_rfl) (by kernel_rfl) (by kernel_rfl) (fun _ _ _ h => h) (Or.inl ⟨by rfl, ?_⟩) hHeld ?_
    rotate_left 1
    · intro w9 hSw; obtain ⟨⟨⟨g0, g1, g2, g3⟩, g4, g5, g6, g7⟩, cs⟩ := hSw; go_simp; try with_reducible rfl
    change wpAnyH _ _ _ _ _ _ _ (Act.put _ (some 18) _) _
    simp only [Act.put, List.setIfInBounds_toArray, List.set_cons_zero, List.set_cons_succ]
    refine wpAnyH_take (i := 1) (v := ?_) rfl (by kernel_rfl) (by kernel_rfl) (by kernel_rfl) (fun _ _ _ h => h) (Or.inl ⟨by rfl, ?_⟩) hHeld ?_
    rotate_left 1
    · intro w9 hSw; obtain ⟨⟨⟨g0, g1, g2, g3⟩, g4, g5, g6, g7⟩, cs⟩ := hSw; go_simp; try with_reducible rfl
    change wpAnyH _ _ _ _ _ _ _ (Act.put _ (some 19) _) _
    simp only [Act.put, List.setIfInBounds_toArray, List.set_cons_zero, List.set_cons_succ]
    refine wpAnyH_take (i := 2) (v := ?_) rfl (by kernel_rfl) (by kernel_rfl) (by kernel_rfl) (fun _ _ _ h => h) (Or.inl ⟨by rfl, ?_⟩) hHeld ?_
    rotate_left 1
    · intro w9 hSw; obtain ⟨⟨⟨g0, g1, g2, g3⟩, g4, g5, g6, g7⟩, cs⟩ := hSw; go_simp; try with_reducible rfl
    change wpAnyH _ _ _ _ _ _ _ (Act.put _ (some 20) _) _
    simp only [Act.put, List.setIfInBounds_toArray, List.set_cons_zero, List.set_cons_succ]
    refine wpAnyH_take (i := 3) (v := ?_) rfl (by kernel_rfl) (by kernel_rfl) (by kernel_rfl) (fun _ _ _ h => h) (Or.inl ⟨by rfl, ?_⟩) hHeld ?_
    rotate_left 1
    · intro w9 hSw; obtain ⟨⟨⟨g0, g1, g2, g3⟩, g4, g5, g6, g7⟩, cs⟩ := hSw; go_simp; try with_reducible rfl
    change wpAnyH _ _ _ _ _ _ _ (Act.put _ (some 21) _) _
    simp only [Act.put, List.setIfInBounds_toArray, List.set_cons_zero, List.set_cons_succ]
    refine wpAnyH_take (i := 4) (v := ?_) rfl (by kernel_rfl) (by kernel_rfl) (by kernel_rfl) (fun _ _ _ h => h) (Or.inl ⟨by rfl, ?_⟩) hHeld ?_
    rotate_left 1
    · intro w9 hSw; obtain ⟨⟨⟨g0, g1, g2, g3⟩, g4, g5, g6, g7⟩, cs⟩ := hSw; go_simp; try with_reducible rfl
    change wpAnyH _ _ _ _ _ _ _ (Act.put _ (some 22) _) _
    simp only [Act.put, List.setIfInBounds_toArray, List.set_cons_zero, List.set_cons_succ]
    refine wpAnyH_take (i := 5) (v := ?_) rfl (by kernel_rfl) (by kernel_rfl) (by kernel_rfl) (fun _ _ _ h => h) (Or.inl ⟨by rfl, ?_⟩) hHeld ?_
    rotate_left 1
    · intro w9 hSw; obtain ⟨⟨⟨g0, g1, g2, g3⟩, g4, g5, g6, g7⟩, cs⟩ := hSw; go_simp; try with_reducible rfl
    change wpAnyH _ _ _ _ _ _ _ (Act.put _ (some 23) _) _
    simp only [Act.put, List.setIfInBounds_toArray, List.set_cons_zero, List.set_cons_succ]
    refine wpAnyH_take (i := 7) (v := ?_) rfl (by kernel_rfl) (by kernel_rfl) (by kernel_rfl) (fun _ _ _ h => h) (Or.inl ⟨by rfl, ?_⟩) hHeld ?_
    rotate_left 1
    · intro w9 hSw; obtain ⟨⟨⟨g0, g1, g2, g3⟩, g4, g5, g6, g7⟩, cs⟩ := hSw; go_simp; try with_reducible rfl
    change wpAnyH _ _ _ _ _ _ _ (Act.put _ (some 25) _) _
    simp only [Act.put, List.setIfInBounds_toArray, List.set_cons_zero, List.set_cons_succ]
    refine wpAnyH_ready (rs := [6]) (by kernel_rfl) (by simp) ?_
    refine AllReadyH.cons rfl (fun K hK => ?_) AllReadyH.nil
    go_simp
    refine (HFo.out _ HBk.out).mono ?_
    rintro e wf ⟨rfl, hbf⟩
    have HBf : Hid (Below w.heap.size w wf) := HBk.out.trans (hbf.mono HBk.out.size)
    have HB2 : Hid (Below w1.heap.size w1 wf) := HB1.out.trans (hbf.mono HB1.out.size)
    clear hbf
    go_simp
    refine hK.out _ _ (HX.out _ HBf.out HB2.out) (fun hHeld => ?_)
    clear hK K
    refine wpAnyH_ready (rs := [8]) (by kernel_rfl) (by simp) ?_
    refine AllReadyH.cons rfl (fun K hK => ?_) AllReadyH.nil
    go_simp
    refine (HCo.out _ HBf.out).mono ?_
    rintro e wg ⟨v1, v2, v3, rfl, ho, hbf⟩
    have HBg : Hid (Below w.heap.size w wg) := HBf.out.trans (hbf.mono HBf.out.size)
    have HB3 : Hid (Below w1.heap.size w1 wg) := HB2.out.trans (hbf.mono HB2.out.size)
    have HO : Hid (OwnTy w.heap.size wg t v1 v2 v3) := ho.le HBf.out.size
    obtain ⟨W5, hW5⟩ : ∃ W5, W5 = wg.alloc (.cells (kpA ⟨t, false, zW⟩ v1 v2 v3) 91) := ⟨_, rfl⟩
    have hb5 : Below wg.heap.size wg W5 := by rw [hW5]; exact al_b _ _
    have HB5 : Hid (Below w.heap.size w W5) := HBg.out.trans (hb5.mono HBg.out.size)
    have HB6 : Hid (Below w1.heap.size w1 W5) := HB3.out.trans (hb5.mono HB3.out.size)
    obtain ⟨w6, hput0, hm6, hg6⟩ := (HS.out W5 HB5.out).mp.put ky wg.heap.size
    have hput : (Instr.mapUpdate 63 (.map (some m)) (.string ky) (.pointer (some ⟨wg.heap.size, 0, none⟩))).run Tryz.prog W5 = .ok () w6 := hput0
    clear hput0
    have HFin : Hid (R (.returned (.int .i64 0)) w6) := HEnd.out wg v1 v2 v3 w6 HBg.out HO.out (hW5 ▸ hg6) hm6
    have HS6 : Hid (BxT w.heap.size t (.slice ao t.own.length co) (.slice aa t.all.length ca) (.slice ac t.ch.length cc) w6 ∧ w6.cell? ⟨s, 0, none⟩ = some (.map (some m))) := kp6 (HS.out W5 HB5.out) (C1.out W5 HB6.out) hg6
    have HWK : Hid (wg.alloc (.cells #[.string t.n, .string t.p, v1, v2, v3, .int .i64 t.nd, .int .i64 t.lf, .int .i64 t.sq, .bool false, .bool false, .bool false, .bool false, .bool false, .bool false, .bool false, .bool false, .bool false, .bool false, .bool false, .bool false, .bool false, .bool false, .bool false, .bool false, .bool false] 91) = W5) := by show _ = _; rw [hW5]; rfl
    clear hbf ho hb5 hg6 hm6 hW5
    go_simp
    refine hK.out _ _ (HX.out _ HBg.out HB3.out) (fun hHeld => ?_)
    clear hK K
    refine wpAnyH_take (i := 9) (v := ?_) rfl (by kernel_rfl) (by kernel_rfl) (by kernel_rfl) (fun _ _ _ h => h) (Or.inl ⟨by rfl, ?_⟩) hHeld ?_
    rotate_left 1
    · intro w9 hSw; obtain ⟨⟨⟨g0, g1, g2, g3⟩, g4, g5, g6, g7⟩, cs⟩ := hSw; go_simp; try with_reducible rfl
    change wpAnyH _ _ _ _ _ _ _ (Act.put _ (some 27) _) _
    simp only [Act.put, List.setIfInBounds_toArray, List.set_cons_zero, List.set_cons_succ]
    refine wpAnyH_ready (rs := [10]) (by kernel_rfl) (by simp) ?_
    refine AllReadyH.cons rfl (fun K hK => ?_) AllReadyH.nil
    go_simp
    refine hK.out _ _ (by rw [HWK.out]; exact HX.out _ HB5.out HB6.out) (fun hHeld => ?_)
    clear hK K
    rw [HWK.out] at hHeld ⊢
    clear HWK
    refine wpAnyH_ready (rs := [11]) (by kernel_rfl) (by simp) ?_
    refine AllReadyH.cons rfl (fun K hK => ?_) AllReadyH.nil
    go_simp
    refine hK.out _ _ HS6.out (fun hHeld => ?_)
    clear hK K hput
    refine wpAnyH_done (by kernel_rfl) ?_ _
    clear hHeld
    go_wp2
    exact HFin.out
end Go.Proofs.YthdbnlpbidkojaaGreatDoor
