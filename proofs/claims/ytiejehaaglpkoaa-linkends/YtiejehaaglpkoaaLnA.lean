/- A link, plainly, and as it lies in memory; its map. -/
import Derived.Test.YtiejehaaglpkoaaZa
import Derived.Maps.OwnSet
namespace Go.Proofs.Ytiejehaaglpkoaa
open Go.RowKit Go.ChangeMaps

/-- Both ends. -/
structure Ed where
  me : Int
  lf : Int
  pe : Int
  pl : Int
  fi : Int
abbrev eV (x : Ed) : Value := .agg #[.int .i64 x.me, .int .i64 x.lf, .int .i64 x.pe, .int .i64 x.pl, .int .i64 x.fi]
/-- One end: its queue, its base, how many have gone out, the number that it wants, what came early. -/
structure Lk where
  x : Ed
  q : List ByteArray
  b : Int
  o : Nat
  wn : Int
  e : List (Int × ByteArray)
abbrev lkC (L : Lk) (vq : Value) (m : Nat) : Array Value := #[.int .i64 L.x.me, .int .i64 L.x.lf, .int .i64 L.x.pe, .int .i64 L.x.pl, .int .i64 L.x.fi, vq, .int .i64 L.b, .int .i64 (L.o : Int), .int .i64 L.wn, .map (some m)]
abbrev kE (p : Int × ByteArray) : Value × Value := (.int .i64 p.1, .agg #[.string p.2])
/-- A map's block holds these entries, in this order. -/
def MapE (w : World) (m : Nat) (E : List (Int × ByteArray)) : Prop := ∃ es clock, w.heap[m]? = some (.map es clock) ∧ es.toList.map (fun e => (e.key, e.val)) = E.map kE
theorem MapE.keep {w w' : World} {m : Nat} {E : List (Int × ByteArray)} (h : MapE w m E) (hk : w'.heap[m]? = w.heap[m]?) : MapE w' m E := by
  obtain ⟨es, c, hb, r⟩ := h
  exact ⟨es, c, hk.trans hb, r⟩
theorem MapE.lt {w : World} {m : Nat} {E : List (Int × ByteArray)} (h : MapE w m E) : m < w.heap.size := by
  obtain ⟨es, c, hb, r⟩ := h
  exact (Array.getElem?_eq_some_iff.1 hb).1
/-- What is at a number. -/
def atE (E : List (Int × ByteArray)) (k : Int) : Option ByteArray := (E.find? fun p => p.1 == k).map (·.2)
def dropE (E : List (Int × ByteArray)) (k : Int) : List (Int × ByteArray) := E.eraseP fun p => p.1 == k
theorem find_ent (k : Int) : ∀ (l : List MapEntry) (E : List (Int × ByteArray)) (i : Nat), l.map (fun e => (e.key, e.val)) = E.map kE →
    (atE E k = none ∧ Instr.findNow (.int .i64) (.int .i64 k) l i = some none ∧ dropE E k = E) ∨
    ∃ j s, atE E k = some s ∧ Instr.findNow (.int .i64) (.int .i64 k) l i = some (some (i + j, .agg #[.string s])) ∧ j < l.length ∧ (l.eraseIdx j).map (fun e => (e.key, e.val)) = (dropE E k).map kE
  | [], E, i, h => by
    cases E with
    | nil => exact .inl ⟨rfl, rfl, rfl⟩
    | cons p E => simp at h
  | e :: l, E, i, h => by
    cases E with
    | nil => simp at h
    | cons p E =>
      rw [List.map_cons, List.map_cons, List.cons.injEq] at h
      obtain ⟨h1, h2⟩ := h
      obtain ⟨hk, hv⟩ := Prod.mk.inj h1
      by_cases hp : p.1 = k
      · refine .inr ⟨0, p.2, by simp [atE, hp], ?_, by simp, ?_⟩
        · unfold Instr.findNow
          rw [hk, hv]
          simp [Instr.sameNow, hp]
        · rw [List.eraseIdx_cons_zero, h2]
          simp [dropE, hp]
      · have hb : (p.1 == k) = false := by simp [hp]
        have hn : ∀ l', Instr.findNow (.int .i64) (.int .i64 k) (e :: l') i = Instr.findNow (.int .i64) (.int .i64 k) l' (i + 1) := fun l' => by
          show (match Instr.sameNow (.int .i64) (.int .i64 k) e.key with | some true => _ | some false => _ | none => _) = _
          rw [hk]
          have : (k == p.1) = false := by simp; omega
          simp [Instr.sameNow, this]
        rcases find_ent k l E (i + 1) h2 with ⟨a1, a2, a3⟩ | ⟨j, s, a1, a2, a3, a4⟩
        · refine .inl ⟨by simpa [atE, List.find?_cons, hb] using a1, by rw [hn]; exact a2, ?_⟩
          simp only [dropE] at a3 ⊢
          rw [List.eraseP_cons, hb, a3]; rfl
        · refine .inr ⟨j + 1, s, by simpa [atE, List.find?_cons, hb] using a1, by rw [hn, a2, show i + 1 + j = i + (j + 1) by omega], by simpa using a3, ?_⟩
          rw [List.eraseIdx_cons_succ, List.map_cons, a4]
          simp only [dropE]
          rw [List.eraseP_cons, hb]
          show _ :: _ = _ :: _
          rw [hk, hv]
theorem zeroArr (w : World) : (zeroValue 112).run Try.prog w = .ok (.agg #[.string ⟨#[]⟩]) w := by kernel_rfl
theorem und_map : Try.prog.underlying 78 = some (.map 3 112) := Try.underlying78
theorem und_int : Try.prog.underlying 3 = some (.int .i64) := Try.underlying3
/-- v, there := m[k]. -/
theorem MapE.look {w : World} {m : Nat} {E : List (Int × ByteArray)} (h : MapE w m E) (k : Int) :
    (Instr.lookup 78 (.map (some m)) (.int .i64 k) true).run Try.prog w = .ok (.tuple #[.agg #[.string ((atE E k).getD ⟨#[]⟩)], .bool (atE E k).isSome]) w := by
  obtain ⟨es, c, hb, hr⟩ := h
  have hc := fun e n => MapKept.run_checkKey (P := Try.prog) (w := w) (k := .int .i64 k) und_int (by rfl) e n
  rcases find_ent k es.toList E 0 hr with ⟨a1, a2, -⟩ | ⟨j, s, a1, a2, -, -⟩
  · simp [Instr.lookup, run_underlying und_map, MapKept.run_getObj_map hb, hc, MapKept.run_findKey und_int a2, Result.andThen, a1]
  · simp [Instr.lookup, run_underlying und_map, MapKept.run_getObj_map hb, hc, MapKept.run_findKey und_int a2, Result.andThen, a1]
theorem MapE.len {w : World} {m : Nat} {E : List (Int × ByteArray)} (h : MapE w m E) (ty : TypeId) : (Builtin.len_ #[78] ty #[.map (some m)]).run Try.prog w = .ok (.int .i64 E.length) w := by
  obtain ⟨es, c, hb, hr⟩ := h
  have hl : es.size = E.length := by
    have := congrArg List.length hr
    simpa using this
  simp [Builtin.len_, run_underlying und_map, MapKept.run_getObj_map hb, Result.andThen, hl, goInt]
/-- A world in which a map's block is written anew. -/
theorem MapE.put {w : World} {m : Nat} {E : List (Int × ByteArray)} (h : MapE w m E) (k : Int) (s : ByteArray) (hn : atE E k = none) :
    ∃ w', (Instr.mapUpdate 78 (.map (some m)) (.int .i64 k) (.agg #[.string s])).run Try.prog w = .ok () w' ∧ MapE w' m (E ++ [(k, s)]) ∧ w.grownBy w' (some m) := by
  obtain ⟨es, c, hb, hr⟩ := h
  have hc := fun e n => MapKept.run_checkKey (P := Try.prog) (w := w) (k := .int .i64 k) und_int (by rfl) e n
  rcases find_ent k es.toList E 0 hr with ⟨a1, a2, -⟩ | ⟨j, s, a1, a2, -, -⟩
  · refine ⟨setBlock w m (.map (es.push ⟨.int .i64 k, .agg #[.string s], c⟩) (c + 1)), ?_, ⟨_, _, heap_setBlock_same hb _, ?_⟩, ⟨rfl, rfl, rfl, by simp [setBlock], fun i _ hi => heap_setBlock_other hb _ (fun e => hi (by rw [e]))⟩⟩
    · simp [Instr.mapUpdate, run_underlying und_map, MapKept.run_getObj_map hb, hc, MapKept.run_findKey und_int a2, MapKept.run_setObj_map _ hb, Result.andThen, setBlock]
    · rw [Array.toList_push, List.map_append, hr, List.map_append]; rfl
  · rw [hn] at a1; cases a1
theorem MapE.del {w : World} {m : Nat} {E : List (Int × ByteArray)} (h : MapE w m E) (k : Int) :
    ∃ w', (∀ ty, (Builtin.delete_ #[78, 3] ty #[.map (some m), .int .i64 k]).run Try.prog w = .ok (.tuple #[]) w') ∧ MapE w' m (dropE E k) ∧ w.grownBy w' (some m) := by
  obtain ⟨es, c, hb, hr⟩ := h
  have hc := fun e n => MapKept.run_checkKey (P := Try.prog) (w := w) (k := .int .i64 k) und_int (by rfl) e n
  rcases find_ent k es.toList E 0 hr with ⟨a1, a2, a3⟩ | ⟨j, s, a1, a2, a3, a4⟩
  · refine ⟨setBlock w m (.map es c), ?_, ⟨_, _, heap_setBlock_same hb _, by rw [a3]; exact hr⟩, ⟨rfl, rfl, rfl, by simp [setBlock], fun i _ hi => heap_setBlock_other hb _ (fun e => hi (by rw [e]))⟩⟩
    intro ty
    simp [Builtin.delete_, run_underlying und_map, MapKept.run_getObj_map hb, hc, MapKept.run_findKey und_int a2, MapKept.run_setObj_map _ hb, Result.andThen, setBlock]
  · have hjs : j < es.size := by simpa using a3
    have hsub : (es.eraseIdxIfInBounds j).toList = es.toList.eraseIdx j := by
      unfold Array.eraseIdxIfInBounds
      rw [dif_pos hjs]
      simp
    refine ⟨setBlock w m (.map (es.eraseIdxIfInBounds j) c), ?_, ⟨_, _, heap_setBlock_same hb _, by rw [hsub]; exact a4⟩, ⟨rfl, rfl, rfl, by simp [setBlock], fun i _ hi => heap_setBlock_other hb _ (fun e => hi (by rw [e]))⟩⟩
    intro ty
    simp [Builtin.delete_, run_underlying und_map, MapKept.run_getObj_map hb, hc, MapKept.run_findKey und_int a2, MapKept.run_setObj_map _ hb, Result.andThen, setBlock]
/-- What a call that writes only the blocks F leaves. -/
structure Stp (w : World) (F F' : Nat → Prop) (w' : World) : Prop where
  os : w'.os = w.os
  tape : w'.tape = w.tape
  output : w'.output = w.output
  size : w.heap.size ≤ w'.heap.size
  block : ∀ k, k < w.heap.size → ¬ F k → w'.heap[k]? = w.heap[k]?
  fp : ∀ k, F' k → F k ∨ w.heap.size ≤ k
theorem Stp.of {w w' : World} (F : Nat → Prop) (hb : Below w.heap.size w w') : Stp w F F w' := ⟨hb.os, hb.tape, hb.output, hb.size, fun k hk _ => hb.block k hk, fun _ h => .inl h⟩
theorem Stp.trans {w w1 w2 : World} {F F1 F2 : Nat → Prop} (h : Stp w F F1 w1) (k : Stp w1 F1 F2 w2) : Stp w F F2 w2 :=
  ⟨k.os.trans h.os, k.tape.trans h.tape, k.output.trans h.output, Nat.le_trans h.size k.size, fun i hi hn => (k.block i (Nat.lt_of_lt_of_le hi h.size) (fun hf => by
    rcases h.fp i hf with hf | hf
    · exact hn hf
    · omega)).trans (h.block i hi hn), fun i hf => by
    rcases k.fp i hf with hf | hf
    · exact h.fp i hf
    · exact .inr (Nat.le_trans h.size hf)⟩
theorem Stp.below {base : Nat} {w w' : World} {F F' : Nat → Prop} (h : Stp w F F' w') (hs : base ≤ w.heap.size) (hf : ∀ k, F k → base ≤ k) : Below base w w' :=
  ⟨h.os, h.tape, h.output, h.size, fun k hk => h.block k (Nat.lt_of_lt_of_le hk hs) fun hk' => by have := hf k hk'; omega⟩
theorem Stp.far {w w' : World} {F F' : Nat → Prop} (h : Stp w F F' w') {k : Nat} (hk : k < w.heap.size) (hn : ¬ F k) : w'.heap[k]? = w.heap[k]? ∧ ¬ F' k := ⟨h.block k hk hn, fun hf => by
  rcases h.fp k hf with hf | hf
  · exact hn hf
  · omega⟩
theorem Stp.grown {w w' : World} {F : Nat → Prop} {r : Option Nat} (h : w.grownBy w' r) (hr : ∀ k, r = some k → F k) : Stp w F F w' :=
  ⟨h.os, h.tape, h.output, h.size, fun k hk hn => h.block k hk fun e => hn (hr k e.symm), fun _ h => .inl h⟩
/-- The link that a pointer to block g means. -/
structure LinkV (base : Nat) (w : World) (g m : Nat) (vq : Value) (L : Lk) : Prop where
  lo : base ≤ g
  lm : base ≤ m
  blk : w.heap[g]? = some (.cells (lkC L vq m) 80 (0, 0))
  mp : MapE w m L.e
  own : w.ownsRow base 9 1 vq L.q.length (L.q.map .string)
  ng : vq.ownBlock ≠ some g
  nm : vq.ownBlock ≠ some m
/-- The blocks of a link. -/
def LF (g m : Nat) (vq : Value) (k : Nat) : Prop := k = g ∨ k = m ∨ vq.ownBlock = some k
theorem row_keep {w w' : World} {base : Nat} {e : TypeId} {v : Value} {n : Nat} {xs : List Value} (h : w.ownsRow base e 1 v n xs) (hk : ∀ k, v.ownBlock = some k → w'.heap[k]? = w.heap[k]?) : w'.ownsRow base e 1 v n xs := by
  refine ⟨h.1, ?_⟩
  rcases h.2 with h | ⟨g, cap, cur, rfl, hb, hg, r⟩
  · exact .inl h
  · exact .inr ⟨g, cap, cur, rfl, hb, (hk g rfl).trans hg, r⟩
theorem LinkV.gm {base : Nat} {w : World} {g m : Nat} {vq : Value} {L : Lk} (h : LinkV base w g m vq L) : g ≠ m := by
  intro e
  obtain ⟨es, c, hb, -⟩ := h.mp
  have := h.blk
  rw [e, hb] at this
  cases this
theorem LinkV.lt {base : Nat} {w : World} {g m : Nat} {vq : Value} {L : Lk} (h : LinkV base w g m vq L) {k : Nat} (hk : LF g m vq k) : base ≤ k ∧ k < w.heap.size := by
  rcases hk with rfl | rfl | hk
  · exact ⟨h.lo, (Array.getElem?_eq_some_iff.1 h.blk).1⟩
  · exact ⟨h.lm, h.mp.lt⟩
  · exact h.own.lt k hk
theorem LinkV.keep {base : Nat} {w w' : World} {g m : Nat} {vq : Value} {L : Lk} (h : LinkV base w g m vq L) (hk : ∀ k, LF g m vq k → w'.heap[k]? = w.heap[k]?) : LinkV base w' g m vq L :=
  ⟨h.lo, h.lm, (hk g (.inl rfl)).trans h.blk, h.mp.keep (hk m (.inr (.inl rfl))), row_keep h.own fun k e => hk k (.inr (.inr e)), h.ng, h.nm⟩
theorem LinkV.below {base : Nat} {w w' : World} {g m : Nat} {vq : Value} {L : Lk} (h : LinkV base w g m vq L) (hb : Below w.heap.size w w') : LinkV base w' g m vq L :=
  h.keep fun k hk => hb.block k (h.lt hk).2
theorem LinkV.size {base : Nat} {w : World} {g m : Nat} {vq : Value} {L : Lk} (h : LinkV base w g m vq L) : g < w.heap.size ∧ m < w.heap.size ∧ base ≤ w.heap.size := by
  have h1 := (h.lt (.inl rfl)).2
  have h2 := (h.lt (k := m) (.inr (.inl rfl))).2
  have := h.lo
  exact ⟨h1, h2, by omega⟩
/-- The cells of a link, as the walk asks for them. -/
theorem LinkV.cells {base : Nat} {w : World} {g m : Nat} {vq : Value} {L : Lk} (h : LinkV base w g m vq L) :
    (w.cell? ⟨g, 0, none⟩ = some (.int .i64 L.x.me) ∧ w.cell? ⟨g, 1, none⟩ = some (.int .i64 L.x.lf) ∧ w.cell? ⟨g, 2, none⟩ = some (.int .i64 L.x.pe) ∧ w.cell? ⟨g, 3, none⟩ = some (.int .i64 L.x.pl) ∧ w.cell? ⟨g, 4, none⟩ = some (.int .i64 L.x.fi)) ∧
    w.cell? ⟨g, 5, none⟩ = some vq ∧ w.cell? ⟨g, 6, none⟩ = some (.int .i64 L.b) ∧ w.cell? ⟨g, 7, none⟩ = some (.int .i64 (L.o : Int)) ∧ w.cell? ⟨g, 8, none⟩ = some (.int .i64 L.wn) ∧ w.cell? ⟨g, 9, none⟩ = some (.map (some m)) ∧ ∀ o, w.frozen? ⟨g, o, none⟩ = false := by
  have hb := h.blk
  refine ⟨⟨?_, ?_, ?_, ?_, ?_⟩, ?_, ?_, ?_, ?_, ?_, fun o => by simp [World.frozen?, hb]⟩ <;> (rw [Lib.cell_of_heap hb]; rfl)
end Go.Proofs.Ytiejehaaglpkoaa
