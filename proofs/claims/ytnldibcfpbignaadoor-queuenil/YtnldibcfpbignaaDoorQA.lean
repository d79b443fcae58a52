/- Things that were given, plainly; a map from numbers to numbers as it lies in memory. -/
import Derived.Test.YtnldibcfpbignaaDoorU3
import Derived.Maps.OwnSet
import Derived.RegionTactic
import Derived.Deep.QuietTactic
import Derived.BigQuiet
import Derived.Deep.RegionHeld3
import Derived.Deep.AppendLies
namespace Go.Proofs.YtnldibcfpbignaaDoor
open Go.RowKit Go.ChangeMaps

/-- Something that was given: its subscription, by which type, its event's identity and type; where its attributes lie. -/
structure Gv where
  s : Int
  o : ByteArray
  n : Int
  l : Int
  q : Int
  t : ByteArray
  a : Option Addr
  k : Nat
  c : Nat
def enG (x : Gv) : List Value := [.int .i64 x.s, .string x.o, .int .i64 x.n, .int .i64 x.l, .int .i64 x.q, .string x.t, .slice x.a x.k x.c]
abbrev gV (x : Gv) : Value := .agg #[.int .i64 x.s, .string x.o, .int .i64 x.n, .int .i64 x.l, .int .i64 x.q, .string x.t, .slice x.a x.k x.c]
abbrev gA (x : Gv) : Array Value := #[.int .i64 x.s, .string x.o, .int .i64 x.n, .int .i64 x.l, .int .i64 x.q, .string x.t, .slice x.a x.k x.c]
def zG : Gv := ⟨0, ⟨#[]⟩, 0, 0, 0, ⟨#[]⟩, none, 0, 0⟩
def gCells (l : List Gv) : List Value := l.flatMap enG
theorem gCells_len (l : List Gv) : (gCells l).length = l.length * 7 := by
  induction l with
  | nil => rfl
  | cons d D ih => rw [gCells, List.flatMap_cons, List.length_append, List.length_cons]; rw [gCells] at ih; rw [ih]; show 7 + _ = _; omega
theorem gCells_get : ∀ (l : List Gv) (k : Nat) (h : k < l.length) (i : Nat), i < 7 → (gCells l)[k * 7 + i]? = (enG l[k])[i]?
  | [], k, h, _, _ => absurd h (by simp)
  | d :: D, 0, _, i, hi => by
    rw [gCells, List.flatMap_cons, Nat.zero_mul, Nat.zero_add, List.getElem?_append_left (by show i < 7; exact hi)]
    rfl
  | d :: D, k + 1, h, i, hi => by
    have z : (enG d).length = 7 := rfl
    rw [gCells, List.flatMap_cons, List.getElem?_append_right (by omega), show (k + 1) * 7 + i - (enG d).length = k * 7 + i by omega]
    have := gCells_get D k (by simpa using h) i hi
    rw [gCells] at this
    rw [this]
    rfl
theorem gCells_app (a b : List Gv) : gCells (a ++ b) = gCells a ++ gCells b := by simp [gCells]
theorem gCells_one (p : Gv) : gCells [p] = enG p := by simp [gCells]
theorem oneG_cell (p : Gv) : ∀ u ∈ enG p, u.oneCell' = true := by intro u hu; simp [enG] at hu; rcases hu with rfl | rfl | rfl | rfl | rfl | rfl | rfl <;> rfl
theorem oneGs_cell (l : List Gv) : ∀ u ∈ gCells l, u.oneCell' = true := by
  intro u hu
  simp only [gCells, List.mem_flatMap] at hu
  obtain ⟨p, _, hp⟩ := hu
  exact oneG_cell p u hp
theorem takeG (l : List Gv) (i : Nat) : (gCells l).take (i * 7) = gCells (l.take i) := by
  rcases Nat.lt_or_ge i l.length with h | h
  · have e : gCells l = gCells (l.take i) ++ gCells (l.drop i) := by rw [← gCells_app, List.take_append_drop]
    have e2 : i * 7 = (gCells (l.take i)).length := by rw [gCells_len, List.length_take]; omega
    rw [e, e2]; exact List.take_left
  · rw [List.take_of_length_le (by rw [gCells_len]; omega), List.take_of_length_le h]
theorem dropG (l : List Gv) (i : Nat) : (gCells l).drop (i * 7) = gCells (l.drop i) := by
  rcases Nat.lt_or_ge i l.length with h | h
  · have e : gCells l = gCells (l.take i) ++ gCells (l.drop i) := by rw [← gCells_app, List.take_append_drop]
    have e2 : i * 7 = (gCells (l.take i)).length := by rw [gCells_len, List.length_take]; omega
    rw [e, e2]; exact List.drop_left
  · rw [List.drop_of_length_le (by rw [gCells_len]; omega), List.drop_of_length_le h]; rfl
/-- A row of given things, the k-th one's cells as the walk asks for them. -/
theorem g_at {w : World} {a : Option Addr} {n cap : Nat} {l : List Gv} (h : IsRow w 7 (.slice a n cap) l.length (gCells l)) (h0 : 0 < l.length) :
    ∃ b off, a = some ⟨b, off, none⟩ ∧ b < w.heap.size ∧ n = l.length ∧ l.length ≤ cap ∧ ∀ (k : Nat) (hk : k < l.length), w.cell? ⟨b, off + k * 7, none⟩ = some (.int .i64 l[k].s) ∧ w.cell? ⟨b, off + k * 7 + 1, none⟩ = some (.string l[k].o) ∧ w.cell? ⟨b, off + k * 7 + 2, none⟩ = some (.int .i64 l[k].n) ∧ w.cell? ⟨b, off + k * 7 + 3, none⟩ = some (.int .i64 l[k].l) ∧ w.cell? ⟨b, off + k * 7 + 4, none⟩ = some (.int .i64 l[k].q) ∧ w.cell? ⟨b, off + k * 7 + 5, none⟩ = some (.string l[k].t) ∧ w.cell? ⟨b, off + k * 7 + 6, none⟩ = some (.slice l[k].a l[k].k l[k].c) := by
  obtain ⟨b, off, cap', hv, hlt, q1, q2, hc⟩ := h.open (by omega)
  simp only [Value.slice.injEq] at hv
  refine ⟨b, off, hv.1, hlt, hv.2.1, by omega, fun k hk => ⟨?_, ?_, ?_, ?_, ?_, ?_, ?_⟩⟩
  · have := hc (k * 7) (.int .i64 l[k].s) (by have := gCells_get l k hk 0 (by omega); rw [Nat.add_zero] at this; rw [this]; rfl)
    simpa using this
  · have := hc (k * 7 + 1) (.string l[k].o) (by rw [gCells_get l k hk 1 (by omega)]; rfl)
    rwa [← Nat.add_assoc] at this
  · have := hc (k * 7 + 2) (.int .i64 l[k].n) (by rw [gCells_get l k hk 2 (by omega)]; rfl)
    rwa [← Nat.add_assoc] at this
  · have := hc (k * 7 + 3) (.int .i64 l[k].l) (by rw [gCells_get l k hk 3 (by omega)]; rfl)
    rwa [← Nat.add_assoc] at this
  · have := hc (k * 7 + 4) (.int .i64 l[k].q) (by rw [gCells_get l k hk 4 (by omega)]; rfl)
    rwa [← Nat.add_assoc] at this
  · have := hc (k * 7 + 5) (.string l[k].t) (by rw [gCells_get l k hk 5 (by omega)]; rfl)
    rwa [← Nat.add_assoc] at this
  · have := hc (k * 7 + 6) (.slice l[k].a l[k].k l[k].c) (by rw [gCells_get l k hk 6 (by omega)]; rfl)
    rwa [← Nat.add_assoc] at this

/-- What is at a number. -/
def lkI (E : List (Int × Int)) (k : Int) : Int := ((E.find? fun p => p.1 == k).map (·.2)).getD 0
theorem lkI_cons (p : Int × Int) (E : List (Int × Int)) (k : Int) : lkI (p :: E) k = if p.1 = k then p.2 else lkI E k := by
  unfold lkI
  by_cases h : p.1 = k
  · rw [if_pos h, List.find?_cons_of_pos (by simpa using h)]; rfl
  · rw [if_neg h, List.find?_cons_of_neg (by simpa using h)]
theorem lkI_none {E : List (Int × Int)} {k : Int} (h : ∀ p ∈ E, p.1 ≠ k) : lkI E k = 0 := by
  induction E with
  | nil => rfl
  | cons p E ih => rw [lkI_cons, if_neg (h p (by simp)), ih fun q hq => h q (by simp [hq])]
theorem lkI_app {E : List (Int × Int)} {k : Int} (h : ∀ p ∈ E, p.1 ≠ k) (v k' : Int) : lkI (E ++ [(k, v)]) k' = if k' = k then v else lkI E k' := by
  induction E with
  | nil => rw [List.nil_append, lkI_cons]; by_cases e : k' = k <;> simp [e, lkI] <;> (intro e2; exact absurd e2.symm e)
  | cons p E ih =>
    rw [List.cons_append, lkI_cons, lkI_cons, ih fun q hq => h q (by simp [hq])]
    by_cases e : p.1 = k'
    · rw [if_pos e, if_pos e, if_neg (fun e2 => h p (by simp) (e.trans e2))]
    · rw [if_neg e, if_neg e]
theorem lkI_set : ∀ {E : List (Int × Int)} {j : Nat} {k v : Int}, E[j]? = some (k, v) → (E.map (·.1)).Nodup → ∀ v' k', lkI (E.set j (k, v')) k' = if k' = k then v' else lkI E k'
  | [], j, k, v, h, _, _, _ => by simp at h
  | p :: E, 0, k, v, h, hn, v', k' => by
    obtain rfl : p = (k, v) := by simpa using h
    rw [List.set_cons_zero, lkI_cons, lkI_cons]
    by_cases e : k' = k
    · rw [if_pos e.symm, if_pos e]
    · rw [if_neg (fun e2 => e e2.symm), if_neg e, if_neg (fun e2 => e e2.symm)]
  | p :: E, j + 1, k, v, h, hn, v', k' => by
    have h' : E[j]? = some (k, v) := by simpa using h
    rw [List.map_cons, List.nodup_cons] at hn
    have hp : p.1 ≠ k := fun e => hn.1 (by rw [e]; exact List.mem_map.2 ⟨(k, v), List.mem_of_getElem? h', rfl⟩)
    rw [List.set_cons_succ, lkI_cons, lkI_cons, lkI_set h' hn.2]
    by_cases e : p.1 = k'
    · rw [if_pos e, if_pos e, if_neg (fun e2 => hp (e.trans e2))]
    · rw [if_neg e, if_neg e]
theorem lkI_erase : ∀ {E : List (Int × Int)} {j : Nat} {k v : Int}, E[j]? = some (k, v) → (E.map (·.1)).Nodup → ∀ k', lkI (E.eraseIdx j) k' = if k' = k then 0 else lkI E k'
  | [], j, k, v, h, _, _ => by simp at h
  | p :: E, 0, k, v, h, hn, k' => by
    obtain rfl : p = (k, v) := by simpa using h
    rw [List.map_cons, List.nodup_cons] at hn
    rw [List.eraseIdx_cons_zero, lkI_cons]
    by_cases e : k' = k
    · rw [if_pos e, e]
      exact lkI_none fun q hq e2 => hn.1 (by rw [← e2]; exact List.mem_map.2 ⟨q, hq, rfl⟩)
    · rw [if_neg e, if_neg (fun e2 => e e2.symm)]
  | p :: E, j + 1, k, v, h, hn, k' => by
    have h' : E[j]? = some (k, v) := by simpa using h
    rw [List.map_cons, List.nodup_cons] at hn
    have hp : p.1 ≠ k := fun e => hn.1 (by rw [e]; exact List.mem_map.2 ⟨(k, v), List.mem_of_getElem? h', rfl⟩)
    rw [List.eraseIdx_cons_succ, lkI_cons, lkI_cons, lkI_erase h' hn.2]
    by_cases e : p.1 = k'
    · rw [if_pos e, if_pos e, if_neg (fun e2 => hp (e.trans e2))]
    · rw [if_neg e, if_neg e]
theorem lkI_at : ∀ {E : List (Int × Int)} {j : Nat} {k v : Int}, E[j]? = some (k, v) → (E.map (·.1)).Nodup → lkI E k = v
  | [], j, k, v, h, _ => by simp at h
  | p :: E, 0, k, v, h, hn => by
    obtain rfl : p = (k, v) := by simpa using h
    rw [lkI_cons, if_pos rfl]
  | p :: E, j + 1, k, v, h, hn => by
    have h' : E[j]? = some (k, v) := by simpa using h
    rw [List.map_cons, List.nodup_cons] at hn
    have hp : p.1 ≠ k := fun e => hn.1 (by rw [e]; exact List.mem_map.2 ⟨(k, v), List.mem_of_getElem? h', rfl⟩)
    rw [lkI_cons, if_neg hp]
    exact lkI_at h' hn.2
abbrev kI (p : Int × Int) : Value × Value := (.int .i64 p.1, .int .i64 p.2)
/-- A map's block holds these entries, in this order. -/
def MapL (w : World) (m : Nat) (E : List (Int × Int)) : Prop := ∃ es clock, w.heap[m]? = some (.map es clock) ∧ es.toList.map (fun e => (e.key, e.val)) = E.map kI
/-- A map's block is this function (0 where nothing is). -/
def MapI (w : World) (m : Nat) (f : Int → Int) : Prop := ∃ E : List (Int × Int), MapL w m E ∧ (E.map (·.1)).Nodup ∧ ∀ k, f k = lkI E k
theorem MapI.keep {w w' : World} {m : Nat} {f : Int → Int} (h : MapI w m f) (hk : w'.heap[m]? = w.heap[m]?) : MapI w' m f := by
  obtain ⟨E, ⟨es, c, hb, r⟩, h2⟩ := h
  exact ⟨E, ⟨es, c, hk.trans hb, r⟩, h2⟩
theorem MapI.lt {w : World} {m : Nat} {f : Int → Int} (h : MapI w m f) : m < w.heap.size := by
  obtain ⟨E, ⟨es, c, hb, r⟩, h2⟩ := h
  exact (Array.getElem?_eq_some_iff.1 hb).1
theorem find_int (k : Int) : ∀ (l : List MapEntry) (E : List (Int × Int)) (i : Nat), l.map (fun e => (e.key, e.val)) = E.map kI →
    ((∀ p ∈ E, p.1 ≠ k) ∧ Instr.findNow (.int .i64) (.int .i64 k) l i = some none) ∨
    ∃ j v, E[j]? = some (k, v) ∧ Instr.findNow (.int .i64) (.int .i64 k) l i = some (some (i + j, .int .i64 v)) ∧ j < l.length
  | [], E, i, h => by
    cases E with
    | nil => exact .inl ⟨fun p hp => absurd hp (by simp), rfl⟩
    | cons p E => simp at h
  | e :: l, E, i, h => by
    cases E with
    | nil => simp at h
    | cons p E =>
      rw [List.map_cons, List.map_cons, List.cons.injEq] at h
      obtain ⟨h1, h2⟩ := h
      obtain ⟨hk, hv⟩ := Prod.mk.inj h1
      by_cases hp : p.1 = k
      · refine .inr ⟨0, p.2, by simp [← hp], ?_, by simp⟩
        unfold Instr.findNow
        rw [hk, hv]
        simp [Instr.sameNow, hp]
      · have hn : ∀ l', Instr.findNow (.int .i64) (.int .i64 k) (e :: l') i = Instr.findNow (.int .i64) (.int .i64 k) l' (i + 1) := fun l' => by
          show (match Instr.sameNow (.int .i64) (.int .i64 k) e.key with | some true => _ | some false => _ | none => _) = _
          rw [hk]
          have : (k == p.1) = false := by simp; omega
          simp [Instr.sameNow, this]
        rcases find_int k l E (i + 1) h2 with ⟨a1, a2⟩ | ⟨j, v, a1, a2, a3⟩
        · refine .inl ⟨fun q hq => ?_, by rw [hn]; exact a2⟩
          rcases List.mem_cons.1 hq with rfl | hq
          · exact hp
          · exact a1 q hq
        · exact .inr ⟨j + 1, v, by simpa using a1, by rw [hn, a2, show i + 1 + j = i + (j + 1) by omega], by simpa using a3⟩
theorem und_mapI : Tryd.prog.underlying 66 = some (.map 3 3) := Tryd.underlying66
theorem und_intI : Tryd.prog.underlying 3 = some (.int .i64) := Tryd.underlying3
theorem map_erase {α β : Type} (f : α → β) : ∀ (l : List α) (i : Nat), (l.eraseIdx i).map f = (l.map f).eraseIdx i
  | [], _ => rfl
  | _ :: _, 0 => rfl
  | x :: l, i + 1 => by rw [List.eraseIdx_cons_succ, List.map_cons, map_erase f l i, List.map_cons, List.eraseIdx_cons_succ]
/-- v := m[k]. -/
theorem MapI.look {w : World} {m : Nat} {f : Int → Int} (h : MapI w m f) (k : Int) :
    (Instr.lookup 66 (.map (some m)) (.int .i64 k) false).run Tryd.prog w = .ok (.int .i64 (f k)) w := by
  obtain ⟨E, ⟨es, c, hb, hr⟩, hn, hf⟩ := h
  have hc := fun e n => MapKept.run_checkKey (P := Tryd.prog) (w := w) (k := .int .i64 k) und_intI (by rfl) e n
  rw [hf k]
  rcases find_int k es.toList E 0 hr with ⟨a1, a2⟩ | ⟨j, v, a1, a2, -⟩
  · rw [lkI_none a1]
    simp [Instr.lookup, run_underlying und_mapI, MapKept.run_getObj_map hb, hc, MapKept.run_findKey und_intI a2, Result.andThen]
  · rw [lkI_at a1 hn]
    simp [Instr.lookup, run_underlying und_mapI, MapKept.run_getObj_map hb, hc, MapKept.run_findKey und_intI a2, Result.andThen]
def upI (f : Int → Int) (k v : Int) : Int → Int := fun k' => if k' = k then v else f k'
/-- m[k] = v. -/
theorem MapI.put {w : World} {m : Nat} {f : Int → Int} (h : MapI w m f) (k v : Int) :
    ∃ w', (Instr.mapUpdate 66 (.map (some m)) (.int .i64 k) (.int .i64 v)).run Tryd.prog w = .ok () w' ∧ MapI w' m (upI f k v) ∧ w.grownBy w' (some m) := by
  obtain ⟨E, ⟨es, c, hb, hr⟩, hn, hf⟩ := h
  have hc := fun e n => MapKept.run_checkKey (P := Tryd.prog) (w := w) (k := .int .i64 k) und_intI (by rfl) e n
  rcases find_int k es.toList E 0 hr with ⟨a1, a2⟩ | ⟨j, v0, a1, a2, a3⟩
  · refine ⟨setBlock w m (.map (es.push ⟨.int .i64 k, .int .i64 v, c⟩) (c + 1)), ?_, ⟨E ++ [(k, v)], ⟨_, _, heap_setBlock_same hb _, ?_⟩, ?_, fun k' => ?_⟩, ⟨rfl, rfl, rfl, by simp [setBlock], fun i _ hi => heap_setBlock_other hb _ (fun e => hi (by rw [e]))⟩⟩
    · simp [Instr.mapUpdate, run_underlying und_mapI, MapKept.run_getObj_map hb, hc, MapKept.run_findKey und_intI a2, MapKept.run_setObj_map _ hb, Result.andThen, setBlock]
    · rw [Array.toList_push, List.map_append, hr, List.map_append]; rfl
    · rw [List.map_append, List.nodup_append]
      refine ⟨hn, by simp, fun a ha b hb' => ?_⟩
      obtain ⟨p, hp, rfl⟩ := List.mem_map.1 ha
      obtain rfl : b = k := by simpa using hb'
      exact a1 p hp
    · rw [lkI_app a1]; unfold upI; rw [hf k']
  · have hj : j < es.size := by simpa using a3
    have hkey : es[j].key = .int .i64 k ∧ es[j].val = .int .i64 v0 := by
      have h1 : (es.toList.map fun e => (e.key, e.val))[j]? = (E.map kI)[j]? := by rw [hr]
      rw [List.getElem?_map, List.getElem?_map, a1, List.getElem?_eq_getElem a3] at h1
      simp [kI] at h1
      exact ⟨h1.1, h1.2⟩
    refine ⟨setBlock w m (.map (es.modify j fun e => { e with key := .int .i64 k, val := .int .i64 v }) c), ?_, ⟨E.set j (k, v), ⟨_, _, heap_setBlock_same hb _, ?_⟩, ?_, fun k' => ?_⟩, ⟨rfl, rfl, rfl, by simp [setBlock], fun i _ hi => heap_setBlock_other hb _ (fun e => hi (by rw [e]))⟩⟩
    · simp [Instr.mapUpdate, run_underlying und_mapI, MapKept.run_getObj_map hb, hc, MapKept.run_findKey und_intI a2, MapKept.run_setObj_map _ hb, Result.andThen, setBlock, Instr.keyThatStays, Instr.sameBits, hj, hkey.1]
    · apply List.ext_getElem?
      intro i
      have h1 : (es.toList.map fun e => (e.key, e.val))[i]? = (E.map kI)[i]? := by rw [hr]
      rw [List.getElem?_map, List.getElem?_map] at h1
      rw [List.getElem?_map, List.getElem?_map, Array.getElem?_toList, Array.getElem?_modify, List.getElem?_set]
      have hjE : j < E.length := (List.getElem?_eq_some_iff.1 a1).1
      by_cases e : j = i
      · subst e
        rw [if_pos rfl, if_pos rfl, if_pos hjE, Array.getElem?_eq_getElem hj]
        rfl
      · rw [if_neg e, if_neg e, ← Array.getElem?_toList]; exact h1
    · have : (E.set j (k, v)).map (·.1) = E.map (·.1) := by
        apply List.ext_getElem?
        intro i
        rw [List.getElem?_map, List.getElem?_map, List.getElem?_set]
        by_cases e : j = i
        · subst e
          rw [if_pos rfl, a1, if_pos (List.getElem?_eq_some_iff.1 a1).1]
          rfl
        · rw [if_neg e]
      rw [this]; exact hn
    · rw [lkI_set a1 hn]; unfold upI; rw [hf k']
theorem MapI.del {w : World} {m : Nat} {f : Int → Int} (h : MapI w m f) (k : Int) :
    ∃ w', (∀ ty, (Builtin.delete_ #[66, 3] ty #[.map (some m), .int .i64 k]).run Tryd.prog w = .ok (.tuple #[]) w') ∧ MapI w' m (upI f k 0) ∧ w.grownBy w' (some m) := by
  obtain ⟨E, ⟨es, c, hb, hr⟩, hn, hf⟩ := h
  have hc := fun e n => MapKept.run_checkKey (P := Tryd.prog) (w := w) (k := .int .i64 k) und_intI (by rfl) e n
  rcases find_int k es.toList E 0 hr with ⟨a1, a2⟩ | ⟨j, v0, a1, a2, a3⟩
  · refine ⟨setBlock w m (.map es c), ?_, ⟨E, ⟨_, _, heap_setBlock_same hb _, hr⟩, hn, fun k' => ?_⟩, ⟨rfl, rfl, rfl, by simp [setBlock], fun i _ hi => heap_setBlock_other hb _ (fun e => hi (by rw [e]))⟩⟩
    · intro ty
      simp [Builtin.delete_, run_underlying und_mapI, MapKept.run_getObj_map hb, hc, MapKept.run_findKey und_intI a2, MapKept.run_setObj_map _ hb, Result.andThen, setBlock]
    · unfold upI
      by_cases e : k' = k
      · rw [if_pos e, e, lkI_none a1]
      · rw [if_neg e]; exact hf k'
  · have hjs : j < es.size := by simpa using a3
    have hsub : (es.eraseIdxIfInBounds j).toList = es.toList.eraseIdx j := by
      unfold Array.eraseIdxIfInBounds
      rw [dif_pos hjs]
      simp
    refine ⟨setBlock w m (.map (es.eraseIdxIfInBounds j) c), ?_, ⟨E.eraseIdx j, ⟨_, _, heap_setBlock_same hb _, ?_⟩, ?_, fun k' => ?_⟩, ⟨rfl, rfl, rfl, by simp [setBlock], fun i _ hi => heap_setBlock_other hb _ (fun e => hi (by rw [e]))⟩⟩
    · intro ty
      simp [Builtin.delete_, run_underlying und_mapI, MapKept.run_getObj_map hb, hc, MapKept.run_findKey und_intI a2, MapKept.run_setObj_map _ hb, Result.andThen, setBlock]
    · rw [hsub, map_erase, hr, map_erase]
    · rw [map_erase]
      exact List.Nodup.sublist (List.eraseIdx_sublist _ _) hn
    · rw [lkI_erase a1 hn]; unfold upI; rw [hf k']
theorem MapI.new {w : World} {m : Nat} (h : w.heap[m]? = some (.map #[] 0)) : MapI w m (fun _ => 0) := ⟨[], ⟨#[], 0, h, rfl⟩, by simp, fun _ => rfl⟩
/-- What a call that writes only the blocks F leaves. -/
structure Stp (w : World) (F F' : Nat → Prop) (w' : World) : Prop where
  os : w'.os = w.os
  tape : w'.tape = w.tape
  output : w'.output = w.output
  size : w.heap.size ≤ w'.heap.size
  block : ∀ k, k < w.heap.size → ¬ F k → w'.heap[k]? = w.heap[k]?
  fp : ∀ k, F' k → F k ∨ w.heap.size ≤ k
theorem Stp.of {w w' : World} (F : Nat → Prop) (hb : Below w.heap.size w w') : Stp w F F w' := ⟨hb.os, hb.tape, hb.output, hb.size, fun k hk _ => hb.block k hk, fun _ h => .inl h⟩
theorem Stp.trans {w w1 w2 : World} {F F1 F2 : Nat → Prop} (h : Stp w F F1 w1) (k : Stp w1 F1 F2 w2) : Stp w F F2 w2 :=
  ⟨k.os.trans h.os, k.tape.trans h.tape, k.output.trans h.output, Nat.le_trans h.size k.size, fun i hi hn => (k.block i (Nat.lt_of_lt_of_le hi h.size) (fun hf => by
    rcases h.fp i hf with hf | hf
    · exact hn hf
    · omega)).trans (h.block i hi hn), fun i hf => by
    rcases k.fp i hf with hf | hf
    · exact h.fp i hf
    · exact .inr (Nat.le_trans h.size hf)⟩
theorem Stp.below {base : Nat} {w w' : World} {F F' : Nat → Prop} (h : Stp w F F' w') (hs : base ≤ w.heap.size) (hf : ∀ k, F k → base ≤ k) : Below base w w' :=
  ⟨h.os, h.tape, h.output, h.size, fun k hk => h.block k (Nat.lt_of_lt_of_le hk hs) fun hk' => by have := hf k hk'; omega⟩
theorem Stp.far {w w' : World} {F F' : Nat → Prop} (h : Stp w F F' w') {k : Nat} (hk : k < w.heap.size) (hn : ¬ F k) : w'.heap[k]? = w.heap[k]? ∧ ¬ F' k := ⟨h.block k hk hn, fun hf => by
  rcases h.fp k hf with hf | hf
  · exact hn hf
  · omega⟩
theorem Stp.grown {w w' : World} {F : Nat → Prop} {r : Option Nat} (h : w.grownBy w' r) (hr : ∀ k, r = some k → F k) : Stp w F F w' :=
  ⟨h.os, h.tape, h.output, h.size, fun k hk hn => h.block k hk fun e => hn (hr k e.symm), fun _ h => .inl h⟩
theorem row_keep {w w' : World} {base sz : Nat} {e : TypeId} {v : Value} {n : Nat} {xs : List Value} (h : w.ownsRow base e sz v n xs) (hk : ∀ k, v.ownBlock = some k → w'.heap[k]? = w.heap[k]?) : w'.ownsRow base e sz v n xs := by
  refine ⟨h.1, ?_⟩
  rcases h.2 with h | ⟨g, cap, cur, rfl, hb, hg, r⟩
  · exact .inl h
  · exact .inr ⟨g, cap, cur, rfl, hb, (hk g rfl).trans hg, r⟩
/-- A queue: its room, what is there, how many of each did not come in. -/
structure Qu where
  r : Int
  l : List Gv
  ov : Int → Int
abbrev quC (Q : Qu) (vq : Value) (m : Nat) : Array Value := #[.int .i64 Q.r, vq, .map (some m)]
/-- The queue that a pointer to block g means. -/
structure QuV (base : Nat) (w : World) (g m : Nat) (vq : Value) (Q : Qu) : Prop where
  lo : base ≤ g
  lm : base ≤ m
  blk : w.heap[g]? = some (.cells (quC Q vq m) 68 (0, 0))
  mp : MapI w m Q.ov
  own : w.ownsRow base 38 7 vq Q.l.length (gCells Q.l)
  ng : vq.ownBlock ≠ some g
  nm : vq.ownBlock ≠ some m
/-- The blocks of a queue. -/
def QF (g m : Nat) (vq : Value) (k : Nat) : Prop := k = g ∨ k = m ∨ vq.ownBlock = some k
theorem QuV.gm {base : Nat} {w : World} {g m : Nat} {vq : Value} {Q : Qu} (h : QuV base w g m vq Q) : g ≠ m := by
  intro e
  obtain ⟨E, ⟨es, c, hb, -⟩, -⟩ := h.mp
  have := h.blk
  rw [e, hb] at this
  cases this
theorem QuV.lt {base : Nat} {w : World} {g m : Nat} {vq : Value} {Q : Qu} (h : QuV base w g m vq Q) {k : Nat} (hk : QF g m vq k) : base ≤ k ∧ k < w.heap.size := by
  rcases hk with rfl | rfl | hk
  · exact ⟨h.lo, (Array.getElem?_eq_some_iff.1 h.blk).1⟩
  · exact ⟨h.lm, h.mp.lt⟩
  · exact h.own.lt k hk
theorem QuV.keep {base : Nat} {w w' : World} {g m : Nat} {vq : Value} {Q : Qu} (h : QuV base w g m vq Q) (hk : ∀ k, QF g m vq k → w'.heap[k]? = w.heap[k]?) : QuV base w' g m vq Q :=
  ⟨h.lo, h.lm, (hk g (.inl rfl)).trans h.blk, h.mp.keep (hk m (.inr (.inl rfl))), row_keep h.own fun k e => hk k (.inr (.inr e)), h.ng, h.nm⟩
theorem QuV.below {base : Nat} {w w' : World} {g m : Nat} {vq : Value} {Q : Qu} (h : QuV base w g m vq Q) (hb : Below w.heap.size w w') : QuV base w' g m vq Q :=
  h.keep fun k hk => hb.block k (h.lt hk).2
theorem QuV.size {base : Nat} {w : World} {g m : Nat} {vq : Value} {Q : Qu} (h : QuV base w g m vq Q) : g < w.heap.size ∧ m < w.heap.size ∧ base ≤ w.heap.size := by
  have h1 := (h.lt (.inl rfl)).2
  have h2 := (h.lt (k := m) (.inr (.inl rfl))).2
  have := h.lo
  exact ⟨h1, h2, by omega⟩
/-- The cells of a queue, as the walk asks for them. -/
theorem QuV.cells {base : Nat} {w : World} {g m : Nat} {vq : Value} {Q : Qu} (h : QuV base w g m vq Q) :
    w.cell? ⟨g, 0, none⟩ = some (.int .i64 Q.r) ∧ w.cell? ⟨g, 1, none⟩ = some vq ∧ w.cell? ⟨g, 2, none⟩ = some (.map (some m)) ∧ ∀ o, w.frozen? ⟨g, o, none⟩ = false := by
  have hb := h.blk
  refine ⟨?_, ?_, ?_, fun o => by simp [World.frozen?, hb]⟩ <;> (rw [Lib.cell_of_heap hb]; rfl)
end Go.Proofs.YtnldibcfpbignaaDoor
