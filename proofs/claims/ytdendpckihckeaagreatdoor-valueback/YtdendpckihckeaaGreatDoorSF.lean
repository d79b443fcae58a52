/- A reading in five cells: its laws. -/
import Derived.Test.YtdendpckihckeaaGreatDoorVL
namespace Go.Proofs.YtdendpckihckeaaGreatDoor
open Go.RowKit

theorem set_get {W : World} {b i : Nat} {u : Value} (h : W.cell? ⟨b, i, none⟩ = some u) (j : Nat) (x : Value) : (W.setCell ⟨b, j, none⟩ x).cell? ⟨b, i, none⟩ = some (if i = j then x else u) := by
  by_cases e : i = j
  · subst e
    rw [World.cell?_setCell_same _ _ _ h, if_pos rfl]
  · rw [World.cell?_setCell_other _ _ _ _ (fun e' => e (congrArg Addr.off e').symm), h, if_neg e]
abbrev set5 (W : World) (b : Nat) (x y z u v : Value) : World := ((((W.setCell ⟨b, 0, none⟩ x).setCell ⟨b, 1, none⟩ y).setCell ⟨b, 2, none⟩ z).setCell ⟨b, 3, none⟩ u).setCell ⟨b, 4, none⟩ v
structure Five (b : Nat) (W : World) (x y z u v : Value) : Prop where
  c0 : W.cell? ⟨b, 0, none⟩ = some x
  c1 : W.cell? ⟨b, 1, none⟩ = some y
  c2 : W.cell? ⟨b, 2, none⟩ = some z
  c3 : W.cell? ⟨b, 3, none⟩ = some u
  c4 : W.cell? ⟨b, 4, none⟩ = some v
theorem Five.set {b : Nat} {W : World} {x y z u v : Value} (h : Five b W x y z u v) (x' y' z' u' v' : Value) : Five b (set5 W b x' y' z' u' v') x' y' z' u' v' := by
  refine ⟨?_, ?_, ?_, ?_, ?_⟩
  · simpa using set_get (set_get (set_get (set_get (set_get h.c0 0 x') 1 y') 2 z') 3 u') 4 v'
  · simpa using set_get (set_get (set_get (set_get (set_get h.c1 0 x') 1 y') 2 z') 3 u') 4 v'
  · simpa using set_get (set_get (set_get (set_get (set_get h.c2 0 x') 1 y') 2 z') 3 u') 4 v'
  · simpa using set_get (set_get (set_get (set_get (set_get h.c3 0 x') 1 y') 2 z') 3 u') 4 v'
  · simpa using set_get (set_get (set_get (set_get (set_get h.c4 0 x') 1 y') 2 z') 3 u') 4 v'
theorem Five.below {b B : Nat} {W W' : World} {x y z u v : Value} (h : Five b W x y z u v) (hb : Below B W W') (hlt : b < B) : Five b W' x y z u v :=
  ⟨(hb.cell (p := ⟨b, 0, none⟩) hlt).trans h.c0, (hb.cell (p := ⟨b, 1, none⟩) hlt).trans h.c1, (hb.cell (p := ⟨b, 2, none⟩) hlt).trans h.c2, (hb.cell (p := ⟨b, 3, none⟩) hlt).trans h.c3, (hb.cell (p := ⟨b, 4, none⟩) hlt).trans h.c4⟩
theorem Five.alloc {b : Nat} {W : World} {x y z u v : Value} (h : Five b W x y z u v) (o : Obj) : Five b (W.alloc o) x y z u v :=
  h.below ((Below.refl W.heap.size W).alloc (Nat.le_refl _) o) (World.block_lt_of_cell? _ _ h.c0)
theorem set5_below {w0 w : World} {b : Nat} (h : Below b w0 w) (x y z u v : Value) : Below b w0 (set5 w b x y z u v) :=
  ((set3_below h x y z).setCell (p := ⟨b, 3, none⟩) (Nat.le_refl _) _).setCell (p := ⟨b, 4, none⟩) (Nat.le_refl _) _
/-- A reading, as the model has it. -/
abbrev vs (k n : Int) (s r : ByteArray) (e : Int) : Value := .agg #[.int .i64 k, .int .i64 n, .string s, .string r, .int .i64 e]
theorem results_s1 {fn : Func} {p : Tmp} (h : fn.results = #[.cell p 31]) (tmps : Array Value) (W : World) (b : Nat) (hp : tmps.getD p undef = .pointer (some ⟨b, 0, none⟩)) {k n : Int} {s r : ByteArray} {e : Int} (h5 : Five b W (.int .i64 k) (.int .i64 n) (.string s) (.string r) (.int .i64 e)) :
    (results fn tmps).run Tryz.prog W = .ok (vs k n s r e) W := by
  have e1 : (results fn tmps).run Tryz.prog W = ((asAddr (tmps.getD p undef)).run Tryz.prog W).andThen fun a w₁ => (loadVar 31 a).run Tryz.prog w₁ := by
    simp only [results, h]
    simp [Sem.run_bind, Result.andThen]
  obtain ⟨c0, c1, c2, c3, c4⟩ := h5
  rw [e1, hp]
  have e : (asAddr (.pointer (some ⟨b, 0, none⟩))).run Tryz.prog W = .ok ⟨b, 0, none⟩ W := rfl
  rw [e]
  simp only [Result.andThen]
  go_simp
/-- The reference's result, not yet set. -/
abbrev wf (w : World) : World := w.alloc (.cells #[.int .i64 0, .int .i64 0, .string ⟨#[]⟩, .string ⟨#[]⟩, .int .i64 0] 31)
structure Zf (b : Nat) (w : World) : Prop where
  c : Five b w (.int .i64 0) (.int .i64 0) (.string ⟨#[]⟩) (.string ⟨#[]⟩) (.int .i64 0)
  f : ∀ j, w.frozen? ⟨b, j, none⟩ = false
theorem Zf.new (w : World) : Zf w.heap.size (wf w) := ⟨⟨by simp, by simp, by simp, by simp, by simp⟩, fun j => by simp⟩
theorem Zf.below {b B : Nat} {w w' : World} (h : Zf b w) (hb : Below B w w') (hlt : b < B) : Zf b w' :=
  ⟨h.c.below hb hlt, fun j => (hb.frozen (p := ⟨b, j, none⟩) hlt).trans (h.f j)⟩
theorem wf_below (w : World) : Below w.heap.size w (wf w) := (Below.refl _ _).alloc (Nat.le_refl _) _
end Go.Proofs.YtdendpckihckeaaGreatDoor
