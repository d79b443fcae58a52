/- A pair of links with a net between: in memory, its calls. -/
import Derived.Test.YtiejehaaglpkoaaLnS
import Derived.Test.YtiejehaaglpkoaaHL
namespace Go.Proofs.Ytiejehaaglpkoaa
open Go.RowKit Go.ChangeMaps

theorem St.foc {w0 w : World} {A B ext : List (Tg w0.heap.size)} {t : Tg w0.heap.size} (h : St w0 ((A ++ t :: B) ++ ext) w) : St w0 (t :: (A ++ B ++ ext)) w := by
  refine h.perm ?_
  rw [List.append_assoc, List.append_assoc]
  exact List.perm_middle
theorem St.unfoc {w0 w : World} {A B ext ex : List (Tg w0.heap.size)} {t : Tg w0.heap.size} (h : St w0 (ex ++ t :: (A ++ B ++ ext)) w) : St w0 ((A ++ t :: B) ++ (ex ++ ext)) w := by
  refine h.perm ?_
  refine List.perm_middle.trans ?_
  have e1 : (A ++ t :: B) ++ (ex ++ ext) = A ++ t :: (B ++ (ex ++ ext)) := by simp
  have e2 : A ++ (B ++ (ex ++ ext)) = ((A ++ B) ++ ex) ++ ext := by simp
  have e3 : ex ++ (A ++ B ++ ext) = (ex ++ (A ++ B)) ++ ext := by simp
  rw [e1]
  refine List.Perm.trans ?_ List.perm_middle.symm
  refine List.Perm.cons t ?_
  rw [e2, e3]
  exact List.Perm.append_right ext List.perm_append_comm
/-- A pair, plainly: both ends, what is under way, what was sent and handed on. -/
structure Pr where
  L : Nat → Lk
  R : Nat → List Pk
  S : Nat → List ByteArray
  G : Nat → List ByteArray
/-- Where its things lie. -/
structure Ad where
  gl : Nat → Nat
  ml : Nat → Nat
  vl : Nat → Value
  vs : Nat → Value
  vg : Nat → Value
  gn : Nat
  V : Nat → Value
def pairC (a : Ad) : Array Value := #[lP (a.gl 0), lP (a.gl 1), nP a.gn, a.vs 0, a.vs 1, a.vg 0, a.vg 1]
def tgs (base P : Nat) (c : Array Value) (a : Ad) (s : Pr) : List (Tg base) :=
  [blkT base P (.cells c 66 (0, 0)), linkT base (a.gl 0) (a.ml 0) (a.vl 0) (s.L 0), linkT base (a.gl 1) (a.ml 1) (a.vl 1) (s.L 1), netT base a.gn a.V s.R noA, strT base (a.vs 0) (s.S 0), strT base (a.vs 1) (s.S 1), strT base (a.vg 0) (s.G 0), strT base (a.vg 1) (s.G 1)]
def PS (w0 : World) (P : Nat) (s : Pr) (ext : List (Tg w0.heap.size)) (w : World) : Prop := ∃ a, St w0 (tgs _ P (pairC a) a s ++ ext) w
def setL (s : Pr) (i : Nat) (L : Lk) : Pr := ⟨up s.L i L, s.R, s.S, s.G⟩
def setR (s : Pr) (R : Nat → List Pk) : Pr := ⟨s.L, R, s.S, s.G⟩
def setG (s : Pr) (i : Nat) (l : List ByteArray) : Pr := ⟨s.L, s.R, s.S, up s.G i l⟩
def setS (s : Pr) (i : Nat) (l : List ByteArray) : Pr := ⟨s.L, s.R, up s.S i l, s.G⟩
abbrev adL (a : Ad) (i : Nat) (v : Value) : Ad := ⟨a.gl, a.ml, up a.vl i v, a.vs, a.vg, a.gn, a.V⟩
abbrev adN (a : Ad) (V : Nat → Value) : Ad := ⟨a.gl, a.ml, a.vl, a.vs, a.vg, a.gn, V⟩
abbrev adS (a : Ad) (i : Nat) (v : Value) : Ad := ⟨a.gl, a.ml, a.vl, up a.vs i v, a.vg, a.gn, a.V⟩
abbrev adG (a : Ad) (i : Nat) (v : Value) : Ad := ⟨a.gl, a.ml, a.vl, a.vs, up a.vg i v, a.gn, a.V⟩
theorem up0 {α : Type} (F : Nat → α) (x : α) : up F 0 x 0 = x ∧ up F 0 x 1 = F 1 ∧ up F 1 x 1 = x ∧ up F 1 x 0 = F 0 := ⟨rfl, rfl, rfl, rfl⟩
/-- One end of a pair is looked at, and put back. -/
theorem foc_link {w0 w : World} {P : Nat} {c : Array Value} {a : Ad} {s : Pr} {ext : List (Tg w0.heap.size)} (h : St w0 (tgs _ P c a s ++ ext) w) {i : Nat} (hi : i < 2) :
    ∃ rest, St w0 (linkT _ (a.gl i) (a.ml i) (a.vl i) (s.L i) :: rest) w ∧ ∀ ex v' L' w', St w0 (ex ++ linkT _ (a.gl i) (a.ml i) v' L' :: rest) w' → St w0 (tgs _ P c (adL a i v') (setL s i L') ++ (ex ++ ext)) w' := by
  match i, hi with
  | 0, _ => exact ⟨_, St.foc (A := [blkT _ P (.cells c 66 (0, 0))]) h, fun _ _ _ _ h' => St.unfoc (A := [blkT _ P (.cells c 66 (0, 0))]) h'⟩
  | 1, _ => exact ⟨_, St.foc (A := [blkT _ P (.cells c 66 (0, 0)), linkT _ (a.gl 0) (a.ml 0) (a.vl 0) (s.L 0)]) h, fun _ _ _ _ h' => St.unfoc (A := [blkT _ P (.cells c 66 (0, 0)), linkT _ (a.gl 0) (a.ml 0) (a.vl 0) (s.L 0)]) h'⟩
theorem foc_net {w0 w : World} {P : Nat} {c : Array Value} {a : Ad} {s : Pr} {ext : List (Tg w0.heap.size)} (h : St w0 (tgs _ P c a s ++ ext) w) :
    ∃ rest, St w0 (netT _ a.gn a.V s.R noA :: rest) w ∧ ∀ ex V' R' w', St w0 (ex ++ netT _ a.gn V' R' noA :: rest) w' → St w0 (tgs _ P c (adN a V') (setR s R') ++ (ex ++ ext)) w' :=
  ⟨_, St.foc (A := [blkT _ P (.cells c 66 (0, 0)), linkT _ (a.gl 0) (a.ml 0) (a.vl 0) (s.L 0), linkT _ (a.gl 1) (a.ml 1) (a.vl 1) (s.L 1)]) h, fun _ _ _ _ h' => St.unfoc (A := [blkT _ P (.cells c 66 (0, 0)), linkT _ (a.gl 0) (a.ml 0) (a.vl 0) (s.L 0), linkT _ (a.gl 1) (a.ml 1) (a.vl 1) (s.L 1)]) h'⟩
theorem foc_blk {w0 w : World} {P : Nat} {c : Array Value} {a : Ad} {s : Pr} {ext : List (Tg w0.heap.size)} (h : St w0 (tgs _ P c a s ++ ext) w) :
    ∃ rest, St w0 (blkT _ P (.cells c 66 (0, 0)) :: rest) w ∧ ∀ c' w', St w0 (blkT _ P (.cells c' 66 (0, 0)) :: rest) w' → St w0 (tgs _ P c' a s ++ ext) w' :=
  ⟨_, St.foc (A := []) h, fun _ _ h' => St.unfoc (A := []) (ex := []) h'⟩
theorem foc_sent {w0 w : World} {P : Nat} {c : Array Value} {a : Ad} {s : Pr} {ext : List (Tg w0.heap.size)} (h : St w0 (tgs _ P c a s ++ ext) w) {i : Nat} (hi : i < 2) :
    ∃ rest, St w0 (strT _ (a.vs i) (s.S i) :: rest) w ∧ ∀ v' l' w', St w0 (strT _ v' l' :: rest) w' → St w0 (tgs _ P c (adS a i v') (setS s i l') ++ ext) w' := by
  match i, hi with
  | 0, _ => exact ⟨_, St.foc (A := [blkT _ P (.cells c 66 (0, 0)), linkT _ (a.gl 0) (a.ml 0) (a.vl 0) (s.L 0), linkT _ (a.gl 1) (a.ml 1) (a.vl 1) (s.L 1), netT _ a.gn a.V s.R noA]) h, fun _ _ _ h' => St.unfoc (ex := []) (A := [blkT _ P (.cells c 66 (0, 0)), linkT _ (a.gl 0) (a.ml 0) (a.vl 0) (s.L 0), linkT _ (a.gl 1) (a.ml 1) (a.vl 1) (s.L 1), netT _ a.gn a.V s.R noA]) h'⟩
  | 1, _ => exact ⟨_, St.foc (A := [blkT _ P (.cells c 66 (0, 0)), linkT _ (a.gl 0) (a.ml 0) (a.vl 0) (s.L 0), linkT _ (a.gl 1) (a.ml 1) (a.vl 1) (s.L 1), netT _ a.gn a.V s.R noA, strT _ (a.vs 0) (s.S 0)]) h, fun _ _ _ h' => St.unfoc (ex := []) (A := [blkT _ P (.cells c 66 (0, 0)), linkT _ (a.gl 0) (a.ml 0) (a.vl 0) (s.L 0), linkT _ (a.gl 1) (a.ml 1) (a.vl 1) (s.L 1), netT _ a.gn a.V s.R noA, strT _ (a.vs 0) (s.S 0)]) h'⟩
theorem foc_got {w0 w : World} {P : Nat} {c : Array Value} {a : Ad} {s : Pr} {ext : List (Tg w0.heap.size)} (h : St w0 (tgs _ P c a s ++ ext) w) {i : Nat} (hi : i < 2) :
    ∃ rest, St w0 (strT _ (a.vg i) (s.G i) :: rest) w ∧ ∀ v' l' w', St w0 (strT _ v' l' :: rest) w' → St w0 (tgs _ P c (adG a i v') (setG s i l') ++ ext) w' := by
  match i, hi with
  | 0, _ => exact ⟨_, St.foc (A := [blkT _ P (.cells c 66 (0, 0)), linkT _ (a.gl 0) (a.ml 0) (a.vl 0) (s.L 0), linkT _ (a.gl 1) (a.ml 1) (a.vl 1) (s.L 1), netT _ a.gn a.V s.R noA, strT _ (a.vs 0) (s.S 0), strT _ (a.vs 1) (s.S 1)]) h, fun _ _ _ h' => St.unfoc (ex := []) (A := [blkT _ P (.cells c 66 (0, 0)), linkT _ (a.gl 0) (a.ml 0) (a.vl 0) (s.L 0), linkT _ (a.gl 1) (a.ml 1) (a.vl 1) (s.L 1), netT _ a.gn a.V s.R noA, strT _ (a.vs 0) (s.S 0), strT _ (a.vs 1) (s.S 1)]) h'⟩
  | 1, _ => exact ⟨_, St.foc (A := [blkT _ P (.cells c 66 (0, 0)), linkT _ (a.gl 0) (a.ml 0) (a.vl 0) (s.L 0), linkT _ (a.gl 1) (a.ml 1) (a.vl 1) (s.L 1), netT _ a.gn a.V s.R noA, strT _ (a.vs 0) (s.S 0), strT _ (a.vs 1) (s.S 1), strT _ (a.vg 0) (s.G 0)]) h, fun _ _ _ h' => St.unfoc (ex := []) (A := [blkT _ P (.cells c 66 (0, 0)), linkT _ (a.gl 0) (a.ml 0) (a.vl 0) (s.L 0), linkT _ (a.gl 1) (a.ml 1) (a.vl 1) (s.L 1), netT _ a.gn a.V s.R noA, strT _ (a.vs 0) (s.S 0), strT _ (a.vs 1) (s.S 1), strT _ (a.vg 0) (s.G 0)]) h'⟩
/-- The pair's cells. -/
theorem pair_cells {w0 w : World} {P : Nat} {a : Ad} {s : Pr} {ext : List (Tg w0.heap.size)} (h : St w0 (tgs _ P (pairC a) a s ++ ext) w) :
    w.heap[P]? = some (.cells (pairC a) 66 (0, 0)) ∧ w.cell? ⟨P, 2, none⟩ = some (nP a.gn) ∧ (∀ i, i < 2 → w.cell? ⟨P, i, none⟩ = some (lP (a.gl i)) ∧ w.cell? ⟨P, 3 + i, none⟩ = some (a.vs i) ∧ w.cell? ⟨P, 5 + i, none⟩ = some (a.vg i)) ∧ (∀ o, w.frozen? ⟨P, o, none⟩ = false) ∧ P < w.heap.size := by
  obtain ⟨rest, hb, -⟩ := foc_blk h
  have hk : w.heap[P]? = some (.cells (pairC a) 66 (0, 0)) := hb.hd.2
  refine ⟨hk, by rw [Lib.cell_of_heap hk]; rfl, fun i hi => ?_, fun o => by simp [World.frozen?, hk], (Array.getElem?_eq_some_iff.1 hk).1⟩
  match i, hi with
  | 0, _ => exact ⟨by rw [Lib.cell_of_heap hk]; rfl, by rw [Lib.cell_of_heap hk]; rfl, by rw [Lib.cell_of_heap hk]; rfl⟩
  | 1, _ => exact ⟨by rw [Lib.cell_of_heap hk]; rfl, by rw [Lib.cell_of_heap hk]; rfl, by rw [Lib.cell_of_heap hk]; rfl⟩
/-- A call of the net. -/
theorem St.net {w0 w : World} {l : List (Tg w0.heap.size)} {g : Nat} {V : Nat → Value} {R R' : Nat → List Pk} {A : Nat → Bool} {f : FuncId} {args : Array Value} {r : Value} (h : St w0 (netT _ g V R A :: l) w)
    (hc : NetV w0.heap.size w g V R A → Calls Try.prog f args w fun e w' => NP w0.heap.size w g V R' A r e w') : Calls Try.prog f args w fun e w' => e = .returned r ∧ ∃ V', St w0 (netT _ g V' R' A :: l) w' := by
  refine (hc h.hd).mono fun e w' hp => ?_
  obtain ⟨he, V', k1, k2⟩ := hp
  exact ⟨he, V', h.step (t' := netT _ g V' R' A) ⟨k2.os, k2.tape, k2.output, k2.size, k2.block, k2.fp⟩ k1⟩
end Go.Proofs.Ytiejehaaglpkoaa
