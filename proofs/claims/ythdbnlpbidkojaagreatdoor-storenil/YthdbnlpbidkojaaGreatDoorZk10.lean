/- store's waitsAtAll: its walk. -/
import Derived.Test.YthdbnlpbidkojaaGreatDoorZk8
import Derived.Test.YthdbnlpbidkojaaGreatDoorZk7
import Derived.Test.YthdbnlpbidkojaaGreatDoorZk2
import Derived.Test.YthdbnlpbidkojaaGreatDoorZk3
import Derived.Test.YthdbnlpbidkojaaGreatDoorZk9
import Derived.Deep.RegionHeld3
namespace Go.Proofs.YthdbnlpbidkojaaGreatDoor
open Go.RowKit Go.ChangeMaps

/-- Whether it waits for somebody. -/
def anyW (f : Nat → Bool) : Bool := f 0 || f 1 || f 2 || f 3 || f 4 || f 5 || f 6 || f 7 || f 8 || f 9 || f 10 || f 11 || f 12 || f 13 || f 14 || f 15
set_option maxRecDepth 100000 in
theorem eqlW (b0 b1 b2 b3 b4 b5 b6 b7 b8 b9 b10 b11 b12 b13 b14 b15 : Bool) (w : World) : (Op.equalIn 10000 89 (.agg #[.bool b0, .bool b1, .bool b2, .bool b3, .bool b4, .bool b5, .bool b6, .bool b7, .bool b8, .bool b9, .bool b10, .bool b11, .bool b12, .bool b13, .bool b14, .bool b15]) (.agg #[.bool false, .bool false, .bool false, .bool false, .bool false, .bool false, .bool false, .bool false, .bool false, .bool false, .bool false, .bool false, .bool false, .bool false, .bool false, .bool false])).run Tryz.prog w = .ok (!(b0 || b1 || b2 || b3 || b4 || b5 || b6 || b7 || b8 || b9 || b10 || b11 || b12 || b13 || b14 || b15)) w := by
  cases b0
  rotate_left
  · kernel_rfl
  cases b1
  rotate_left
  · kernel_rfl
  cases b2
  rotate_left
  · kernel_rfl
  cases b3
  rotate_left
  · kernel_rfl
  cases b4
  rotate_left
  · kernel_rfl
  cases b5
  rotate_left
  · kernel_rfl
  cases b6
  rotate_left
  · kernel_rfl
  cases b7
  rotate_left
  · kernel_rfl
  cases b8
  rotate_left
  · kernel_rfl
  cases b9
  rotate_left
  · kernel_rfl
  cases b10
  rotate_left
  · kernel_rfl
  cases b11
  rotate_left
  · kernel_rfl
  cases b12
  rotate_left
  · kernel_rfl
  cases b13
  rotate_left
  · kernel_rfl
  cases b14
  rotate_left
  · kernel_rfl
  cases b15
  rotate_left
  · kernel_rfl
  kernel_rfl
set_option maxRecDepth 100000 in
set_option maxHeartbeats 4000000 in
theorem waitsAll_any (w : World) (g : Nat) (x : Kp) (vo va vc : Value) (hk : w.heap[g]? = some (.cells (kpA x vo va vc) 91 (0, 0))) :
    Calls Tryz.prog 54 #[.pointer (some ⟨g, 0, none⟩)] w fun e w' => e = .returned (.bool (anyW x.f)) ∧ w' = w := by
  have c0 : w.cell? ⟨g, 9, none⟩ = some (.bool (x.f 0)) := by rw [Lib.cell_of_heap hk]; rfl
  have c1 : w.cell? ⟨g, 10, none⟩ = some (.bool (x.f 1)) := by rw [Lib.cell_of_heap hk]; rfl
  have c2 : w.cell? ⟨g, 11, none⟩ = some (.bool (x.f 2)) := by rw [Lib.cell_of_heap hk]; rfl
  have c3 : w.cell? ⟨g, 12, none⟩ = some (.bool (x.f 3)) := by rw [Lib.cell_of_heap hk]; rfl
  have c4 : w.cell? ⟨g, 13, none⟩ = some (.bool (x.f 4)) := by rw [Lib.cell_of_heap hk]; rfl
  have c5 : w.cell? ⟨g, 14, none⟩ = some (.bool (x.f 5)) := by rw [Lib.cell_of_heap hk]; rfl
  have c6 : w.cell? ⟨g, 15, none⟩ = some (.bool (x.f 6)) := by rw [Lib.cell_of_heap hk]; rfl
  have c7 : w.cell? ⟨g, 16, none⟩ = some (.bool (x.f 7)) := by rw [Lib.cell_of_heap hk]; rfl
  have c8 : w.cell? ⟨g, 17, none⟩ = some (.bool (x.f 8)) := by rw [Lib.cell_of_heap hk]; rfl
  have c9 : w.cell? ⟨g, 18, none⟩ = some (.bool (x.f 9)) := by rw [Lib.cell_of_heap hk]; rfl
  have c10 : w.cell? ⟨g, 19, none⟩ = some (.bool (x.f 10)) := by rw [Lib.cell_of_heap hk]; rfl
  have c11 : w.cell? ⟨g, 20, none⟩ = some (.bool (x.f 11)) := by rw [Lib.cell_of_heap hk]; rfl
  have c12 : w.cell? ⟨g, 21, none⟩ = some (.bool (x.f 12)) := by rw [Lib.cell_of_heap hk]; rfl
  have c13 : w.cell? ⟨g, 22, none⟩ = some (.bool (x.f 13)) := by rw [Lib.cell_of_heap hk]; rfl
  have c14 : w.cell? ⟨g, 23, none⟩ = some (.bool (x.f 14)) := by rw [Lib.cell_of_heap hk]; rfl
  have c15 : w.cell? ⟨g, 24, none⟩ = some (.bool (x.f 15)) := by rw [Lib.cell_of_heap hk]; rfl
  have HA : Hid (anyW x.f = (x.f 0 || x.f 1 || x.f 2 || x.f 3 || x.f 4 || x.f 5 || x.f 6 || x.f 7 || x.f 8 || x.f 9 || x.f 10 || x.f 11 || x.f 12 || x.f 13 || x.f 14 || x.f 15)) := rfl
  generalize anyW x.f = A at *
  generalize x.f 0 = b0 at *
  generalize x.f 1 = b1 at *
  generalize x.f 2 = b2 at *
  generalize x.f 3 = b3 at *
  generalize x.f 4 = b4 at *
  generalize x.f 5 = b5 at *
  generalize x.f 6 = b6 at *
  generalize x.f 7 = b7 at *
  generalize x.f 8 = b8 at *
  generalize x.f 9 = b9 at *
  generalize x.f 10 = b10 at *
  generalize x.f 11 = b11 at *
  generalize x.f 12 = b12 at *
  generalize x.f 13 = b13 at *
  generalize x.f 14 = b14 at *
  generalize x.f 15 = b15 at *
  clear hk
  have hE := fun W => eqlW b0 b1 b2 b3 b4 b5 b6 b7 b8 b9 b10 b11 b12 b13 b14 b15 W
  go_enter Tryz.func54, Tryz.ntmps54
  go_wp2
  go_ret
  exact ⟨by rw [HA.out]; rfl, rfl⟩
end Go.Proofs.YthdbnlpbidkojaaGreatDoor
/- store's waitsFor: its walk. -/
namespace Go.Proofs.YthdbnlpbidkojaaGreatDoor
open Go.RowKit Go.ChangeMaps

theorem nodes_one {n : Int} : nodesB [n] = isN n := by
  cases h : isN n
  · refine nodesB_false fun hp => ?_
    have := hp 0 (by simp)
    simp at this
    rw [isN_of this.1 this.2] at h
    cases h
  · obtain ⟨h1, h2⟩ := isN_get h
    refine nodesB_true fun k hk => ?_
    obtain rfl : k = 0 := by simpa using hk
    exact ⟨h1, h2, fun j e => by omega⟩
theorem kp_cell {w : World} {g : Nat} {x : Kp} {vo va vc : Value} (hk : w.heap[g]? = some (.cells (kpA x vo va vc) 91 (0, 0))) {k : Nat} (h : k ≤ 15) : w.cell? ⟨g, 9 + k, none⟩ = some (.bool (x.f k)) := by
  rw [Lib.cell_of_heap hk]
  have h16 : k = 0 ∨ k = 1 ∨ k = 2 ∨ k = 3 ∨ k = 4 ∨ k = 5 ∨ k = 6 ∨ k = 7 ∨ k = 8 ∨ k = 9 ∨ k = 10 ∨ k = 11 ∨ k = 12 ∨ k = 13 ∨ k = 14 ∨ k = 15 := by omega
  rcases h16 with rfl | rfl | rfl | rfl | rfl | rfl | rfl | rfl | rfl | rfl | rfl | rfl | rfl | rfl | rfl | rfl <;> rfl
def updW (f : Nat → Bool) (k : Nat) (b : Bool) : Nat → Bool := fun i => if i = k then b else f i
theorem kp_set (t : Ty) (s : Bool) (f : Nat → Bool) (vo va vc : Value) {k : Nat} (h : k ≤ 15) (b : Bool) : (kpA ⟨t, s, f⟩ vo va vc).setIfInBounds (9 + k) (.bool b) = kpA ⟨t, s, updW f k b⟩ vo va vc := by
  have h16 : k = 0 ∨ k = 1 ∨ k = 2 ∨ k = 3 ∨ k = 4 ∨ k = 5 ∨ k = 6 ∨ k = 7 ∨ k = 8 ∨ k = 9 ∨ k = 10 ∨ k = 11 ∨ k = 12 ∨ k = 13 ∨ k = 14 ∨ k = 15 := by omega
  rcases h16 with rfl | rfl | rfl | rfl | rfl | rfl | rfl | rfl | rfl | rfl | rfl | rfl | rfl | rfl | rfl | rfl <;> rfl
set_option maxRecDepth 100000 in
set_option maxHeartbeats 4000000 in
theorem waitsFor_any (w : World) (g : Nat) (x : Kp) (vo va vc : Value) (hk : w.heap[g]? = some (.cells (kpA x vo va vc) 91 (0, 0))) (n : Int) :
    Calls Tryz.prog 55 #[.pointer (some ⟨g, 0, none⟩), .int .i64 n] w fun e w' => e = .returned (.bool (isN n && x.f n.toNat)) ∧ Below w.heap.size w w' := by
  obtain ⟨w1, hw1⟩ : ∃ w1, w1 = w.alloc (.cells #[.int .i64 n] 3) := ⟨_, rfl⟩
  have B1 : Hid (Below w.heap.size w w1) := by show Below _ _ _; rw [hw1]; exact al_b _ _
  have hn1 : w1.heap[w.heap.size]? = some (.cells #[.int .i64 n] 3 (0, 0)) := by rw [hw1]; exact new_at _ _
  have HN : Hid (Calls Tryz.prog 53 #[.slice (some ⟨w.heap.size, 0, none⟩) 1 1] w1 fun e w' => e = .returned (.bool (isN n)) ∧ w' = w1) := by
    have := nodes_any (.slice (some ⟨w.heap.size, 0, none⟩) 1 1) [n] w1 ⟨rfl, .inr ⟨_, 0, 1, rfl, (Array.getElem?_eq_some_iff.1 hn1).1, Nat.le_refl _, by decide, fun j u hu => by
      rw [Lib.cell_of_heap hn1, Nat.zero_add, List.getElem?_toArray]
      exact hu⟩⟩ (by simp)
    rw [nodes_one] at this
    exact this
  have hkb : w1.heap[g]? = some (.cells (kpA x vo va vc) 91 (0, 0)) := (B1.out.block g (Array.getElem?_eq_some_iff.1 hk).1).trans hk
  clear hk hn1
  cases hi : isN n
  · rw [hi] at HN
    clear hi hkb
    go_enter Tryz.func55, Tryz.ntmps55
    go_wp2_with fail
    rw [← hw1]
    clear hw1
    refine HN.out.mono ?_
    rintro e w' ⟨rfl, rfl⟩
    go_wp2
    go_ret
    exact ⟨rfl, B1.out⟩
  · rw [hi] at HN
    obtain ⟨i1, i2⟩ := isN_get hi
    obtain ⟨k, rfl⟩ : ∃ k : Nat, n = (k : Int) := ⟨n.toNat, by omega⟩
    have hc := kp_cell hkb (k := k) (by omega)
    have d1 : decide ((k : Int) < 0) = false := decide_eq_false (by omega)
    have d2 : decide ((k : Int) < 16) = true := decide_eq_true (by omega)
    have d3 : decide ((16 : Int) ≤ (k : Int)) = false := decide_eq_false (by omega)
    clear hi hkb
    go_enter Tryz.func55, Tryz.ntmps55
    go_wp2_with fail
    rw [← hw1]
    clear hw1
    refine HN.out.mono ?_
    rintro e w' ⟨rfl, rfl⟩
    go_wp2
    go_ret
    exact ⟨by rw [Int.toNat_natCast]; rfl, B1.out⟩
end Go.Proofs.YthdbnlpbidkojaaGreatDoor
/- store's Begin of a type that is kept: its walk. -/
namespace Go.Proofs.YthdbnlpbidkojaaGreatDoor
open Go.RowKit Go.ChangeMaps

theorem lkS_memB {E : List (ByteArray × Nat)} {k : ByteArray} {g : Nat} (h : lkS E k = some g) : (k, g) ∈ E := by
  unfold lkS at h
  obtain ⟨p, hp, rfl⟩ := Option.map_eq_some_iff.1 h
  have h1 := List.mem_of_find?_eq_some hp
  have h2 : p.1 = k := by simpa using List.find?_some hp
  rw [← h2]
  exact h1
/-- A store in which what is kept in a block is another one of the same type. -/
theorem StV.upd {base : Nat} {w w' : World} {s m g : Nat} {E : List (ByteArray × Nat)} {X : Nat → Kp} (h : StV base w s m E X) {x : Kp} (hx : x.t = (X g).t) {vo va vc : Value} (h0 : w.heap[g]? = some (.cells (kpA (X g) vo va vc) 91 (0, 0))) (ho : OwnTy base w (X g).t vo va vc) (hg : w'.heap[g]? = some (.cells (kpA x vo va vc) 91 (0, 0))) (hk : ∀ j, j ≠ g → j < w.heap.size → w'.heap[j]? = w.heap[j]?) : StV base w' s m E (upX X g x) := by
  have ne : ∀ (j : Nat) (C' : Array Value) (ty' : TypeId) (z' : Nat × Nat), w.heap[j]? = some (Obj.cells C' ty' z') → 91 ≠ ty' → w'.heap[j]? = w.heap[j]? := fun j C' ty' z' hj hne => hk j (fun e => by
    rw [e, h0] at hj
    exact hne (Obj.cells.inj (Option.some.inj hj)).2.1) (Array.getElem?_eq_some_iff.1 hj).1
  have hm : m ≠ g := fun e => by
    obtain ⟨⟨es, c, hm, -⟩, -⟩ := h.mp
    rw [e, h0] at hm
    cases hm
  have ro : ∀ (j : Nat) (C' : Array Value) (z' : Nat × Nat), (w.heap[j]? = some (Obj.cells C' 95 z') ∨ w.heap[j]? = some (Obj.cells C' 9 z')) → w'.heap[j]? = w.heap[j]? := fun j C' z' hj => by
    rcases hj with hj | hj
    · exact ne _ _ _ _ hj (by decide)
    · exact ne _ _ _ _ hj (by decide)
  refine ⟨h.lo, h.lm, (ne _ _ _ _ h.blk (by decide)).trans h.blk, h.mp.keep (hk m hm h.mp.lt), fun p hp => ?_, h.nd⟩
  unfold upX
  by_cases hpg : p.2 = g
  · rw [if_pos hpg, hpg]
    have hb := (h.kp p hp).1
    rw [hpg] at hb
    refine ⟨hb, vo, va, vc, hg, ?_⟩
    rw [hx]
    exact ⟨own_keep ho.1 fun j C z hc => ro j C z (.inl hc), own_keep ho.2.1 fun j C z hc => ro j C z (.inl hc), own_keep ho.2.2 fun j C z hc => ro j C z (.inr hc)⟩
  · rw [if_neg hpg]
    refine (h.kp p hp).keep ?_ ro
    obtain ⟨-, v1, v2, v3, hb, -⟩ := h.kp p hp
    exact hk _ hpg (Array.getElem?_eq_some_iff.1 hb).1
/-- Only block g is another one. -/
structure Onl (g : Nat) (w w' : World) : Prop where
  os : w'.os = w.os
  tape : w'.tape = w.tape
  output : w'.output = w.output
  size : w'.heap.size = w.heap.size
  block : ∀ k, k ≠ g → w'.heap[k]? = w.heap[k]?
theorem Onl.refl (g : Nat) (w : World) : Onl g w w := ⟨rfl, rfl, rfl, rfl, fun _ _ => rfl⟩
theorem Onl.set {g : Nat} {w w' : World} (h : Onl g w w') (j : Nat) (v : Value) : Onl g w (w'.setCell ⟨g, j, none⟩ v) := by
  refine ⟨h.os, h.tape, h.output, ?_, fun k hk => (Below.heap_setCell _ _ _ _ hk).trans (h.block k hk)⟩
  show (w'.heap.modify g _).size = _
  rw [Array.size_modify]
  exact h.size
theorem Onl.stp {g : Nat} {w0 w w' : World} (h0 : Below w0.heap.size w0 w) (h : Onl g w w') : Stp w0 (fun k => k = g) (fun k => k = g) w' :=
  ⟨h.os.trans h0.os, h.tape.trans h0.tape, h.output.trans h0.output, by rw [h.size]; exact h0.size, fun k hk hn => (h.block k hn).trans (h0.block k hk), fun _ h => .inl h⟩
theorem Onl.row {g : Nat} {w w' : World} (h : Onl g w w') {sz n : Nat} {v : Value} {xs : List Value} (hr : IsRow w sz v n xs) (hf : ∀ p a c, v = .slice (some p) a c → p.block ≠ g) : IsRow w' sz v n xs := by
  refine ⟨hr.1, ?_⟩
  rcases hr.2 with h0 | ⟨b, off, cap, rfl, hlt, hc, hm, hcell⟩
  · exact .inl h0
  · refine .inr ⟨b, off, cap, rfl, by rw [h.size]; exact hlt, hc, hm, fun j u hu => ?_⟩
    have hb : b ≠ g := hf _ _ _ rfl
    have := hcell j u hu
    unfold World.cell? at this ⊢
    dsimp only at this ⊢
    rw [h.block b hb]
    exact this
/-- For whom it waits: for these. -/
def inW (l : List Int) : Nat → Bool := fun i => decide ((i : Int) ∈ l)
theorem inW_nil : inW [] = zW := by funext i; simp [inW, zW]
theorem inW_next {l : List Int} {j : Nat} (h : j < l.length) {k : Nat} (hk : l[j] = (k : Int)) : updW (inW (l.take j)) k true = inW (l.take (j + 1)) := by
  funext i
  unfold updW inW
  rw [List.take_succ_eq_append_getElem h, hk]
  by_cases e : i = k
  · subst e; simp
  · rw [if_neg e]
    have : (i : Int) ≠ (k : Int) := by omega
    simp [this]
theorem anyW_in {l : List Int} (h : NodesP l) : anyW (inW l) = !decide (l = []) := by
  cases l with
  | nil => rfl
  | cons x r =>
    have h0 := h 0 (by simp)
    simp only [List.getElem_cons_zero] at h0
    obtain ⟨k, rfl⟩ : ∃ k : Nat, x = (k : Int) := ⟨x.toNat, by omega⟩
    have hin : inW ((k : Int) :: r) k = true := by simp [inW]
    have h16 : k = 1 ∨ k = 2 ∨ k = 3 ∨ k = 4 ∨ k = 5 ∨ k = 6 ∨ k = 7 ∨ k = 8 ∨ k = 9 ∨ k = 10 ∨ k = 11 ∨ k = 12 ∨ k = 13 ∨ k = 14 ∨ k = 15 := by omega
    unfold anyW
    rcases h16 with rfl | rfl | rfl | rfl | rfl | rfl | rfl | rfl | rfl | rfl | rfl | rfl | rfl | rfl | rfl <;> (rw [hin]; simp)
theorem kp_step {W : World} {g : Nat} {t : Ty} {s : Bool} {f : Nat → Bool} {vo va vc : Value} (h : W.heap[g]? = some (.cells (kpA ⟨t, s, f⟩ vo va vc) 91 (0, 0))) {k : Nat} (hk : k ≤ 15) (b : Bool) : (W.setCell ⟨g, 9 + k, none⟩ (.bool b)).heap[g]? = some (.cells (kpA ⟨t, s, updW f k b⟩ vo va vc) 91 (0, 0)) := by
  rw [heap_setS h, kp_set t s f vo va vc hk b]
theorem z16_heap {W : World} {g : Nat} {t : Ty} {s : Bool} {f : Nat → Bool} {vo va vc : Value} (h : W.heap[g]? = some (.cells (kpA ⟨t, s, f⟩ vo va vc) 91 (0, 0))) : ((((((((((((((((W.setCell ⟨g, 9, none⟩ (.bool false)).setCell ⟨g, 10, none⟩ (.bool false)).setCell ⟨g, 11, none⟩ (.bool false)).setCell ⟨g, 12, none⟩ (.bool false)).setCell ⟨g, 13, none⟩ (.bool false)).setCell ⟨g, 14, none⟩ (.bool false)).setCell ⟨g, 15, none⟩ (.bool false)).setCell ⟨g, 16, none⟩ (.bool false)).setCell ⟨g, 17, none⟩ (.bool false)).setCell ⟨g, 18, none⟩ (.bool false)).setCell ⟨g, 19, none⟩ (.bool false)).setCell ⟨g, 20, none⟩ (.bool false)).setCell ⟨g, 21, none⟩ (.bool false)).setCell ⟨g, 22, none⟩ (.bool false)).setCell ⟨g, 23, none⟩ (.bool false)).setCell ⟨g, 24, none⟩ (.bool false)).heap[g]? = some (.cells (kpA ⟨t, s, zW⟩ vo va vc) 91 (0, 0)) := by
  have h1 := kp_step h (k := 0) (by decide) false
  have h2 := kp_step h1 (k := 1) (by decide) false
  have h3 := kp_step h2 (k := 2) (by decide) false
  have h4 := kp_step h3 (k := 3) (by decide) false
  have h5 := kp_step h4 (k := 4) (by decide) false
  have h6 := kp_step h5 (k := 5) (by decide) false
  have h7 := kp_step h6 (k := 6) (by decide) false
  have h8 := kp_step h7 (k := 7) (by decide) false
  have h9 := kp_step h8 (k := 8) (by decide) false
  have h10 := kp_step h9 (k := 9) (by decide) false
  have h11 := kp_step h10 (k := 10) (by decide) false
  have h12 := kp_step h11 (k := 11) (by decide) false
  have h13 := kp_step h12 (k := 12) (by decide) false
  have h14 := kp_step h13 (k := 13) (by decide) false
  have h15 := kp_step h14 (k := 14) (by decide) false
  have h16 := kp_step h15 (k := 15) (by decide) false
  exact h16
theorem z16_onl (W : World) (g : Nat) : Onl g W ((((((((((((((((W.setCell ⟨g, 9, none⟩ (.bool false)).setCell ⟨g, 10, none⟩ (.bool false)).setCell ⟨g, 11, none⟩ (.bool false)).setCell ⟨g, 12, none⟩ (.bool false)).setCell ⟨g, 13, none⟩ (.bool false)).setCell ⟨g, 14, none⟩ (.bool false)).setCell ⟨g, 15, none⟩ (.bool false)).setCell ⟨g, 16, none⟩ (.bool false)).setCell ⟨g, 17, none⟩ (.bool false)).setCell ⟨g, 18, none⟩ (.bool false)).setCell ⟨g, 19, none⟩ (.bool false)).setCell ⟨g, 20, none⟩ (.bool false)).setCell ⟨g, 21, none⟩ (.bool false)).setCell ⟨g, 22, none⟩ (.bool false)).setCell ⟨g, 23, none⟩ (.bool false)).setCell ⟨g, 24, none⟩ (.bool false)) := ((((((((((((((((Onl.refl g W).set 9 (.bool false)).set 10 (.bool false)).set 11 (.bool false)).set 12 (.bool false)).set 13 (.bool false)).set 14 (.bool false)).set 15 (.bool false)).set 16 (.bool false)).set 17 (.bool false)).set 18 (.bool false)).set 19 (.bool false)).set 20 (.bool false)).set 21 (.bool false)).set 22 (.bool false)).set 23 (.bool false)).set 24 (.bool false)
set_option maxRecDepth 100000 in
set_option maxHeartbeats 4000000 in
theorem begin_new {base : Nat} {w : World} {s m g : Nat} {E : List (ByteArray × Nat)} {X : Nat → Kp} (h : StV base w s m E X) (n : ByteArray) (hn : n.size ≤ 1000000) (hL : lkS E (fldB n) = some g) (v : Value) (l : List Int) (hr : IsRow w 1 v l.length (iCells l)) (hl : l.length ≤ 1000000) (hP : NodesP l) (hfar : l ≠ [] → ∀ p a c, v = .slice (some p) a c → p.block ≠ g) (hT : UT w) :
    Calls Tryz.prog 20 #[stP s, .string n, v] w fun e w' => e = .returned (.tuple #[.bool (decide (l = [])), .int .i64 0]) ∧ StV base w' s m E (upX X g ⟨(X g).t, decide (l = []), inW l⟩) ∧ Stp w (fun k => k = g) (fun k => k = g) w' := by
  obtain ⟨a0, c0, rfl⟩ := hr.form
  have HNo : Hid (∀ W, Below w.heap.size w W → Calls Tryz.prog 53 #[.slice a0 l.length c0] W fun e w' => e = .returned (.bool true) ∧ w' = W) := fun W hb => by
    have := nodes_any _ l W (hr.below hb) hl
    rw [nodesB_true hP] at this
    exact this
  have HFi : Hid (∀ W, Below w.heap.size w W → Calls Tryz.prog 35 #[stP s, .string n] W fun e w' => e = .returned (.pointer (some ⟨g, 0, none⟩)) ∧ Below W.heap.size W w') := fun W hb => by
    have := find_any (h.below hb) n hn (Utf8Tabs_below hT hb)
    rw [hL] at this
    exact this
  obtain ⟨hbg, vo, va, vc, h0, ho⟩ := h.kp _ (lkS_memB hL)
  dsimp only at hbg h0 ho
  obtain ⟨t, s0, f0, hX⟩ : ∃ t s0 f0, X g = ⟨t, s0, f0⟩ := ⟨_, _, _, rfl⟩
  rw [hX] at h0 ho
  have HK : Hid (∀ W, Below w.heap.size w W → W.heap[g]? = some (.cells (kpA ⟨t, s0, f0⟩ vo va vc) 91 (0, 0))) := fun W hb => (hb.block g (Array.getElem?_eq_some_iff.1 h0).1).trans h0
  have HEnd : Hid (∀ W W', Below w.heap.size w W → Onl g W W' → W'.heap[g]? = some (.cells (kpA ⟨t, decide (l = []), inW l⟩ vo va vc) 91 (0, 0)) → StV base W' s m E (upX X g ⟨(X g).t, decide (l = []), inW l⟩) ∧ Stp w (fun k => k = g) (fun k => k = g) W') := fun W W' hb ho' hg' => by
    refine ⟨(h.below hb).upd rfl (vo := vo) (va := va) (vc := vc) (by rw [hX]; exact (hb.block g (Array.getElem?_eq_some_iff.1 h0).1).trans h0) (by rw [hX]; exact ho.below hb) (by rw [hX]; exact hg') fun j hj _ => ho'.block j hj, Onl.stp hb ho'⟩
  have HRw : Hid (∀ W W', Below w.heap.size w W → Onl g W W' → IsRow W' 1 (.slice a0 l.length c0) l.length (iCells l)) := fun W W' hb ho' => by
    by_cases h0 : l = []
    · subst h0
      exact ⟨rfl, .inl ⟨rfl, _, _, rfl⟩⟩
    · exact ho'.row (hr.below hb) (hfar h0)
  have HP : Hid (NodesP l) := hP
  have HA : Hid (∀ W W', W'.heap[g]? = some (.cells (kpA ⟨t, s0, inW l⟩ vo va vc) 91 (0, 0)) → W = W' → Calls Tryz.prog 54 #[.pointer (some ⟨g, 0, none⟩)] W fun e w' => e = .returned (.bool (!decide (l = []))) ∧ w' = W) := fun W W' hg' e => by
    subst e
    have := waitsAll_any W g _ vo va vc hg'
    rw [anyW_in hP] at this
    exact this
  obtain ⟨D, HD⟩ : ∃ D, Hid (decide (l = []) = D) := ⟨_, rfl⟩
  rw [HD.out] at HA HEnd ⊢
  clear h hr hP hfar hT hn hL hbg h0 ho
  go_enter Tryz.func20, Tryz.ntmps20
  go_wp2_with fail
  refine (HNo.out _ (Below.refl _ _)).mono ?_
  rintro e w1 ⟨rfl, rfl⟩
  go_wp2_with fail
  refine (HFi.out _ (Below.refl _ _)).mono ?_
  rintro e w2 ⟨rfl, hb⟩
  have B2 : Hid (Below w1.heap.size w1 w2) := hb
  clear hb
  have hk2 := HK.out w2 B2.out
  have c0 : w2.cell? ⟨g, 9, none⟩ = some (.bool (f0 0)) := by rw [Lib.cell_of_heap hk2]; rfl
  have c1 : w2.cell? ⟨g, 10, none⟩ = some (.bool (f0 1)) := by rw [Lib.cell_of_heap hk2]; rfl
  have c2 : w2.cell? ⟨g, 11, none⟩ = some (.bool (f0 2)) := by rw [Lib.cell_of_heap hk2]; rfl
  have c3 : w2.cell? ⟨g, 12, none⟩ = some (.bool (f0 3)) := by rw [Lib.cell_of_heap hk2]; rfl
  have c4 : w2.cell? ⟨g, 13, none⟩ = some (.bool (f0 4)) := by rw [Lib.cell_of_heap hk2]; rfl
  have c5 : w2.cell? ⟨g, 14, none⟩ = some (.bool (f0 5)) := by rw [Lib.cell_of_heap hk2]; rfl
  have c6 : w2.cell? ⟨g, 15, none⟩ = some (.bool (f0 6)) := by rw [Lib.cell_of_heap hk2]; rfl
  have c7 : w2.cell? ⟨g, 16, none⟩ = some (.bool (f0 7)) := by rw [Lib.cell_of_heap hk2]; rfl
  have c8 : w2.cell? ⟨g, 17, none⟩ = some (.bool (f0 8)) := by rw [Lib.cell_of_heap hk2]; rfl
  have c9 : w2.cell? ⟨g, 18, none⟩ = some (.bool (f0 9)) := by rw [Lib.cell_of_heap hk2]; rfl
  have c10 : w2.cell? ⟨g, 19, none⟩ = some (.bool (f0 10)) := by rw [Lib.cell_of_heap hk2]; rfl
  have c11 : w2.cell? ⟨g, 20, none⟩ = some (.bool (f0 11)) := by rw [Lib.cell_of_heap hk2]; rfl
  have c12 : w2.cell? ⟨g, 21, none⟩ = some (.bool (f0 12)) := by rw [Lib.cell_of_heap hk2]; rfl
  have c13 : w2.cell? ⟨g, 22, none⟩ = some (.bool (f0 13)) := by rw [Lib.cell_of_heap hk2]; rfl
  have c14 : w2.cell? ⟨g, 23, none⟩ = some (.bool (f0 14)) := by rw [Lib.cell_of_heap hk2]; rfl
  have c15 : w2.cell? ⟨g, 24, none⟩ = some (.bool (f0 15)) := by rw [Lib.cell_of_heap hk2]; rfl
  have fz : ∀ j, w2.frozen? ⟨g, j, none⟩ = false := fun j => Lib.frozen_of_heap hk2 j
  obtain ⟨w3, hw3⟩ : ∃ w3, w3 = ((((((((((((((((w2.setCell ⟨g, 9, none⟩ (.bool false)).setCell ⟨g, 10, none⟩ (.bool false)).setCell ⟨g, 11, none⟩ (.bool false)).setCell ⟨g, 12, none⟩ (.bool false)).setCell ⟨g, 13, none⟩ (.bool false)).setCell ⟨g, 14, none⟩ (.bool false)).setCell ⟨g, 15, none⟩ (.bool false)).setCell ⟨g, 16, none⟩ (.bool false)).setCell ⟨g, 17, none⟩ (.bool false)).setCell ⟨g, 18, none⟩ (.bool false)).setCell ⟨g, 19, none⟩ (.bool false)).setCell ⟨g, 20, none⟩ (.bool false)).setCell ⟨g, 21, none⟩ (.bool false)).setCell ⟨g, 22, none⟩ (.bool false)).setCell ⟨g, 23, none⟩ (.bool false)).setCell ⟨g, 24, none⟩ (.bool false)) := ⟨_, rfl⟩
  have O3 : Hid (Onl g w2 w3) := by show Onl _ _ _; rw [hw3]; exact z16_onl _ _
  have K3 : Hid (w3.heap[g]? = some (.cells (kpA ⟨t, s0, zW⟩ vo va vc) 91 (0, 0))) := by show _ = _; rw [hw3]; exact z16_heap hk2
  go_wp2_with fail
  rw [← hw3]
  clear hw3 hk2 fz c0 c1 c2 c3 c4 c5 c6 c7 c8 c9 c10 c11 c12 c13 c14 c15
  have HG0 : Hid (w3.heap[g]? = some (.cells (kpA ⟨t, s0, inW (l.take 0)⟩ vo va vc) 91 (0, 0))) := by show _ = _; rw [List.take_zero, inW_nil]; exact K3.out
  clear K3 HNo HFi HK
  go_loopw [29] (fun i wr => ∃ j : Nat, j ≤ l.length ∧ i = .int .i64 (j : Int) ∧ Hid (Onl g w2 wr) ∧ Hid (wr.heap[g]? = some (.cells (kpA ⟨t, s0, inW (l.take j)⟩ vo va vc) 91 (0, 0)))) (fun i _ => l.length - (intOf i).toNat)
  case atStart => exact ⟨0, Nat.zero_le _, rfl, O3, HG0⟩
  case round =>
    obtain ⟨j, hj, rfl, HO, HG⟩ := hrel
    by_cases hlk : j < l.length
    · have dk : decide ((j : Int) < (l.length : Int)) = true := by simp; omega
      obtain ⟨b, off, rfl, -, hlt, hcap, hc⟩ := iCells_at (HRw.out w2 wr B2.out HO.out) (by omega)
      have ck := hc j hlk
      have hp := HP.out j hlk
      obtain ⟨k, hk⟩ : ∃ k : Nat, l[j] = (k : Int) := ⟨(l[j]).toNat, by omega⟩
      have i1 : 1 ≤ (k : Int) := by rw [← hk]; exact hp.1
      have i2 : (k : Int) ≤ 15 := by rw [← hk]; exact hp.2.1
      have HG2 : Hid ((wr.setCell ⟨g, 9 + k, none⟩ (.bool true)).heap[g]? = some (.cells (kpA ⟨t, s0, inW (l.take (j + 1))⟩ vo va vc) 91 (0, 0))) := by
        show _ = _
        rw [← inW_next hlk hk]
        exact kp_step HG.out (by omega) true
      have HO2 : Hid (Onl g w2 (wr.setCell ⟨g, 9 + k, none⟩ (.bool true))) := HO.out.set _ _
      rw [hk] at ck
      have hcg := kp_cell HG.out (k := k) (by omega)
      have fz : ∀ i, wr.frozen? ⟨g, i, none⟩ = false := fun i => Lib.frozen_of_heap HG.out i
      have d1 : decide ((k : Int) < 0) = false := decide_eq_false (by omega)
      have d2 : decide ((k : Int) < 16) = true := decide_eq_true (by omega)
      have d3 : decide ((16 : Int) ≤ (k : Int)) = false := decide_eq_false (by omega)
      clear hc hp hk HG HO HG0 O3
      go_wp2
      go_roundw
      case rel => exact ⟨j + 1, by omega, by simp, HO2, HG2⟩
      case measure => simp [intOf]; omega
    · have hk' : j = l.length := by omega
      subst hk'
      have dk : decide ((l.length : Int) < (l.length : Int)) = false := by simp
      rw [List.take_length] at HG
      have hA := HA.out wr wr HG.out rfl
      have c8 : wr.cell? ⟨g, 8, none⟩ = some (.bool s0) := by rw [Lib.cell_of_heap HG.out]; rfl
      have fz : ∀ i, wr.frozen? ⟨g, i, none⟩ = false := fun i => Lib.frozen_of_heap HG.out i
      have HE : Hid (∀ D', D' = D → StV base (wr.setCell ⟨g, 8, none⟩ (.bool D')) s m E (upX X g ⟨(X g).t, D, inW l⟩) ∧ Stp w1 (fun k => k = g) (fun k => k = g) (wr.setCell ⟨g, 8, none⟩ (.bool D'))) := fun D' e => by
        subst e
        exact HEnd.out w2 _ B2.out (HO.out.set 8 _) ((heap_setS HG.out 8 (.bool D')).trans rfl)
      clear HA HEnd HRw HP HG HO HG0 O3 HD
      go_wp2_with fail
      refine hA.mono ?_
      rintro e w5 ⟨rfl, rfl⟩
      go_wp2
      refine bodyPost_ret (results_tmp2 rfl _ _ _) rfl ⟨?_, HE.out _ (by simp)⟩
      go_simp
      try rfl
end Go.Proofs.YthdbnlpbidkojaaGreatDoor
/- For whom is waited, as a list: plainly. -/
namespace Go.Proofs.YthdbnlpbidkojaaGreatDoor
open Go.RowKit Go.ChangeMaps

end Go.Proofs.YthdbnlpbidkojaaGreatDoor
/- store's nodes: its walk. -/
namespace Go.Proofs.YthdbnlpbidkojaaGreatDoor
open Go.RowKit Go.ChangeMaps

end Go.Proofs.YthdbnlpbidkojaaGreatDoor
/- store's Find: its walk. -/
namespace Go.Proofs.YthdbnlpbidkojaaGreatDoor
open Go.RowKit Go.ChangeMaps

abbrev zKpA : Array Value := #[.string ⟨#[]⟩, .string ⟨#[]⟩, .slice none 0 0, .slice none 0 0, .slice none 0 0, .int .i64 0, .int .i64 0, .int .i64 0, .bool false, .slice none 0 0]
abbrev st10 (W : World) (g : Nat) (u0 u1 u2 u3 u4 u5 u6 u7 u8 u9 : Value) : World := ((((((((((W.setCell ⟨g, 0, none⟩ u0).setCell ⟨g, 1, none⟩ u1).setCell ⟨g, 2, none⟩ u2).setCell ⟨g, 3, none⟩ u3).setCell ⟨g, 4, none⟩ u4).setCell ⟨g, 5, none⟩ u5).setCell ⟨g, 6, none⟩ u6).setCell ⟨g, 7, none⟩ u7).setCell ⟨g, 8, none⟩ u8).setCell ⟨g, 9, none⟩ u9)
theorem below10 {B g : Nat} {w w' : World} (h : Below B w w') (hg : B ≤ g) (u0 u1 u2 u3 u4 u5 u6 u7 u8 u9 : Value) : Below B w (st10 w' g u0 u1 u2 u3 u4 u5 u6 u7 u8 u9) := ((((((((((h.setCell (p := ⟨g, 0, none⟩) hg u0).setCell (p := ⟨g, 1, none⟩) hg u1).setCell (p := ⟨g, 2, none⟩) hg u2).setCell (p := ⟨g, 3, none⟩) hg u3).setCell (p := ⟨g, 4, none⟩) hg u4).setCell (p := ⟨g, 5, none⟩) hg u5).setCell (p := ⟨g, 6, none⟩) hg u6).setCell (p := ⟨g, 7, none⟩) hg u7).setCell (p := ⟨g, 8, none⟩) hg u8).setCell (p := ⟨g, 9, none⟩) hg u9)
theorem bxK {W : World} {g : Nat} (h : W.heap[g]? = some (.cells zKpA 43 (0, 0))) : (W.cell? ⟨g, 0, none⟩ = some (.string ⟨#[]⟩) ∧ W.cell? ⟨g, 1, none⟩ = some (.string ⟨#[]⟩) ∧ W.cell? ⟨g, 2, none⟩ = some (.slice none 0 0) ∧ W.cell? ⟨g, 3, none⟩ = some (.slice none 0 0) ∧ W.cell? ⟨g, 4, none⟩ = some (.slice none 0 0) ∧ W.cell? ⟨g, 5, none⟩ = some (.int .i64 0) ∧ W.cell? ⟨g, 6, none⟩ = some (.int .i64 0) ∧ W.cell? ⟨g, 7, none⟩ = some (.int .i64 0) ∧ W.cell? ⟨g, 8, none⟩ = some (.bool false) ∧ W.cell? ⟨g, 9, none⟩ = some (.slice none 0 0)) ∧ ∀ j, W.frozen? ⟨g, j, none⟩ = false :=
  ⟨⟨by rw [Lib.cell_of_heap h]; rfl, by rw [Lib.cell_of_heap h]; rfl, by rw [Lib.cell_of_heap h]; rfl, by rw [Lib.cell_of_heap h]; rfl, by rw [Lib.cell_of_heap h]; rfl, by rw [Lib.cell_of_heap h]; rfl, by rw [Lib.cell_of_heap h]; rfl, by rw [Lib.cell_of_heap h]; rfl, by rw [Lib.cell_of_heap h]; rfl, by rw [Lib.cell_of_heap h]; rfl⟩, fun j => Lib.frozen_of_heap h j⟩
set_option maxRecDepth 100000 in
set_option maxHeartbeats 2000000 in
theorem findS_nil (n : ByteArray) (w : World) : Calls Tryz.prog 11 #[nilS, .string n] w fun e w' => e = .returned (.tuple #[zKpV, .bool false]) ∧ Below w.heap.size w w' := by
  obtain ⟨w1, hw1⟩ : ∃ w1, w1 = w.alloc (.cells zKpA 43) := ⟨_, rfl⟩
  have B1 : Hid (Below w.heap.size w w1) := by show Below _ _ _; rw [hw1]; exact al_b _ _
  have hn1 : w1.heap[w.heap.size]? = some (.cells zKpA 43 (0, 0)) := by rw [hw1]; exact new_at _ _
  obtain ⟨⟨e0, e1, e2, e3, e4, e5, e6, e7, e8, e9⟩, f0⟩ := bxK hn1
  have HEnd : Hid (∀ u0 u1 u2 u3 u4 u5 u6 u7 u8 u9, Below w.heap.size w (st10 w1 w.heap.size u0 u1 u2 u3 u4 u5 u6 u7 u8 u9)) := fun u0 u1 u2 u3 u4 u5 u6 u7 u8 u9 => below10 B1.out (Nat.le_refl _) u0 u1 u2 u3 u4 u5 u6 u7 u8 u9
  clear hn1 B1
  go_enter Tryz.func11, Tryz.ntmps11
  go_upto_region 1 with fail
  rw [← hw1]
  clear hw1
  go_wp2_with fail
  try simp only [Exit.inBlock, Exit.then]
  refine bodyPost_ret (v := .tuple #[zKpV, .bool false]) ?_ rfl ⟨rfl, HEnd.out _ _ _ _ _ _ _ _ _ _⟩
  rw [results_c2 rfl]; go_simp
  first | done | exact ⟨rfl, rfl, rfl, rfl, rfl⟩
end Go.Proofs.YthdbnlpbidkojaaGreatDoor
/- The other calls of a nil store: walks. -/
namespace Go.Proofs.YthdbnlpbidkojaaGreatDoor
open Go.RowKit Go.ChangeMaps

theorem setS_nil (t : Ty) (vo va vc : Value) (w : World) :
    Calls Tryz.prog 23 #[nilS, tyV t vo va vc] w fun e w' => e = .returned (.int .i64 1) ∧ Below w.heap.size w w' := by
  have HB : Hid (Below w.heap.size w (w.alloc (.cells (tyA t vo va vc) 35))) := al_b w _
  go_enter Tryz.func23, Tryz.ntmps23
  go_wp2
  go_ret
  exact ⟨rfl, HB.out⟩
theorem beginS_nil (n : ByteArray) (v : Value) (w : World) : Calls Tryz.prog 20 #[nilS, .string n, v] w fun e w' => e = .returned (.tuple #[.bool false, .int .i64 1]) ∧ Below w.heap.size w w' := by
  go_enter Tryz.func20, Tryz.ntmps20
  go_wp2
  refine bodyPost_ret (results_tmp2 rfl _ _ _) rfl ⟨?_, Below.refl _ _⟩
  go_simp
  try rfl
theorem storedS_nil (n : ByteArray) (a b c N : Int) (w : World) : Calls Tryz.prog 21 #[nilS, .string n, idV a b c, .int .i64 N] w fun e w' => e = .returned (.tuple #[.bool false, .int .i64 1]) ∧ Below w.heap.size w w' := by
  have HB : Hid (Below w.heap.size w (w.alloc (.cells #[.int .i64 a, .int .i64 b, .int .i64 c] 33))) := al_b w _
  go_enter Tryz.func21, Tryz.ntmps21
  go_wp2
  refine bodyPost_ret (results_tmp2 rfl _ _ _) rfl ⟨?_, HB.out⟩
  go_simp
  try rfl
theorem loosenS_nil (w : World) : Calls Tryz.prog 22 #[nilS] w fun e w' => e = .returned (.tuple #[]) ∧ Below w.heap.size w w' := by
  go_enter Tryz.func22, Tryz.ntmps22
  go_wp2
  (try simp only [Exit.inBlock, Exit.then])
  refine bodyPost_ret (results_none rfl _ _ _) rfl ?_
  exact ⟨rfl, Below.refl _ _⟩
theorem allS_nil (w : World) : Calls Tryz.prog 16 #[nilS] w fun e w' => e = .returned (.slice none 0 0) ∧ Below w.heap.size w w' := by
  go_enter Tryz.func16, Tryz.ntmps16
  go_wp2
  go_ret
  exact ⟨rfl, Below.refl _ _⟩
theorem waitsS_nil (w : World) : Calls Tryz.prog 24 #[nilS] w fun e w' => e = .returned (.int .i64 0) ∧ Below w.heap.size w w' := by
  go_enter Tryz.func24, Tryz.ntmps24
  go_wp2
  go_ret
  exact ⟨rfl, Below.refl _ _⟩
end Go.Proofs.YthdbnlpbidkojaaGreatDoor
/- store's Stored of a type that is kept, by its maker: its walk. -/
namespace Go.Proofs.YthdbnlpbidkojaaGreatDoor
open Go.RowKit Go.ChangeMaps

set_option maxRecDepth 100000 in
set_option maxHeartbeats 4000000 in
theorem stored_no {base : Nat} {w : World} {s m g : Nat} {E : List (ByteArray × Nat)} {X : Nat → Kp} (h : StV base w s m E X) (n : ByteArray) (hn : n.size ≤ 1000000) (hL : lkS E (fldB n) = some g) (N : Int) (hT : UT w) (hb : (isN N && (X g).f N.toNat) = false) :
    Calls Tryz.prog 21 #[stP s, .string n, idV (X g).t.nd (X g).t.lf (X g).t.sq, .int .i64 N] w fun e w' => e = .returned (.tuple #[.bool false, .int .i64 4]) ∧ Below w.heap.size w w' := by
  have HFi : Hid (∀ W, Below w.heap.size w W → Calls Tryz.prog 35 #[stP s, .string n] W fun e w' => e = .returned (.pointer (some ⟨g, 0, none⟩)) ∧ Below W.heap.size W w') := fun W hb => by
    have := find_any (h.below hb) n hn (Utf8Tabs_below hT hb)
    rw [hL] at this
    exact this
  obtain ⟨hbg, vo, va, vc, h0, ho⟩ := h.kp _ (lkS_memB hL)
  dsimp only at hbg h0 ho
  obtain ⟨t, s0, f0, hX⟩ : ∃ t s0 f0, X g = ⟨t, s0, f0⟩ := ⟨_, _, _, rfl⟩
  rw [hX]
  rw [hX] at h0 ho hb
  have HK : Hid (∀ W, Below w.heap.size w W → W.cell? ⟨g, 5, none⟩ = some (.int .i64 t.nd) ∧ W.cell? ⟨g, 6, none⟩ = some (.int .i64 t.lf) ∧ W.cell? ⟨g, 7, none⟩ = some (.int .i64 t.sq)) := fun W hb => by
    have hk := (hb.block _ (Array.getElem?_eq_some_iff.1 h0).1).trans h0
    exact ⟨by rw [Lib.cell_of_heap hk]; rfl, by rw [Lib.cell_of_heap hk]; rfl, by rw [Lib.cell_of_heap hk]; rfl⟩
  have HWf : Hid (∀ W, Below w.heap.size w W → Calls Tryz.prog 55 #[.pointer (some ⟨g, 0, none⟩), .int .i64 N] W fun e w' => e = .returned (.bool false) ∧ Below W.heap.size W w') := fun W hb' => by
    have := waitsFor_any W g ⟨t, s0, f0⟩ vo va vc ((hb'.block _ (Array.getElem?_eq_some_iff.1 h0).1).trans h0) N
    dsimp only at this
    rw [hb] at this
    exact this
  clear h hn hL hT hbg h0 ho hb hX
  obtain ⟨w1, hw1⟩ : ∃ w1, w1 = w.alloc (.cells #[.int .i64 t.nd, .int .i64 t.lf, .int .i64 t.sq] 33) := ⟨_, rfl⟩
  have B1 : Hid (Below w.heap.size w w1) := by show Below _ _ _; rw [hw1]; exact al_b _ _
  have hn1 : w1.heap[w.heap.size]? = some (.cells #[.int .i64 t.nd, .int .i64 t.lf, .int .i64 t.sq] 33 (0, 0)) := by rw [hw1]; exact new_at _ _
  have HI : Hid (∀ W, Below w1.heap.size w1 W → W.cell? ⟨w.heap.size, 0, none⟩ = some (.int .i64 t.nd) ∧ W.cell? ⟨w.heap.size, 1, none⟩ = some (.int .i64 t.lf) ∧ W.cell? ⟨w.heap.size, 2, none⟩ = some (.int .i64 t.sq)) := fun W hb => by
    have hk := (hb.block _ (Array.getElem?_eq_some_iff.1 hn1).1).trans hn1
    exact ⟨by rw [Lib.cell_of_heap hk]; rfl, by rw [Lib.cell_of_heap hk]; rfl, by rw [Lib.cell_of_heap hk]; rfl⟩
  clear hn1
  go_enter Tryz.func21, Tryz.ntmps21
  go_wp2_with fail
  rw [← hw1]
  clear hw1
  refine (HFi.out _ B1.out).mono ?_
  rintro e w2 ⟨rfl, hb⟩
  have B2 : Hid (Below w.heap.size w w2) := B1.out.trans (hb.mono B1.out.size)
  have D2 : Hid (Below w1.heap.size w1 w2) := hb
  clear hb
  go_wp2_with fail
  refine wp_region_quiet (C := fun w' => Below w2.heap.size w2 w') (by kernel_rfl) (by kernel_rfl) ((Below.refl _ _).drew) ?_
  dsimp only
  repeat (first
    | go_big_quiet_skip
    | (go_big_quiet_want
       apply Exists.intro
       refine ⟨fun W' hW' => ?_, ?_⟩
       · have hw : Below w2.heap.size w2 W' := hW'
         obtain ⟨i0, i1, i2⟩ := HI.out W' (D2.out.trans (hw.mono D2.out.size))
         obtain ⟨c5, c6, c7⟩ := HK.out W' (B2.out.trans (hw.mono B2.out.size))
         go_simp
         first
           | done
           | rfl
           | (go_at_call 55; (with_reducible refine Calls.mono (HWf.out W' (B2.out.trans (hw.mono B2.out.size))) ?_); rintro e w'' ⟨rfl, hb⟩; exact ⟨rfl, hw.trans (hb.mono hw.size)⟩)
       go_big_quiet_on
       try simp only [Act.put, List.setIfInBounds_toArray, List.set_cons_zero, List.set_cons_succ]))
  refine wpQuiet_nil ?_
  intro w3 hqw
  have B3 : Hid (Below w.heap.size w w3) := B2.out.trans (hqw.mono B2.out.size)
  clear hqw
  clear HI HK HWf HFi
  go_wp2
  refine bodyPost_ret (results_tmp2 rfl _ _ _) rfl ⟨?_, B3.out⟩
  go_simp
  try rfl
end Go.Proofs.YthdbnlpbidkojaaGreatDoor
