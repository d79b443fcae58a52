/- store's Begin of a type that is kept: its walk. -/
import Derived.Test.YthdbnlpbidkojaaGreatDoorZk14
import Derived.Test.YthdbnlpbidkojaaGreatDoorZk12
import Derived.Test.YthdbnlpbidkojaaGreatDoorZk4
import Derived.Test.YthdbnlpbidkojaaGreatDoorZk6
namespace Go.Proofs.YthdbnlpbidkojaaGreatDoor
open Go.RowKit Go.ChangeMaps

theorem lkS_memB {E : List (ByteArray × Nat)} {k : ByteArray} {g : Nat} (h : lkS E k = some g) : (k, g) ∈ E := by
  unfold lkS at h
  obtain ⟨p, hp, rfl⟩ := Option.map_eq_some_iff.1 h
  have h1 := List.mem_of_find?_eq_some hp
  have h2 : p.1 = k := by simpa using List.find?_some hp
  rw [← h2]
  exact h1
/-- A store in which what is kept in a block is another one of the same type. -/
theorem StV.upd {base : Nat} {w w' : World} {s m g : Nat} {E : List (ByteArray × Nat)} {X : Nat → Kp} (h : StV base w s m E X) {x : Kp} (hx : x.t = (X g).t) {vo va vc : Value} (h0 : w.heap[g]? = some (.cells (kpA (X g) vo va vc) 91 (0, 0))) (ho : OwnTy base w (X g).t vo va vc) (hg : w'.heap[g]? = some (.cells (kpA x vo va vc) 91 (0, 0))) (hk : ∀ j, j ≠ g → j < w.heap.size → w'.heap[j]? = w.heap[j]?) : StV base w' s m E (upX X g x) := by
  have ne : ∀ (j : Nat) (C' : Array Value) (ty' : TypeId) (z' : Nat × Nat), w.heap[j]? = some (Obj.cells C' ty' z') → 91 ≠ ty' → w'.heap[j]? = w.heap[j]? := fun j C' ty' z' hj hne => hk j (fun e => by
    rw [e, h0] at hj
    exact hne (Obj.cells.inj (Option.some.inj hj)).2.1) (Array.getElem?_eq_some_iff.1 hj).1
  have hm : m ≠ g := fun e => by
    obtain ⟨⟨es, c, hm, -⟩, -⟩ := h.mp
    rw [e, h0] at hm
    cases hm
  have ro : ∀ (j : Nat) (C' : Array Value) (z' : Nat × Nat), (w.heap[j]? = some (Obj.cells C' 95 z') ∨ w.heap[j]? = some (Obj.cells C' 9 z')) → w'.heap[j]? = w.heap[j]? := fun j C' z' hj => by
    rcases hj with hj | hj
    · exact ne _ _ _ _ hj (by decide)
    · exact ne _ _ _ _ hj (by decide)
  refine ⟨h.lo, h.lm, (ne _ _ _ _ h.blk (by decide)).trans h.blk, h.mp.keep (hk m hm h.mp.lt), fun p hp => ?_, h.nd⟩
  unfold upX
  by_cases hpg : p.2 = g
  · rw [if_pos hpg, hpg]
    have hb := (h.kp p hp).1
    rw [hpg] at hb
    refine ⟨hb, vo, va, vc, hg, ?_⟩
    rw [hx]
    exact ⟨own_keep ho.1 fun j C z hc => ro j C z (.inl hc), own_keep ho.2.1 fun j C z hc => ro j C z (.inl hc), own_keep ho.2.2 fun j C z hc => ro j C z (.inr hc)⟩
  · rw [if_neg hpg]
    refine (h.kp p hp).keep ?_ ro
    obtain ⟨-, v1, v2, v3, hb, -⟩ := h.kp p hp
    exact hk _ hpg (Array.getElem?_eq_some_iff.1 hb).1
/-- Only block g is another one. -/
structure Onl (g : Nat) (w w' : World) : Prop where
  os : w'.os = w.os
  tape : w'.tape = w.tape
  output : w'.output = w.output
  size : w'.heap.size = w.heap.size
  block : ∀ k, k ≠ g → w'.heap[k]? = w.heap[k]?
theorem Onl.refl (g : Nat) (w : World) : Onl g w w := ⟨rfl, rfl, rfl, rfl, fun _ _ => rfl⟩
theorem Onl.set {g : Nat} {w w' : World} (h : Onl g w w') (j : Nat) (v : Value) : Onl g w (w'.setCell ⟨g, j, none⟩ v) := by
  refine ⟨h.os, h.tape, h.output, ?_, fun k hk => (Below.heap_setCell _ _ _ _ hk).trans (h.block k hk)⟩
  show (w'.heap.modify g _).size = _
  rw [Array.size_modify]
  exact h.size
theorem Onl.stp {g : Nat} {w0 w w' : World} (h0 : Below w0.heap.size w0 w) (h : Onl g w w') : Stp w0 (fun k => k = g) (fun k => k = g) w' :=
  ⟨h.os.trans h0.os, h.tape.trans h0.tape, h.output.trans h0.output, by rw [h.size]; exact h0.size, fun k hk hn => (h.block k hn).trans (h0.block k hk), fun _ h => .inl h⟩
theorem Onl.row {g : Nat} {w w' : World} (h : Onl g w w') {sz n : Nat} {v : Value} {xs : List Value} (hr : IsRow w sz v n xs) (hf : ∀ p a c, v = .slice (some p) a c → p.block ≠ g) : IsRow w' sz v n xs := by
  refine ⟨hr.1, ?_⟩
  rcases hr.2 with h0 | ⟨b, off, cap, rfl, hlt, hc, hm, hcell⟩
  · exact .inl h0
  · refine .inr ⟨b, off, cap, rfl, by rw [h.size]; exact hlt, hc, hm, fun j u hu => ?_⟩
    have hb : b ≠ g := hf _ _ _ rfl
    have := hcell j u hu
    unfold World.cell? at this ⊢
    dsimp only at this ⊢
    rw [h.block b hb]
    exact this
/-- For whom it waits: for these. -/
def inW (l : List Int) : Nat → Bool := fun i => decide ((i : Int) ∈ l)
theorem inW_nil : inW [] = zW := by funext i; simp [inW, zW]
theorem inW_next {l : List Int} {j : Nat} (h : j < l.length) {k : Nat} (hk : l[j] = (k : Int)) : updW (inW (l.take j)) k true = inW (l.take (j + 1)) := by
  funext i
  unfold updW inW
  rw [List.take_succ_eq_append_getElem h, hk]
  by_cases e : i = k
  · subst e; simp
  · rw [if_neg e]
    have : (i : Int) ≠ (k : Int) := by omega
    simp [this]
theorem anyW_in {l : List Int} (h : NodesP l) : anyW (inW l) = !decide (l = []) := by
  cases l with
  | nil => rfl
  | cons x r =>
    have h0 := h 0 (by simp)
    simp only [List.getElem_cons_zero] at h0
    obtain ⟨k, rfl⟩ : ∃ k : Nat, x = (k : Int) := ⟨x.toNat, by omega⟩
    have hin : inW ((k : Int) :: r) k = true := by simp [inW]
    have h16 : k = 1 ∨ k = 2 ∨ k = 3 ∨ k = 4 ∨ k = 5 ∨ k = 6 ∨ k = 7 ∨ k = 8 ∨ k = 9 ∨ k = 10 ∨ k = 11 ∨ k = 12 ∨ k = 13 ∨ k = 14 ∨ k = 15 := by omega
    unfold anyW
    rcases h16 with rfl | rfl | rfl | rfl | rfl | rfl | rfl | rfl | rfl | rfl | rfl | rfl | rfl | rfl | rfl <;> (rw [hin]; simp)
theorem kp_step {W : World} {g : Nat} {t : Ty} {s : Bool} {f : Nat → Bool} {vo va vc : Value} (h : W.heap[g]? = some (.cells (kpA ⟨t, s, f⟩ vo va vc) 91 (0, 0))) {k : Nat} (hk : k ≤ 15) (b : Bool) : (W.setCell ⟨g, 9 + k, none⟩ (.bool b)).heap[g]? = some (.cells (kpA ⟨t, s, updW f k b⟩ vo va vc) 91 (0, 0)) := by
  rw [heap_setS h, kp_set t s f vo va vc hk b]
theorem z16_heap {W : World} {g : Nat} {t : Ty} {s : Bool} {f : Nat → Bool} {vo va vc : Value} (h : W.heap[g]? = some (.cells (kpA ⟨t, s, f⟩ vo va vc) 91 (0, 0))) : ((((((((((((((((W.setCell ⟨g, 9, none⟩ (.bool false)).setCell ⟨g, 10, none⟩ (.bool false)).setCell ⟨g, 11, none⟩ (.bool false)).setCell ⟨g, 12, none⟩ (.bool false)).setCell ⟨g, 13, none⟩ (.bool false)).setCell ⟨g, 14, none⟩ (.bool false)).setCell ⟨g, 15, none⟩ (.bool false)).setCell ⟨g, 16, none⟩ (.bool false)).setCell ⟨g, 17, none⟩ (.bool false)).setCell ⟨g, 18, none⟩ (.bool false)).setCell ⟨g, 19, none⟩ (.bool false)).setCell ⟨g, 20, none⟩ (.bool false)).setCell ⟨g, 21, none⟩ (.bool false)).setCell ⟨g, 22, none⟩ (.bool false)).setCell ⟨g, 23, none⟩ (.bool false)).setCell ⟨g, 24, none⟩ (.bool false)).heap[g]? = some (.cells (kpA ⟨t, s, zW⟩ vo va vc) 91 (0, 0)) := by
  have h1 := kp_step h (k := 0) (by decide) false
  have h2 := kp_step h1 (k := 1) (by decide) false
  have h3 := kp_step h2 (k := 2) (by decide) false
  have h4 := kp_step h3 (k := 3) (by decide) false
  have h5 := kp_step h4 (k := 4) (by decide) false
  have h6 := kp_step h5 (k := 5) (by decide) false
  have h7 := kp_step h6 (k := 6) (by decide) false
  have h8 := kp_step h7 (k := 7) (by decide) false
  have h9 := kp_step h8 (k := 8) (by decide) false
  have h10 := kp_step h9 (k := 9) (by decide) false
  have h11 := kp_step h10 (k := 10) (by decide) false
  have h12 := kp_step h11 (k := 11) (by decide) false
  have h13 := kp_step h12 (k := 12) (by decide) false
  have h14 := kp_step h13 (k := 13) (by decide) false
  have h15 := kp_step h14 (k := 14) (by decide) false
  have h16 := kp_step h15 (k := 15) (by decide) false
  exact h16
theorem z16_onl (W : World) (g : Nat) : Onl g W ((((((((((((((((W.setCell ⟨g, 9, none⟩ (.bool false)).setCell ⟨g, 10, none⟩ (.bool false)).setCell ⟨g, 11, none⟩ (.bool false)).setCell ⟨g, 12, none⟩ (.bool false)).setCell ⟨g, 13, none⟩ (.bool false)).setCell ⟨g, 14, none⟩ (.bool false)).setCell ⟨g, 15, none⟩ (.bool false)).setCell ⟨g, 16, none⟩ (.bool false)).setCell ⟨g, 17, none⟩ (.bool false)).setCell ⟨g, 18, none⟩ (.bool false)).setCell ⟨g, 19, none⟩ (.bool false)).setCell ⟨g, 20, none⟩ (.bool false)).setCell ⟨g, 21, none⟩ (.bool false)).setCell ⟨g, 22, none⟩ (.bool false)).setCell ⟨g, 23, none⟩ (.bool false)).setCell ⟨g, 24, none⟩ (.bool false)) := ((((((((((((((((Onl.refl g W).set 9 (.bool false)).set 10 (.bool false)).set 11 (.bool false)).set 12 (.bool false)).set 13 (.bool false)).set 14 (.bool false)).set 15 (.bool false)).set 16 (.bool false)).set 17 (.bool false)).set 18 (.bool false)).set 19 (.bool false)).set 20 (.bool false)).set 21 (.bool false)).set 22 (.bool false)).set 23 (.bool false)).set 24 (.bool false)
set_option maxRecDepth 100000 in
set_option maxHeartbeats 4000000 in
theorem begin_new {base : Nat} {w : World} {s m g : Nat} {E : List (ByteArray × Nat)} {X : Nat → Kp} (h : StV base w s m E X) (n : ByteArray) (hn : n.size ≤ 1000000) (hL : lkS E (fldB n) = some g) (v : Value) (l : List Int) (hr : IsRow w 1 v l.length (iCells l)) (hl : l.length ≤ 1000000) (hP : NodesP l) (hfar : l ≠ [] → ∀ p a c, v = .slice (some p) a c → p.block ≠ g) (hT : UT w) :
    Calls Tryz.prog 20 #[stP s, .string n, v] w fun e w' => e = .returned (.tuple #[.bool (decide (l = [])), .int .i64 0]) ∧ StV base w' s m E (upX X g ⟨(X g).t, decide (l = []), inW l⟩) ∧ Stp w (fun k => k = g) (fun k => k = g) w' := by
  obtain ⟨a0, c0, rfl⟩ := hr.form
  have HNo : Hid (∀ W, Below w.heap.size w W → Calls Tryz.prog 53 #[.slice a0 l.length c0] W fun e w' => e = .returned (.bool true) ∧ w' = W) := fun W hb => by
    have := nodes_any _ l W (hr.below hb) hl
    rw [nodesB_true hP] at this
    exact this
  have HFi : Hid (∀ W, Below w.heap.size w W → Calls Tryz.prog 35 #[stP s, .string n] W fun e w' => e = .returned (.pointer (some ⟨g, 0, none⟩)) ∧ Below W.heap.size W w') := fun W hb => by
    have := find_any (h.below hb) n hn (Utf8Tabs_below hT hb)
    rw [hL] at this
    exact this
  obtain ⟨hbg, vo, va, vc, h0, ho⟩ := h.kp _ (lkS_memB hL)
  dsimp only at hbg h0 ho
  obtain ⟨t, s0, f0, hX⟩ : ∃ t s0 f0, X g = ⟨t, s0, f0⟩ := ⟨_, _, _, rfl⟩
  rw [hX] at h0 ho
  have HK : Hid (∀ W, Below w.heap.size w W → W.heap[g]? = some (.cells (kpA ⟨t, s0, f0⟩ vo va vc) 91 (0, 0))) := fun W hb => (hb.block g (Array.getElem?_eq_some_iff.1 h0).1).trans h0
  have HEnd : Hid (∀ W W', Below w.heap.size w W → Onl g W W' → W'.heap[g]? = some (.cells (kpA ⟨t, decide (l = []), inW l⟩ vo va vc) 91 (0, 0)) → StV base W' s m E (upX X g ⟨(X g).t, decide (l = []), inW l⟩) ∧ Stp w (fun k => k = g) (fun k => k = g) W') := fun W W' hb ho' hg' => by
    refine ⟨(h.below hb).upd rfl (vo := vo) (va := va) (vc := vc) (by rw [hX]; exact (hb.block g (Array.getElem?_eq_some_iff.1 h0).1).trans h0) (by rw [hX]; exact ho.below hb) (by rw [hX]; exact hg') fun j hj _ => ho'.block j hj, Onl.stp hb ho'⟩
  have HRw : Hid (∀ W W', Below w.heap.size w W → Onl g W W' → IsRow W' 1 (.slice a0 l.length c0) l.length (iCells l)) := fun W W' hb ho' => by
    by_cases h0 : l = []
    · subst h0
      exact ⟨rfl, .inl ⟨rfl, _, _, rfl⟩⟩
    · exact ho'.row (hr.below hb) (hfar h0)
  have HP : Hid (NodesP l) := hP
  have HA : Hid (∀ W W', W'.heap[g]? = some (.cells (kpA ⟨t, s0, inW l⟩ vo va vc) 91 (0, 0)) → W = W' → Calls Tryz.prog 54 #[.pointer (some ⟨g, 0, none⟩)] W fun e w' => e = .returned (.bool (!decide (l = []))) ∧ w' = W) := fun W W' hg' e => by
    subst e
    have := waitsAll_any W g _ vo va vc hg'
    rw [anyW_in hP] at this
    exact this
  obtain ⟨D, HD⟩ : ∃ D, Hid (decide (l = []) = D) := ⟨_, rfl⟩
  rw [HD.out] at HA HEnd ⊢
  clear h hr hP hfar hT hn hL hbg h0 ho
  go_enter Tryz.func20, Tryz.ntmps20
  go_wp2_with fail
  refine (HNo.out _ (Below.refl _ _)).mono ?_
  rintro e w1 ⟨rfl, rfl⟩
  go_wp2_with fail
  refine (HFi.out _ (Below.refl _ _)).mono ?_
  rintro e w2 ⟨rfl, hb⟩
  have B2 : Hid (Below w1.heap.size w1 w2) := hb
  clear hb
  have hk2 := HK.out w2 B2.out
  have c0 : w2.cell? ⟨g, 9, none⟩ = some (.bool (f0 0)) := by rw [Lib.cell_of_heap hk2]; rfl
  have c1 : w2.cell? ⟨g, 10, none⟩ = some (.bool (f0 1)) := by rw [Lib.cell_of_heap hk2]; rfl
  have c2 : w2.cell? ⟨g, 11, none⟩ = some (.bool (f0 2)) := by rw [Lib.cell_of_heap hk2]; rfl
  have c3 : w2.cell? ⟨g, 12, none⟩ = some (.bool (f0 3)) := by rw [Lib.cell_of_heap hk2]; rfl
  have c4 : w2.cell? ⟨g, 13, none⟩ = some (.bool (f0 4)) := by rw [Lib.cell_of_heap hk2]; rfl
  have c5 : w2.cell? ⟨g, 14, none⟩ = some (.bool (f0 5)) := by rw [Lib.cell_of_heap hk2]; rfl
  have c6 : w2.cell? ⟨g, 15, none⟩ = some (.bool (f0 6)) := by rw [Lib.cell_of_heap hk2]; rfl
  have c7 : w2.cell? ⟨g, 16, none⟩ = some (.bool (f0 7)) := by rw [Lib.cell_of_heap hk2]; rfl
  have c8 : w2.cell? ⟨g, 17, none⟩ = some (.bool (f0 8)) := by rw [Lib.cell_of_heap hk2]; rfl
  have c9 : w2.cell? ⟨g, 18, none⟩ = some (.bool (f0 9)) := by rw [Lib.cell_of_heap hk2]; rfl
  have c10 : w2.cell? ⟨g, 19, none⟩ = some (.bool (f0 10)) := by rw [Lib.cell_of_heap hk2]; rfl
  have c11 : w2.cell? ⟨g, 20, none⟩ = some (.bool (f0 11)) := by rw [Lib.cell_of_heap hk2]; rfl
  have c12 : w2.cell? ⟨g, 21, none⟩ = some (.bool (f0 12)) := by rw [Lib.cell_of_heap hk2]; rfl
  have c13 : w2.cell? ⟨g, 22, none⟩ = some (.bool (f0 13)) := by rw [Lib.cell_of_heap hk2]; rfl
  have c14 : w2.cell? ⟨g, 23, none⟩ = some (.bool (f0 14)) := by rw [Lib.cell_of_heap hk2]; rfl
  have c15 : w2.cell? ⟨g, 24, none⟩ = some (.bool (f0 15)) := by rw [Lib.cell_of_heap hk2]; rfl
  have fz : ∀ j, w2.frozen? ⟨g, j, none⟩ = false := fun j => Lib.frozen_of_heap hk2 j
  obtain ⟨w3, hw3⟩ : ∃ w3, w3 = ((((((((((((((((w2.setCell ⟨g, 9, none⟩ (.bool false)).setCell ⟨g, 10, none⟩ (.bool false)).setCell ⟨g, 11, none⟩ (.bool false)).setCell ⟨g, 12, none⟩ (.bool false)).setCell ⟨g, 13, none⟩ (.bool false)).setCell ⟨g, 14, none⟩ (.bool false)).setCell ⟨g, 15, none⟩ (.bool false)).setCell ⟨g, 16, none⟩ (.bool false)).setCell ⟨g, 17, none⟩ (.bool false)).setCell ⟨g, 18, none⟩ (.bool false)).setCell ⟨g, 19, none⟩ (.bool false)).setCell ⟨g, 20, none⟩ (.bool false)).setCell ⟨g, 21, none⟩ (.bool false)).setCell ⟨g, 22, none⟩ (.bool false)).setCell ⟨g, 23, none⟩ (.bool false)).setCell ⟨g, 24, none⟩ (.bool false)) := ⟨_, rfl⟩
  have O3 : Hid (Onl g w2 w3) := by show Onl _ _ _; rw [hw3]; exact z16_onl _ _
  have K3 : Hid (w3.heap[g]? = some (.cells (kpA ⟨t, s0, zW⟩ vo va vc) 91 (0, 0))) := by show _ = _; rw [hw3]; exact z16_heap hk2
  go_wp2_with fail
  rw [← hw3]
  clear hw3 hk2 fz c0 c1 c2 c3 c4 c5 c6 c7 c8 c9 c10 c11 c12 c13 c14 c15
  have HG0 : Hid (w3.heap[g]? = some (.cells (kpA ⟨t, s0, inW (l.take 0)⟩ vo va vc) 91 (0, 0))) := by show _ = _; rw [List.take_zero, inW_nil]; exact K3.out
  clear K3 HNo HFi HK
  go_loopw [29] (fun i wr => ∃ j : Nat, j ≤ l.length ∧ i = .int .i64 (j : Int) ∧ Hid (Onl g w2 wr) ∧ Hid (wr.heap[g]? = some (.cells (kpA ⟨t, s0, inW (l.take j)⟩ vo va vc) 91 (0, 0)))) (fun i _ => l.length - (intOf i).toNat)
  case atStart => exact ⟨0, Nat.zero_le _, rfl, O3, HG0⟩
  case round =>
    obtain ⟨j, hj, rfl, HO, HG⟩ := hrel
    by_cases hlk : j < l.length
    · have dk : decide ((j : Int) < (l.length : Int)) = true := by simp; omega
      obtain ⟨b, off, rfl, -, hlt, hcap, hc⟩ := iCells_at (HRw.out w2 wr B2.out HO.out) (by omega)
      have ck := hc j hlk
      have hp := HP.out j hlk
      obtain ⟨k, hk⟩ : ∃ k : Nat, l[j] = (k : Int) := ⟨(l[j]).toNat, by omega⟩
      have i1 : 1 ≤ (k : Int) := by rw [← hk]; exact hp.1
      have i2 : (k : Int) ≤ 15 := by rw [← hk]; exact hp.2.1
      have HG2 : Hid ((wr.setCell ⟨g, 9 + k, none⟩ (.bool true)).heap[g]? = some (.cells (kpA ⟨t, s0, inW (l.take (j + 1))⟩ vo va vc) 91 (0, 0))) := by
        show _ = _
        rw [← inW_next hlk hk]
        exact kp_step HG.out (by omega) true
      have HO2 : Hid (Onl g w2 (wr.setCell ⟨g, 9 + k, none⟩ (.bool true))) := HO.out.set _ _
      rw [hk] at ck
      have hcg := kp_cell HG.out (k := k) (by omega)
      have fz : ∀ i, wr.frozen? ⟨g, i, none⟩ = false := fun i => Lib.frozen_of_heap HG.out i
      have d1 : decide ((k : Int) < 0) = false := decide_eq_false (by omega)
      have d2 : decide ((k : Int) < 16) = true := decide_eq_true (by omega)
      have d3 : decide ((16 : Int) ≤ (k : Int)) = false := decide_eq_false (by omega)
      clear hc hp hk HG HO HG0 O3
      go_wp2
      go_roundw
      case rel => exact ⟨j + 1, by omega, by simp, HO2, HG2⟩
      case measure => simp [intOf]; omega
    · have hk' : j = l.length := by omega
      subst hk'
      have dk : decide ((l.length : Int) < (l.length : Int)) = false := by simp
      rw [List.take_length] at HG
      have hA := HA.out wr wr HG.out rfl
      have c8 : wr.cell? ⟨g, 8, none⟩ = some (.bool s0) := by rw [Lib.cell_of_heap HG.out]; rfl
      have fz : ∀ i, wr.frozen? ⟨g, i, none⟩ = false := fun i => Lib.frozen_of_heap HG.out i
      have HE : Hid (∀ D', D' = D → StV base (wr.setCell ⟨g, 8, none⟩ (.bool D')) s m E (upX X g ⟨(X g).t, D, inW l⟩) ∧ Stp w1 (fun k => k = g) (fun k => k = g) (wr.setCell ⟨g, 8, none⟩ (.bool D'))) := fun D' e => by
        subst e
        exact HEnd.out w2 _ B2.out (HO.out.set 8 _) ((heap_setS HG.out 8 (.bool D')).trans rfl)
      clear HA HEnd HRw HP HG HO HG0 O3 HD
      go_wp2_with fail
      refine hA.mono ?_
      rintro e w5 ⟨rfl, rfl⟩
      go_wp2
      refine bodyPost_ret (results_tmp2 rfl _ _ _) rfl ⟨?_, HE.out _ (by simp)⟩
      go_simp
      try rfl
end Go.Proofs.YthdbnlpbidkojaaGreatDoor
/- For whom is waited, as a list: plainly. -/
namespace Go.Proofs.YthdbnlpbidkojaaGreatDoor
open Go.RowKit Go.ChangeMaps

/-- The nodes below j for which is waited. -/
def nodK (f : Nat → Bool) (j : Nat) : List Int := ((List.range j).filter f).map fun (n : Nat) => (n : Int)
theorem nodK_zero (f : Nat → Bool) : nodK f 0 = [] := rfl
theorem nodK_yes {f : Nat → Bool} {j : Nat} (h : f j = true) : nodK f (j + 1) = nodK f j ++ [(j : Int)] := by
  unfold nodK
  rw [List.range_succ, List.filter_append, List.map_append, List.filter_cons, if_pos h]
  rfl
theorem nodK_no {f : Nat → Bool} {j : Nat} (h : f j = false) : nodK f (j + 1) = nodK f j := by
  unfold nodK
  rw [List.range_succ, List.filter_append, List.filter_cons, if_neg (by rw [h]; decide), List.filter_nil, List.append_nil]
theorem nodK_len (f : Nat → Bool) (j : Nat) : (nodK f j).length ≤ j := by
  unfold nodK
  rw [List.length_map]
  refine Nat.le_trans (List.length_filter_le _ _) ?_
  simp
theorem nodes_pw {l : List Int} (h : NodesP l) : l.Pairwise (· < ·) := by
  rw [List.pairwise_iff_getElem]
  intro i j hi hj hij
  exact nodes_rise h j i hj hij
theorem nodes_from {l : List Int} (h : l.Pairwise (· < ·)) (hm : ∀ x ∈ l, 1 ≤ x ∧ x ≤ 15) : NodesP l := fun k hk => by
  have := hm _ (List.getElem_mem hk)
  exact ⟨this.1, this.2, fun j e => List.pairwise_iff_getElem.1 h j k (by omega) hk (by omega)⟩
theorem nodes_filter {l : List Int} (h : NodesP l) (p : Int → Bool) : NodesP (l.filter p) :=
  nodes_from ((nodes_pw h).filter _) fun _ hx => nodes_mem h (List.mem_filter.1 hx).1
theorem nodes_nil : NodesP [] := fun _ h => absurd h (Nat.not_lt_zero _)
/-- For whom is waited, in order: just these. -/
theorem nodK_in {l : List Int} (h : NodesP l) : nodK (inW l) 16 = l := by
  refine List.Perm.eq_of_pairwise (le := (· ≤ ·)) (fun a b _ _ h1 h2 => Int.le_antisymm h1 h2) ?_ ((nodes_pw h).imp fun h => Int.le_of_lt h) ?_
  · unfold nodK
    rw [List.pairwise_map]
    refine (List.pairwise_lt_range.filter _).imp ?_
    intro a b hab
    omega
  · refine (List.perm_ext_iff_of_nodup ?_ (nodes_nodup h)).2 fun x => ?_
    · unfold nodK
      exact map_cast_nodup (List.nodup_range.filter _)
    · unfold nodK
      rw [List.mem_map]
      constructor
      · rintro ⟨n, hn, rfl⟩
        simpa [inW] using (List.mem_filter.1 hn).2
      · intro hx
        have := nodes_mem h hx
        refine ⟨x.toNat, List.mem_filter.2 ⟨List.mem_range.2 (by omega), ?_⟩, by omega⟩
        unfold inW
        rw [show ((x.toNat : Nat) : Int) = x by omega]
        simpa using hx
/-- What is left of nodes without one. -/
def witho (l : List Int) (x : Int) : List Int := l.filter fun y => !decide (y = x)
theorem witho_nodes {l : List Int} (h : NodesP l) (x : Int) : NodesP (witho l x) := nodes_filter h _
theorem updW_witho (l : List Int) (k : Nat) : updW (inW l) k false = inW (witho l (k : Int)) := by
  funext i
  unfold updW inW witho
  rw [Bool.eq_iff_iff]
  by_cases e : i = k
  · subst e; simp
  · rw [if_neg e]
    have : (i : Int) ≠ (k : Int) := by omega
    simp [this]
theorem witho_len (l : List Int) (x : Int) : (witho l x).length ≤ l.length := List.length_filter_le _ _
theorem nodes_len {l : List Int} (h : NodesP l) : l.length ≤ 15 := by
  rw [← rgL_len h]
  unfold rgL
  split
  · exact Nat.le_trans (List.length_filter_le _ _) (by decide)
  · exact Nat.zero_le _
end Go.Proofs.YthdbnlpbidkojaaGreatDoor
/- store's nodes: its walk. -/
namespace Go.Proofs.YthdbnlpbidkojaaGreatDoor
open Go.RowKit Go.ChangeMaps

set_option maxRecDepth 100000 in
theorem idxW (f : Nat → Bool) (k : Nat) (hk : k ≤ 15) (W : World) : (Instr.index 89 (.agg #[.bool (f 0), .bool (f 1), .bool (f 2), .bool (f 3), .bool (f 4), .bool (f 5), .bool (f 6), .bool (f 7), .bool (f 8), .bool (f 9), .bool (f 10), .bool (f 11), .bool (f 12), .bool (f 13), .bool (f 14), .bool (f 15)]) (.int .i64 (k : Int))).run Tryz.prog W = .ok (.bool (f k)) W := by
  have h16 : k = 0 ∨ k = 1 ∨ k = 2 ∨ k = 3 ∨ k = 4 ∨ k = 5 ∨ k = 6 ∨ k = 7 ∨ k = 8 ∨ k = 9 ∨ k = 10 ∨ k = 11 ∨ k = 12 ∨ k = 13 ∨ k = 14 ∨ k = 15 := by omega
  rcases h16 with rfl | rfl | rfl | rfl | rfl | rfl | rfl | rfl | rfl | rfl | rfl | rfl | rfl | rfl | rfl | rfl <;> (show _ = _; kernel_rfl)
theorem info_inS : (Tryz.prog.info? 3).map (fun i => (i.zero, i.size, i.bytes)) = some (some (.int .i64 0), 1, 8) := by kernel_rfl
/-- For whom is waited, in memory of its own. -/
def NdP (l : List Int) (w : World) (e : Ending) (w' : World) : Prop := ∃ v, e = .returned v ∧ w'.ownsRow w.heap.size 3 1 v l.length (iCells l) ∧ Below w.heap.size w w'
set_option maxRecDepth 100000 in
set_option maxHeartbeats 2000000 in
theorem nodesK_any (w : World) (g : Nat) (x : Kp) (vo va vc : Value) (hk : w.heap[g]? = some (.cells (kpA x vo va vc) 91 (0, 0))) :
    Calls Tryz.prog 37 #[.pointer (some ⟨g, 0, none⟩)] w fun e w' => NdP (nodK x.f 16) w e w' := by
  obtain ⟨t, s, f⟩ := x
  dsimp only
  have c0 : w.cell? ⟨g, 9, none⟩ = some (.bool (f 0)) := by rw [Lib.cell_of_heap hk]; rfl
  have c1 : w.cell? ⟨g, 10, none⟩ = some (.bool (f 1)) := by rw [Lib.cell_of_heap hk]; rfl
  have c2 : w.cell? ⟨g, 11, none⟩ = some (.bool (f 2)) := by rw [Lib.cell_of_heap hk]; rfl
  have c3 : w.cell? ⟨g, 12, none⟩ = some (.bool (f 3)) := by rw [Lib.cell_of_heap hk]; rfl
  have c4 : w.cell? ⟨g, 13, none⟩ = some (.bool (f 4)) := by rw [Lib.cell_of_heap hk]; rfl
  have c5 : w.cell? ⟨g, 14, none⟩ = some (.bool (f 5)) := by rw [Lib.cell_of_heap hk]; rfl
  have c6 : w.cell? ⟨g, 15, none⟩ = some (.bool (f 6)) := by rw [Lib.cell_of_heap hk]; rfl
  have c7 : w.cell? ⟨g, 16, none⟩ = some (.bool (f 7)) := by rw [Lib.cell_of_heap hk]; rfl
  have c8 : w.cell? ⟨g, 17, none⟩ = some (.bool (f 8)) := by rw [Lib.cell_of_heap hk]; rfl
  have c9 : w.cell? ⟨g, 18, none⟩ = some (.bool (f 9)) := by rw [Lib.cell_of_heap hk]; rfl
  have c10 : w.cell? ⟨g, 19, none⟩ = some (.bool (f 10)) := by rw [Lib.cell_of_heap hk]; rfl
  have c11 : w.cell? ⟨g, 20, none⟩ = some (.bool (f 11)) := by rw [Lib.cell_of_heap hk]; rfl
  have c12 : w.cell? ⟨g, 21, none⟩ = some (.bool (f 12)) := by rw [Lib.cell_of_heap hk]; rfl
  have c13 : w.cell? ⟨g, 22, none⟩ = some (.bool (f 13)) := by rw [Lib.cell_of_heap hk]; rfl
  have c14 : w.cell? ⟨g, 23, none⟩ = some (.bool (f 14)) := by rw [Lib.cell_of_heap hk]; rfl
  have c15 : w.cell? ⟨g, 24, none⟩ = some (.bool (f 15)) := by rw [Lib.cell_of_heap hk]; rfl
  have HIx : Hid (∀ (k : Nat), k ≤ 15 → ∀ W, (Instr.index 89 (.agg #[.bool (f 0), .bool (f 1), .bool (f 2), .bool (f 3), .bool (f 4), .bool (f 5), .bool (f 6), .bool (f 7), .bool (f 8), .bool (f 9), .bool (f 10), .bool (f 11), .bool (f 12), .bool (f 13), .bool (f 14), .bool (f 15)]) (.int .i64 (k : Int))).run Tryz.prog W = .ok (.bool (f k)) W) := fun k h W => idxW f k h W
  clear hk
  obtain ⟨i0, hi0, hz0, hz1, hz2⟩ := info_parts info_inS
  go_enter Tryz.func37, Tryz.ntmps37
  go_wp2_with fail
  clear c0 c1 c2 c3 c4 c5 c6 c7 c8 c9 c10 c11 c12 c13 c14 c15
  go_loopw [2, 9] (fun o i wr => ∃ (k : Nat) (va : Option Addr) (vc : Nat), k ≤ 16 ∧ i = .int .i64 (k : Int) ∧ o = .slice va (nodK f k).length vc ∧ Hid (wr.ownsRow w.heap.size 3 1 (.slice va (nodK f k).length vc) (nodK f k).length (iCells (nodK f k))) ∧ Hid (Below w.heap.size w wr)) (fun _ i _ => 16 - (intOf i).toNat)
  case atStart => exact ⟨0, none, 0, Nat.zero_le _, rfl, rfl, World.ownsRow_nil _ _ _ _, Below.refl _ _⟩
  case round =>
    obtain ⟨k, va, vc, hk, rfl, rfl, HO, HB⟩ := hrel
    have hsz := HB.out.size
    by_cases hlk : k ≤ 15
    · have dk : decide ((k : Int) < 16) = true := by simp; omega
      have hix := HIx.out k hlk
      have hln := nodK_len f k
      cases hf : f k
      · have HE : Hid (nodK f (k + 1) = nodK f k) := nodK_no hf
        rw [hf] at hix
        clear hf HIx
        go_wp2
        go_roundw
        case rel => exact ⟨k + 1, va, vc, by omega, by simp, by rw [HE.out], by rw [HE.out]; exact HO, HB⟩
        case measure => simp [intOf]; omega
      · have HE : Hid (nodK f (k + 1) = nodK f k ++ [(k : Int)]) := nodK_yes hf
        rw [hf] at hix
        clear hf HIx
        obtain ⟨L, hL⟩ : ∃ L, L = nodK f k := ⟨_, rfl⟩
        rw [← hL] at HE HO hln ⊢
        clear hL
        go_wp2_with (at_builtin; go_loud (refine wpl_appE wr rfl (.tmp 14) (.tmp 16) 36 3 rfl i0 _ 1 8 Tryz.underlying36 hi0 hz0 hz1 hz2 rfl (by decide) w.heap.size (.slice va L.length vc) L.length (iCells L) rfl HO.out [.int .i64 (k : Int)] rfl _ rfl rfl (by simp [Value.oneCell']) (by omega) (by unfold maxLen; omega) hsz ?_; intro v4 w4 ho4 hb4; obtain ⟨va4, vc4, rfl⟩ := (IsRow.own ho4).form))
        have HB4 : Hid (Below w.heap.size w w4) := HB.out.trans hb4
        have HO4 : Hid (w4.ownsRow w.heap.size 3 1 (.slice va4 (L.length + 1) vc4) (L.length + 1) (iCells L ++ [.int .i64 (k : Int)])) := ho4
        clear ho4 hb4 HO
        go_wp2
        go_roundw
        case rel => exact ⟨k + 1, va4, vc4, by omega, by simp, by rw [HE.out, List.length_append, List.length_singleton], by show World.ownsRow _ _ _ _ _ _ _; rw [HE.out, List.length_append, List.length_singleton, iCells, List.map_append]; exact HO4.out, HB4⟩
        case measure => simp [intOf]; omega
    · obtain rfl : k = 16 := by omega
      have dk : decide ((16 : Int) < 16) = false := by simp
      clear HIx
      go_wp2
      go_ret
      exact ⟨_, rfl, HO.out, HB.out⟩
end Go.Proofs.YthdbnlpbidkojaaGreatDoor
