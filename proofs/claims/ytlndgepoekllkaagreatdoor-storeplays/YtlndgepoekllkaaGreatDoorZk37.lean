/- law17's do: walks where the act is of no kind, of the kinds 4, 2, 3. -/
import Derived.Test.YtlndgepoekllkaaGreatDoorZk36
import Derived.Test.YtlndgepoekllkaaGreatDoorZk9
import Derived.Deep.RegionHeld3
namespace Go.Proofs.YtlndgepoekllkaaGreatDoor
open Go.RowKit Go.ChangeMaps

theorem pst_blk {F : Nat → Prop} {w : World} {b : Nat} {o : Obj} (h : w.heap[b]? = some o) (hf : ¬ F b) : Pst F w fun W => W.heap[b]? = some o := fun _ hW => (hW.block b (Array.getElem?_eq_some_iff.1 h).1 hf).trans h
theorem Pst.weaken {F F' : Nat → Prop} {w : World} {P : World → Prop} (h : Pst F' w P) (hs : ∀ k, F k → F' k) : Pst F w P := fun W hW => h W ⟨hW.os, hW.tape, hW.output, hW.size, fun k hk hn => hW.block k hk fun hf => hn (hs k hf), fun _ h => .inl h⟩
theorem Pst.more {F F' : Nat → Prop} {w w1 : World} {P : World → Prop} (h : Pst F w P) (hb : Below w.heap.size w w1) (hs : ∀ k, F' k → F k ∨ w.heap.size ≤ k) : Pst F' w1 P := h.move ⟨hb.os, hb.tape, hb.output, hb.size, fun k hk _ => hb.block k hk, hs⟩
/-- What an act does to both. -/
def DoQ (w0 w : World) (s m : Nat) (E : List (ByteArray × Nat)) (e : Ending) (w' : World) : Prop := ∃ E' X' a c M', e = .returned (.tuple #[.agg #[.slice a (List.length M') c], .bool true]) ∧ RS w0 w' s m E' X' (.slice a M'.length c) M' ∧ Stp w (SF m E) (SF m E') w'
theorem set_sz (w : World) (a : Addr) (v : Value) : (w.setCell a v).heap.size = w.heap.size := by
  show (w.heap.modify _ _).size = _
  rw [Array.size_modify]
theorem stp_set {w w1 : World} {F F' : Nat → Prop} (h : Stp w F F' w1) {g : Nat} (hg : F g ∨ w.heap.size ≤ g) (j : Nat) (v : Value) : Stp w F F' (w1.setCell ⟨g, j, none⟩ v) :=
  ⟨h.os, h.tape, h.output, by rw [set_sz]; exact h.size, fun k hk hn => (Below.heap_setCell _ _ _ _ (fun e => by
    dsimp only at e
    rcases hg with hg | hg
    · exact hn (e ▸ hg)
    · omega)).trans (h.block k hk hn), h.fp⟩
theorem stp_plus {w w1 : World} {G G' : Nat → Prop} (h : Stp w G G' w1) (q : Nat) : Stp w (fun k => G k ∨ k = q) (fun k => G' k ∨ k = q) w1 :=
  ⟨h.os, h.tape, h.output, h.size, fun k hk hn => h.block k hk fun e => hn (.inl e), fun k hk => by
    rcases hk with hk | rfl
    · exact (h.fp k hk).imp .inl id
    · exact .inl (.inr rfl)⟩
/-- The end of an act: the result is stored. -/
theorem do_end {w0 w w2 : World} {s m q : Nat} {E E' : List (ByteArray × Nat)} {X' : Nat → Kp} {a : Option Addr} {c : Nat} {M' : List KR} {C : Array Value} {z : Nat × Nat} (hS : StV w0.heap.size w2 s m E' X') (hK : Pst (fun k => SF m E' k ∨ k = q) w2 fun W => IsKs W (.slice a M'.length c) M') (hq : w2.heap[q]? = some (.cells C 27 z)) (hb : Below w0.heap.size w0 w2) (hp : PlI E' X' M') (hl : E'.length ≤ 200) (h0 : w0.heap.size ≤ q) (hs : Stp w (SF m E) (SF m E') w2) (hwq : w.heap.size ≤ q) (u : Value) :
    DoQ w0 w s m E (.returned (.tuple #[.agg #[.slice a M'.length c], .bool true])) (w2.setCell ⟨q, 0, none⟩ u) := by
  refine ⟨E', X', a, c, M', rfl, ⟨hS.far hq (by decide) (by decide) (by decide) (by decide) fun j hj => Below.heap_setCell _ _ _ _ hj, ?_, hb.setCell (p := ⟨q, 0, none⟩) h0 u, hp, hl⟩, stp_set hs (.inr hwq) 0 u⟩
  refine Pst.weaken (F' := fun k => SF m E' k ∨ k = q) ?_ fun k hk => .inl hk
  exact hK.move (stp_set (Stp.rfl' _ _) (.inl (.inr rfl)) 0 u)
set_option maxRecDepth 100000 in
set_option maxHeartbeats 8000000 in
theorem do_none {w0 w : World} {s m : Nat} {E : List (ByteArray × Nat)} {X : Nat → Kp} {v : Value} {M : List KR} (h : RS w0 w s m E X v M) (x : Ac) (_ : OkAc w0 x) (_ : x.n.size ≤ 200) (_ : x.l.length ≤ 20) (_ : oneB x.z.t = true) (_ : ∀ W, Below w0.heap.size w0 W → UT W ∧ ML W) (hkd : ¬ (0 ≤ x.kd ∧ x.kd ≤ 4)) :
    Calls Tryz.prog 7 #[stP s, .agg #[v], acV x] w fun e w' => DoQ w0 w s m E e w' := by
  obtain ⟨a0, c0, rfl⟩ := h.ks.get.1.form
  obtain ⟨w1, hw1⟩ : ∃ w1, w1 = w.alloc (.cells #[.slice a0 M.length c0] 27) := ⟨_, rfl⟩
  have B1 : Hid (Below w.heap.size w w1) := by show Below _ _ _; rw [hw1]; exact al_b _ _
  have hn1 : w1.heap[w.heap.size]? = some (.cells #[.slice a0 M.length c0] 27 (0, 0)) := by rw [hw1]; exact new_at _ _
  have C1 : Hid (∀ W, Below w1.heap.size w1 W → W.heap[w.heap.size]? = some (.cells #[.slice a0 M.length c0] 27 (0, 0))) := fun W h => (h.block _ (Array.getElem?_eq_some_iff.1 hn1).1).trans hn1
  clear hn1
  obtain ⟨w2, hw2⟩ : ∃ w2, w2 = w1.alloc (.cells (acA x) 38) := ⟨_, rfl⟩
  have B2 : Hid (Below w1.heap.size w1 w2) := by show Below _ _ _; rw [hw2]; exact al_b _ _
  have hn2 : w2.heap[(w.heap.size + 1)]? = some (.cells (acA x) 38 (0, 0)) := by rw [hw2]; rw [show w.heap.size + 1 = w1.heap.size by (rw [hw1]; simp)]; exact new_at _ _
  have C2 : Hid (∀ W, Below w2.heap.size w2 W → W.heap[(w.heap.size + 1)]? = some (.cells (acA x) 38 (0, 0))) := fun W h => (h.block _ (Array.getElem?_eq_some_iff.1 hn2).1).trans hn2
  clear hn2
  obtain ⟨w3, hw3⟩ : ∃ w3, w3 = w2.alloc (.cells #[.slice none 0 0] 27) := ⟨_, rfl⟩
  have B3 : Hid (Below w2.heap.size w2 w3) := by show Below _ _ _; rw [hw3]; exact al_b _ _
  have hn3 : w3.heap[(w.heap.size + 2)]? = some (.cells #[.slice none 0 0] 27 (0, 0)) := by rw [hw3]; rw [show w.heap.size + 2 = w2.heap.size by (rw [hw2, hw1]; simp)]; exact new_at _ _
  have C3 : Hid (∀ W, Below w3.heap.size w3 W → W.heap[(w.heap.size + 2)]? = some (.cells #[.slice none 0 0] 27 (0, 0))) := fun W h => (h.block _ (Array.getElem?_eq_some_iff.1 hn3).1).trans hn3
  clear hn3
  have hz3 : w3.heap.size = w.heap.size + 3 := by rw [hw3, hw2, hw1]; simp
  have hSF : ∀ k, SF m E k → w0.heap.size ≤ k ∧ k < w.heap.size := fun k hk => h.st.sf hk
  have hsz0 := h.bel.size
  have HBw : Hid (Below w.heap.size w w3) := B1.out.trans ((B2.out.trans (B3.out.mono B2.out.size)).mono B1.out.size)
  have HZ : Hid (w3.heap.size = w.heap.size + 3 ∧ w0.heap.size ≤ w.heap.size) := ⟨hz3, hsz0⟩
  have HF : Hid ((∀ k, (SF m E k ∨ k = w.heap.size + 2) → k < w3.heap.size) ∧ ∀ k, (SF m E k ∨ k = w.heap.size + 2) → w0.heap.size ≤ k) := ⟨fun k hk => by
    rcases hk with hk | rfl
    · have := (hSF k hk).2; omega
    · omega, fun k hk => by
    rcases hk with hk | rfl
    · exact (hSF k hk).1
    · omega⟩
  have HK : Hid (Pst (fun k => SF m E k ∨ k = w.heap.size + 2) w3 fun W => IsKs W (.slice a0 M.length c0) M) := h.ks.more HBw.out fun k hk => by
    rcases hk with hk | rfl
    · exact .inl hk
    · exact .inr (by omega)
  have HR : Hid (RS w0 w3 s m E X (.slice a0 M.length c0) M) := h.below HBw.out
  have HCA : Hid (Pst (SF m E) w3 fun W => W.cell? ⟨w.heap.size, 0, none⟩ = some (.slice a0 M.length c0) ∧ W.cell? ⟨w.heap.size + 1, 0, none⟩ = some (.int .i64 x.kd) ∧ W.cell? ⟨w.heap.size + 1, 1, none⟩ = some (.string x.z.t.n) ∧ W.cell? ⟨w.heap.size + 1, 2, none⟩ = some (.string x.z.t.p) ∧ W.cell? ⟨w.heap.size + 1, 3, none⟩ = some (x.z.vo) ∧ W.cell? ⟨w.heap.size + 1, 4, none⟩ = some (x.z.va) ∧ W.cell? ⟨w.heap.size + 1, 5, none⟩ = some (x.z.vc) ∧ W.cell? ⟨w.heap.size + 1, 6, none⟩ = some (.int .i64 x.z.t.nd) ∧ W.cell? ⟨w.heap.size + 1, 7, none⟩ = some (.int .i64 x.z.t.lf) ∧ W.cell? ⟨w.heap.size + 1, 8, none⟩ = some (.int .i64 x.z.t.sq) ∧ W.cell? ⟨w.heap.size + 1, 9, none⟩ = some (.string x.n) ∧ W.cell? ⟨w.heap.size + 1, 10, none⟩ = some (.slice x.lp x.l.length x.lc) ∧ W.cell? ⟨w.heap.size + 1, 11, none⟩ = some (.int .i64 x.a) ∧ W.cell? ⟨w.heap.size + 1, 12, none⟩ = some (.int .i64 x.b) ∧ W.cell? ⟨w.heap.size + 1, 13, none⟩ = some (.int .i64 x.c) ∧ W.cell? ⟨w.heap.size + 1, 14, none⟩ = some (.int .i64 x.i) ∧ W.cell? ⟨w.heap.size + 2, 0, none⟩ = some (.slice none 0 0) ∧ (∀ j, W.frozen? ⟨w.heap.size + 2, j, none⟩ = false) ∧ W.heap[w.heap.size + 2]? = some (.cells #[.slice none 0 0] 27 (0, 0))) := fun W hW => by
    have h1 := pst_blk (F := SF m E) (C1.out w3 (B2.out.trans (B3.out.mono B2.out.size))) (fun e => by have := (hSF _ e).2; omega) W hW
    have h2 := pst_blk (F := SF m E) (C2.out w3 B3.out) (fun e => by have := (hSF _ e).2; omega) W hW
    have h3 := pst_blk (F := SF m E) (C3.out w3 (Below.refl _ _)) (fun e => by have := (hSF _ e).2; omega) W hW
    have c : ∀ j, W.cell? ⟨w.heap.size + 1, j, none⟩ = (acA x)[j]? := fun j => by rw [Lib.cell_of_heap h2]
    exact ⟨by rw [Lib.cell_of_heap h1]; rfl, c 0, c 1, c 2, c 3, c 4, c 5, c 6, c 7, c 8, c 9, c 10, c 11, c 12, c 13, c 14, by rw [Lib.cell_of_heap h3]; rfl, fun j => Lib.frozen_of_heap h3 j, h3⟩
  have Hkd : Hid (x.kd = x.kd) := rfl
  clear hSF hsz0 hz3 C1 C2 C3 B1 B2 B3 Hkd
  go_enter Tryz.func7, Tryz.ntmps7
  go_upto_region 1 with fail
  rw [← hw1, ← hw2, ← hw3]
  clear hw1 hw2 hw3
  generalize hwq : w3 = wq at *
  clear hwq
  obtain ⟨cb, t0_, t1_, t2_, t3_, t4_, t5_, t6_, t7_, t8_, t9_, t10_, t11_, t12_, t13_, t14_, cr, fz, -⟩ := HCA.out wq (Stp.rfl' _ _)
  have n0 : ¬ x.kd = 0 := by omega
  have dk0 : decide (x.kd = 0) = false := decide_eq_false n0
  have ek0 : (x.kd == 0) = false := by simpa using n0
  have n1 : ¬ x.kd = 1 := by omega
  have dk1 : decide (x.kd = 1) = false := decide_eq_false n1
  have ek1 : (x.kd == 1) = false := by simpa using n1
  have n2 : ¬ x.kd = 2 := by omega
  have dk2 : decide (x.kd = 2) = false := decide_eq_false n2
  have ek2 : (x.kd == 2) = false := by simpa using n2
  have n3 : ¬ x.kd = 3 := by omega
  have dk3 : decide (x.kd = 3) = false := decide_eq_false n3
  have ek3 : (x.kd == 3) = false := by simpa using n3
  have n4 : ¬ x.kd = 4 := by omega
  have dk4 : decide (x.kd = 4) = false := decide_eq_false n4
  have ek4 : (x.kd == 4) = false := by simpa using n4
  have HE : Hid (∀ u, DoQ w0 w s m E (.returned (.tuple #[.agg #[.slice a0 M.length c0], .bool true])) (wq.setCell ⟨w.heap.size + 2, 0, none⟩ u)) := fun u => by
    obtain ⟨h1, h2⟩ := HZ.out
    exact do_end HR.out.st HK.out (HCA.out wq (Stp.rfl' _ _)).2.2.2.2.2.2.2.2.2.2.2.2.2.2.2.2.2.2 HR.out.bel HR.out.pl HR.out.le (by omega) (Stp.of _ HBw.out) (by omega) u
  clear HCA HK HR HF HZ h hkd
  go_wp2_with fail
  try simp only [Exit.inBlock, Exit.then]
  refine bodyPost_ret (v := .tuple #[.agg #[.slice a0 M.length c0], .bool true]) ?_ rfl (HE.out _)
  rw [results_c2 rfl]; go_simp
  first | done | exact ⟨rfl, rfl⟩
set_option maxRecDepth 100000 in
set_option maxHeartbeats 8000000 in
theorem do_4 {w0 w : World} {s m : Nat} {E : List (ByteArray × Nat)} {X : Nat → Kp} {v : Value} {M : List KR} (h : RS w0 w s m E X v M) (x : Ac) (_ : OkAc w0 x) (_ : x.n.size ≤ 200) (_ : x.l.length ≤ 20) (_ : oneB x.z.t = true) (_ : ∀ W, Below w0.heap.size w0 W → UT W ∧ ML W) (hkd : x.kd = 4) :
    Calls Tryz.prog 7 #[stP s, .agg #[v], acV x] w fun e w' => DoQ w0 w s m E e w' := by
  obtain ⟨a0, c0, rfl⟩ := h.ks.get.1.form
  obtain ⟨w1, hw1⟩ : ∃ w1, w1 = w.alloc (.cells #[.slice a0 M.length c0] 27) := ⟨_, rfl⟩
  have B1 : Hid (Below w.heap.size w w1) := by show Below _ _ _; rw [hw1]; exact al_b _ _
  have hn1 : w1.heap[w.heap.size]? = some (.cells #[.slice a0 M.length c0] 27 (0, 0)) := by rw [hw1]; exact new_at _ _
  have C1 : Hid (∀ W, Below w1.heap.size w1 W → W.heap[w.heap.size]? = some (.cells #[.slice a0 M.length c0] 27 (0, 0))) := fun W h => (h.block _ (Array.getElem?_eq_some_iff.1 hn1).1).trans hn1
  clear hn1
  obtain ⟨w2, hw2⟩ : ∃ w2, w2 = w1.alloc (.cells (acA x) 38) := ⟨_, rfl⟩
  have B2 : Hid (Below w1.heap.size w1 w2) := by show Below _ _ _; rw [hw2]; exact al_b _ _
  have hn2 : w2.heap[(w.heap.size + 1)]? = some (.cells (acA x) 38 (0, 0)) := by rw [hw2]; rw [show w.heap.size + 1 = w1.heap.size by (rw [hw1]; simp)]; exact new_at _ _
  have C2 : Hid (∀ W, Below w2.heap.size w2 W → W.heap[(w.heap.size + 1)]? = some (.cells (acA x) 38 (0, 0))) := fun W h => (h.block _ (Array.getElem?_eq_some_iff.1 hn2).1).trans hn2
  clear hn2
  obtain ⟨w3, hw3⟩ : ∃ w3, w3 = w2.alloc (.cells #[.slice none 0 0] 27) := ⟨_, rfl⟩
  have B3 : Hid (Below w2.heap.size w2 w3) := by show Below _ _ _; rw [hw3]; exact al_b _ _
  have hn3 : w3.heap[(w.heap.size + 2)]? = some (.cells #[.slice none 0 0] 27 (0, 0)) := by rw [hw3]; rw [show w.heap.size + 2 = w2.heap.size by (rw [hw2, hw1]; simp)]; exact new_at _ _
  have C3 : Hid (∀ W, Below w3.heap.size w3 W → W.heap[(w.heap.size + 2)]? = some (.cells #[.slice none 0 0] 27 (0, 0))) := fun W h => (h.block _ (Array.getElem?_eq_some_iff.1 hn3).1).trans hn3
  clear hn3
  have hz3 : w3.heap.size = w.heap.size + 3 := by rw [hw3, hw2, hw1]; simp
  have hSF : ∀ k, SF m E k → w0.heap.size ≤ k ∧ k < w.heap.size := fun k hk => h.st.sf hk
  have hsz0 := h.bel.size
  have HBw : Hid (Below w.heap.size w w3) := B1.out.trans ((B2.out.trans (B3.out.mono B2.out.size)).mono B1.out.size)
  have HZ : Hid (w3.heap.size = w.heap.size + 3 ∧ w0.heap.size ≤ w.heap.size) := ⟨hz3, hsz0⟩
  have HF : Hid ((∀ k, (SF m E k ∨ k = w.heap.size + 2) → k < w3.heap.size) ∧ ∀ k, (SF m E k ∨ k = w.heap.size + 2) → w0.heap.size ≤ k) := ⟨fun k hk => by
    rcases hk with hk | rfl
    · have := (hSF k hk).2; omega
    · omega, fun k hk => by
    rcases hk with hk | rfl
    · exact (hSF k hk).1
    · omega⟩
  have HK : Hid (Pst (fun k => SF m E k ∨ k = w.heap.size + 2) w3 fun W => IsKs W (.slice a0 M.length c0) M) := h.ks.more HBw.out fun k hk => by
    rcases hk with hk | rfl
    · exact .inl hk
    · exact .inr (by omega)
  have HR : Hid (RS w0 w3 s m E X (.slice a0 M.length c0) M) := h.below HBw.out
  have HCA : Hid (Pst (SF m E) w3 fun W => W.cell? ⟨w.heap.size, 0, none⟩ = some (.slice a0 M.length c0) ∧ W.cell? ⟨w.heap.size + 1, 0, none⟩ = some (.int .i64 4) ∧ W.cell? ⟨w.heap.size + 1, 1, none⟩ = some (.string x.z.t.n) ∧ W.cell? ⟨w.heap.size + 1, 2, none⟩ = some (.string x.z.t.p) ∧ W.cell? ⟨w.heap.size + 1, 3, none⟩ = some (x.z.vo) ∧ W.cell? ⟨w.heap.size + 1, 4, none⟩ = some (x.z.va) ∧ W.cell? ⟨w.heap.size + 1, 5, none⟩ = some (x.z.vc) ∧ W.cell? ⟨w.heap.size + 1, 6, none⟩ = some (.int .i64 x.z.t.nd) ∧ W.cell? ⟨w.heap.size + 1, 7, none⟩ = some (.int .i64 x.z.t.lf) ∧ W.cell? ⟨w.heap.size + 1, 8, none⟩ = some (.int .i64 x.z.t.sq) ∧ W.cell? ⟨w.heap.size + 1, 9, none⟩ = some (.string x.n) ∧ W.cell? ⟨w.heap.size + 1, 10, none⟩ = some (.slice x.lp x.l.length x.lc) ∧ W.cell? ⟨w.heap.size + 1, 11, none⟩ = some (.int .i64 x.a) ∧ W.cell? ⟨w.heap.size + 1, 12, none⟩ = some (.int .i64 x.b) ∧ W.cell? ⟨w.heap.size + 1, 13, none⟩ = some (.int .i64 x.c) ∧ W.cell? ⟨w.heap.size + 1, 14, none⟩ = some (.int .i64 x.i) ∧ W.cell? ⟨w.heap.size + 2, 0, none⟩ = some (.slice none 0 0) ∧ (∀ j, W.frozen? ⟨w.heap.size + 2, j, none⟩ = false) ∧ W.heap[w.heap.size + 2]? = some (.cells #[.slice none 0 0] 27 (0, 0))) := fun W hW => by
    have h1 := pst_blk (F := SF m E) (C1.out w3 (B2.out.trans (B3.out.mono B2.out.size))) (fun e => by have := (hSF _ e).2; omega) W hW
    have h2 := pst_blk (F := SF m E) (C2.out w3 B3.out) (fun e => by have := (hSF _ e).2; omega) W hW
    have h3 := pst_blk (F := SF m E) (C3.out w3 (Below.refl _ _)) (fun e => by have := (hSF _ e).2; omega) W hW
    have c : ∀ j, W.cell? ⟨w.heap.size + 1, j, none⟩ = (acA x)[j]? := fun j => by rw [Lib.cell_of_heap h2]
    exact ⟨by rw [Lib.cell_of_heap h1]; rfl, (by rw [← hkd]; exact c 0), c 1, c 2, c 3, c 4, c 5, c 6, c 7, c 8, c 9, c 10, c 11, c 12, c 13, c 14, by rw [Lib.cell_of_heap h3]; rfl, fun j => Lib.frozen_of_heap h3 j, h3⟩
  have Hkd : Hid (x.kd = x.kd) := rfl
  clear hSF hsz0 hz3 C1 C2 C3 B1 B2 B3 Hkd
  go_enter Tryz.func7, Tryz.ntmps7
  go_upto_region 1 with fail
  rw [← hw1, ← hw2, ← hw3]
  clear hw1 hw2 hw3
  generalize hwq : w3 = wq at *
  clear hwq
  obtain ⟨cb, t0_, t1_, t2_, t3_, t4_, t5_, t6_, t7_, t8_, t9_, t10_, t11_, t12_, t13_, t14_, cr, fz, -⟩ := HCA.out wq (Stp.rfl' _ _)
  have HLs : Hid (∀ W, Below wq.heap.size wq W → Calls Tryz.prog 23 #[stP s] W fun e w' => e = .returned (.tuple #[]) ∧ StQ w0 s m E (fun M' => M' = M.map lsR) W w' ∧ Stp W (SF m E) (SF m E) w') := fun W hb => loosen_st HR.out hb fun p hp => ((HR.out.pl.sm HR.out.le).1 p hp).1
  clear h hkd
  go_wp2_with fail
  refine (HLs.out _ (Below.refl _ _)).mono ?_
  rintro e w5 ⟨rfl, hst, hs5⟩
  have H5 : Hid (StQ w0 s m E (fun M' => M' = M.map lsR) wq w5) := hst
  have S5 : Hid (Stp wq (SF m E) (SF m E) w5) := hs5
  clear hst hs5 HLs cb t0_ t1_ t2_ t3_ t4_ t5_ t6_ t7_ t8_ t9_ t10_ t11_ t12_ t13_ t14_ cr fz
  have HRf : Hid (Calls Tryz.prog 24 #[.agg #[.slice a0 M.length c0]] w5 fun e w' => ∃ a c, e = .returned (.agg #[.slice a (M.map lsR).length c]) ∧ (IsRow w' 10 (.slice a (M.map lsR).length c) (M.map lsR).length (kCells (M.map lsR)) ∧ NewA w5.heap.size a) ∧ Below w5.heap.size w5 w') := by
    refine (loosen17_any _ M w5 ((HK.out.move (stp_plus S5.out _)).get).1 (by have := HR.out.names.2.1; omega)).mono ?_
    rintro e w' ⟨a, c, rfl, hrow, hN, hb⟩
    exact ⟨a, c, rfl, ⟨hrow, hN⟩, hb⟩
  obtain ⟨cb, t0_, t1_, t2_, t3_, t4_, t5_, t6_, t7_, t8_, t9_, t10_, t11_, t12_, t13_, t14_, cr, fz, -⟩ := HCA.out w5 S5.out
  go_wp2_with fail
  clear cb t0_ t1_ t2_ t3_ t4_ t5_ t6_ t7_ t8_ t9_ t10_ t11_ t12_ t13_ t14_ cr fz
  refine HRf.out.mono ?_
  rintro e w6 ⟨a, c, rfl, hrn, hb⟩
  have S6 : Hid (Stp wq (SF m E) (SF m E) w6) := S5.out.trans (Stp.of _ hb)
  have HRn : Hid (IsRow w6 10 (.slice a (M.map lsR).length c) (M.map lsR).length (kCells (M.map lsR)) ∧ NewA w5.heap.size a) := hrn
  have B56 : Hid (Below w5.heap.size w5 w6) := hb
  clear hrn hb HRf
  have HE : Hid (∀ u, DoQ w0 w s m E (.returned (.tuple #[.agg #[.slice a (M.map lsR).length c], .bool true])) (w6.setCell ⟨w.heap.size + 2, 0, none⟩ u)) := fun u => by
    obtain ⟨h1, h2⟩ := HZ.out
    obtain ⟨E', X', s1, s2, s3, s4⟩ := H5.out
    have hsw : Stp w (SF m E) (SF m E') w6 := ((Stp.of (SF m E) HBw.out).trans s2).trans (Stp.of _ B56.out)
    have hq6 := (HCA.out w6 S6.out).2.2.2.2.2.2.2.2.2.2.2.2.2.2.2.2.2.2
    refine do_end (s1.below B56.out) ?_ hq6 ?_ (s4 _ rfl) s3 (by omega) hsw (by omega) u
    · have hK5 := (HK.out.move (stp_plus s2 (w.heap.size + 2))).below B56.out
      refine fun W hW => ⟨pst_new (w := w5) (fun k hk => ?_) HRn.out.1 HRn.out.2 W hW, fun y hy => ?_⟩
      · rcases hk with hk | rfl
        · exact (s1.sf hk).2
        · have := s2.size; omega
      · obtain ⟨k, hk, rfl⟩ := List.mem_map.1 hy
        exact ⟨(hK5 W hW).2 k hk |>.1, IsRow.nil _ _⟩
    · exact HR.out.bel.trans ((s2.trans (Stp.of _ B56.out)).below HR.out.bel.size fun k hk => (HR.out.st.sf hk).1)
  obtain ⟨cb, t0_, t1_, t2_, t3_, t4_, t5_, t6_, t7_, t8_, t9_, t10_, t11_, t12_, t13_, t14_, cr, fz, -⟩ := HCA.out w6 S6.out
  clear HCA HK HR HF HZ S5 S6 H5 HRn B56 HBw
  go_wp2_with fail
  try simp only [Exit.inBlock, Exit.then]
  refine bodyPost_ret (v := .tuple #[.agg #[.slice a (M.map lsR).length c], .bool true]) ?_ rfl (HE.out _)
  rw [results_c2 rfl]; go_simp
  first | done | exact ⟨rfl, rfl⟩
set_option maxRecDepth 100000 in
set_option maxHeartbeats 8000000 in
theorem do_2 {w0 w : World} {s m : Nat} {E : List (ByteArray × Nat)} {X : Nat → Kp} {v : Value} {M : List KR} (h : RS w0 w s m E X v M) (x : Ac) (ho : OkAc w0 x) (hn : x.n.size ≤ 200) (hl : x.l.length ≤ 20) (_ : oneB x.z.t = true) (hT : ∀ W, Below w0.heap.size w0 W → UT W ∧ ML W) (hkd : x.kd = 2) :
    Calls Tryz.prog 7 #[stP s, .agg #[v], acV x] w fun e w' => DoQ w0 w s m E e w' := by
  obtain ⟨a0, c0, rfl⟩ := h.ks.get.1.form
  obtain ⟨w1, hw1⟩ : ∃ w1, w1 = w.alloc (.cells #[.slice a0 M.length c0] 27) := ⟨_, rfl⟩
  have B1 : Hid (Below w.heap.size w w1) := by show Below _ _ _; rw [hw1]; exact al_b _ _
  have hn1 : w1.heap[w.heap.size]? = some (.cells #[.slice a0 M.length c0] 27 (0, 0)) := by rw [hw1]; exact new_at _ _
  have C1 : Hid (∀ W, Below w1.heap.size w1 W → W.heap[w.heap.size]? = some (.cells #[.slice a0 M.length c0] 27 (0, 0))) := fun W h => (h.block _ (Array.getElem?_eq_some_iff.1 hn1).1).trans hn1
  clear hn1
  obtain ⟨w2, hw2⟩ : ∃ w2, w2 = w1.alloc (.cells (acA x) 38) := ⟨_, rfl⟩
  have B2 : Hid (Below w1.heap.size w1 w2) := by show Below _ _ _; rw [hw2]; exact al_b _ _
  have hn2 : w2.heap[(w.heap.size + 1)]? = some (.cells (acA x) 38 (0, 0)) := by rw [hw2]; rw [show w.heap.size + 1 = w1.heap.size by (rw [hw1]; simp)]; exact new_at _ _
  have C2 : Hid (∀ W, Below w2.heap.size w2 W → W.heap[(w.heap.size + 1)]? = some (.cells (acA x) 38 (0, 0))) := fun W h => (h.block _ (Array.getElem?_eq_some_iff.1 hn2).1).trans hn2
  clear hn2
  obtain ⟨w3, hw3⟩ : ∃ w3, w3 = w2.alloc (.cells #[.slice none 0 0] 27) := ⟨_, rfl⟩
  have B3 : Hid (Below w2.heap.size w2 w3) := by show Below _ _ _; rw [hw3]; exact al_b _ _
  have hn3 : w3.heap[(w.heap.size + 2)]? = some (.cells #[.slice none 0 0] 27 (0, 0)) := by rw [hw3]; rw [show w.heap.size + 2 = w2.heap.size by (rw [hw2, hw1]; simp)]; exact new_at _ _
  have C3 : Hid (∀ W, Below w3.heap.size w3 W → W.heap[(w.heap.size + 2)]? = some (.cells #[.slice none 0 0] 27 (0, 0))) := fun W h => (h.block _ (Array.getElem?_eq_some_iff.1 hn3).1).trans hn3
  clear hn3
  have hz3 : w3.heap.size = w.heap.size + 3 := by rw [hw3, hw2, hw1]; simp
  have hSF : ∀ k, SF m E k → w0.heap.size ≤ k ∧ k < w.heap.size := fun k hk => h.st.sf hk
  have hsz0 := h.bel.size
  have HBw : Hid (Below w.heap.size w w3) := B1.out.trans ((B2.out.trans (B3.out.mono B2.out.size)).mono B1.out.size)
  have HZ : Hid (w3.heap.size = w.heap.size + 3 ∧ w0.heap.size ≤ w.heap.size) := ⟨hz3, hsz0⟩
  have HF : Hid ((∀ k, (SF m E k ∨ k = w.heap.size + 2) → k < w3.heap.size) ∧ ∀ k, (SF m E k ∨ k = w.heap.size + 2) → w0.heap.size ≤ k) := ⟨fun k hk => by
    rcases hk with hk | rfl
    · have := (hSF k hk).2; omega
    · omega, fun k hk => by
    rcases hk with hk | rfl
    · exact (hSF k hk).1
    · omega⟩
  have HK : Hid (Pst (fun k => SF m E k ∨ k = w.heap.size + 2) w3 fun W => IsKs W (.slice a0 M.length c0) M) := h.ks.more HBw.out fun k hk => by
    rcases hk with hk | rfl
    · exact .inl hk
    · exact .inr (by omega)
  have HR : Hid (RS w0 w3 s m E X (.slice a0 M.length c0) M) := h.below HBw.out
  have HCA : Hid (Pst (SF m E) w3 fun W => W.cell? ⟨w.heap.size, 0, none⟩ = some (.slice a0 M.length c0) ∧ W.cell? ⟨w.heap.size + 1, 0, none⟩ = some (.int .i64 2) ∧ W.cell? ⟨w.heap.size + 1, 1, none⟩ = some (.string x.z.t.n) ∧ W.cell? ⟨w.heap.size + 1, 2, none⟩ = some (.string x.z.t.p) ∧ W.cell? ⟨w.heap.size + 1, 3, none⟩ = some (x.z.vo) ∧ W.cell? ⟨w.heap.size + 1, 4, none⟩ = some (x.z.va) ∧ W.cell? ⟨w.heap.size + 1, 5, none⟩ = some (x.z.vc) ∧ W.cell? ⟨w.heap.size + 1, 6, none⟩ = some (.int .i64 x.z.t.nd) ∧ W.cell? ⟨w.heap.size + 1, 7, none⟩ = some (.int .i64 x.z.t.lf) ∧ W.cell? ⟨w.heap.size + 1, 8, none⟩ = some (.int .i64 x.z.t.sq) ∧ W.cell? ⟨w.heap.size + 1, 9, none⟩ = some (.string x.n) ∧ W.cell? ⟨w.heap.size + 1, 10, none⟩ = some (.slice x.lp x.l.length x.lc) ∧ W.cell? ⟨w.heap.size + 1, 11, none⟩ = some (.int .i64 x.a) ∧ W.cell? ⟨w.heap.size + 1, 12, none⟩ = some (.int .i64 x.b) ∧ W.cell? ⟨w.heap.size + 1, 13, none⟩ = some (.int .i64 x.c) ∧ W.cell? ⟨w.heap.size + 1, 14, none⟩ = some (.int .i64 x.i) ∧ W.cell? ⟨w.heap.size + 2, 0, none⟩ = some (.slice none 0 0) ∧ (∀ j, W.frozen? ⟨w.heap.size + 2, j, none⟩ = false) ∧ W.heap[w.heap.size + 2]? = some (.cells #[.slice none 0 0] 27 (0, 0))) := fun W hW => by
    have h1 := pst_blk (F := SF m E) (C1.out w3 (B2.out.trans (B3.out.mono B2.out.size))) (fun e => by have := (hSF _ e).2; omega) W hW
    have h2 := pst_blk (F := SF m E) (C2.out w3 B3.out) (fun e => by have := (hSF _ e).2; omega) W hW
    have h3 := pst_blk (F := SF m E) (C3.out w3 (Below.refl _ _)) (fun e => by have := (hSF _ e).2; omega) W hW
    have c : ∀ j, W.cell? ⟨w.heap.size + 1, j, none⟩ = (acA x)[j]? := fun j => by rw [Lib.cell_of_heap h2]
    exact ⟨by rw [Lib.cell_of_heap h1]; rfl, (by rw [← hkd]; exact c 0), c 1, c 2, c 3, c 4, c 5, c 6, c 7, c 8, c 9, c 10, c 11, c 12, c 13, c 14, by rw [Lib.cell_of_heap h3]; rfl, fun j => Lib.frozen_of_heap h3 j, h3⟩
  have Hkd : Hid (x.kd = x.kd) := rfl
  clear hSF hsz0 hz3 C1 C2 C3 B1 B2 B3 Hkd
  go_enter Tryz.func7, Tryz.ntmps7
  go_upto_region 1 with fail
  rw [← hw1, ← hw2, ← hw3]
  clear hw1 hw2 hw3
  generalize hwq : w3 = wq at *
  clear hwq
  obtain ⟨cb, t0_, t1_, t2_, t3_, t4_, t5_, t6_, t7_, t8_, t9_, t10_, t11_, t12_, t13_, t14_, cr, fz, -⟩ := HCA.out wq (Stp.rfl' _ _)
  obtain ⟨Q, D, z, hp⟩ := begin_pair HR.out x.n (by omega) x.lp x.lc x.l ho.2.1 (by omega) hT
  have HP1 : Hid (Calls Tryz.prog 21 #[.agg #[.slice a0 M.length c0], .string x.n, .slice x.lp x.l.length x.lc] wq fun e w' => ∃ a c M', e = .returned (.agg #[.slice a (List.length M') c, .bool D, .int .i64 z]) ∧ Q M' ∧ Pst (fun k => SF m E k ∨ k = w.heap.size + 2) w' (fun W => IsKs W (.slice a M'.length c) M') ∧ Below wq.heap.size wq w') := hp.1 _ wq HF.out.1 HF.out.2 HK.out (Below.refl _ _)
  have HP2 : Hid (∀ W, Below wq.heap.size wq W → Calls Tryz.prog 13 #[stP s, .string x.n, .slice x.lp x.l.length x.lc] W fun e w' => e = .returned (.tuple #[.bool D, .int .i64 z]) ∧ StQ w0 s m E Q W w') := hp.2
  clear hn hl hT ho h hkd hp
  go_wp2_with fail
  clear cb t0_ t1_ t2_ t3_ t4_ t5_ t6_ t7_ t8_ t9_ t10_ t11_ t12_ t13_ t14_ cr fz
  refine HP1.out.mono ?_
  rintro e w5 ⟨a, c, M1, rfl, hQ, hK1, hb⟩
  have B5 : Hid (Below wq.heap.size wq w5) := hb
  have HQ1 : Hid (Q M1) := hQ
  have HK1 : Hid (Pst (fun k => SF m E k ∨ k = w.heap.size + 2) w5 (fun W => IsKs W (.slice a M1.length c) M1)) := hK1
  clear hb hQ hK1 HP1
  obtain ⟨w6, hw6⟩ : ∃ w6, w6 = w5.alloc (.cells #[.slice a (List.length M1) c, .bool D, .int .i64 z] 73) := ⟨_, rfl⟩
  have hb6 : Below w5.heap.size w5 w6 := by rw [hw6]; exact al_b _ _
  have hn6 : w6.heap[w5.heap.size]? = some (.cells #[.slice a (List.length M1) c, .bool D, .int .i64 z] 73 (0, 0)) := by rw [hw6]; exact new_at _ _
  have B56 : Hid (Below w5.heap.size w5 w6) := hb6
  have B6 : Hid (Below wq.heap.size wq w6) := B5.out.trans (hb6.mono B5.out.size)
  have HD6 : Hid (Pst (SF m E) w6 fun W => W.cell? ⟨w5.heap.size, 0, none⟩ = some (.slice a (List.length M1) c) ∧ W.cell? ⟨w5.heap.size, 1, none⟩ = some (.bool D) ∧ W.cell? ⟨w5.heap.size, 2, none⟩ = some (.int .i64 z)) := fun W hW => by
    have h1 := pst_blk (F := SF m E) hn6 (fun e => by have := HF.out.1 _ (.inl e); have := B5.out.size; omega) W hW
    exact ⟨by rw [Lib.cell_of_heap h1]; rfl, by rw [Lib.cell_of_heap h1]; rfl, by rw [Lib.cell_of_heap h1]; rfl⟩
  clear hb6 hn6
  obtain ⟨cb, t0_, t1_, t2_, t3_, t4_, t5_, t6_, t7_, t8_, t9_, t10_, t11_, t12_, t13_, t14_, cr, fz, -⟩ := HCA.out w6 (Stp.of _ B6.out)
  rw [hw6] at cb t0_ t1_ t2_ t3_ t4_ t5_ t6_ t7_ t8_ t9_ t10_ t11_ t12_ t13_ t14_ cr fz
  go_wp2_with fail
  rw [← hw6]
  clear hw6 cb t0_ t1_ t2_ t3_ t4_ t5_ t6_ t7_ t8_ t9_ t10_ t11_ t12_ t13_ t14_ cr fz
  refine (HP2.out _ B6.out).mono ?_
  rintro e w7 ⟨rfl, E', X', s1, s2, s3, s4⟩
  have S7 : Hid (Stp wq (SF m E) (SF m E) w7) := ((Stp.of (SF m E) B6.out).trans s2).same
  have HEN : Hid (∀ W, Below w7.heap.size w7 W → ∀ u, DoQ w0 w s m E (.returned (.tuple #[.agg #[.slice a M1.length c], .bool true])) (W.setCell ⟨w.heap.size + 2, 0, none⟩ u)) := fun W hW u => by
    obtain ⟨h1, h2⟩ := HZ.out
    have hsw : Stp w (SF m E) (SF m E') W := (((Stp.of (SF m E) HBw.out).trans (Stp.of (SF m E) B6.out)).trans s2).trans (Stp.of _ hW)
    have hq6 := (HCA.out W (S7.out.trans (Stp.of _ hW))).2.2.2.2.2.2.2.2.2.2.2.2.2.2.2.2.2.2
    refine do_end (s1.below hW) ?_ hq6 ?_ (s4 _ HQ1.out) s3 (by omega) hsw (by omega) u
    · exact ((HK1.out.below B56.out).move (stp_plus s2 _)).below hW
    · exact HR.out.bel.trans ((((Stp.of (SF m E) B6.out).trans s2).trans (Stp.of _ hW)).below HR.out.bel.size fun k hk => (HR.out.st.sf hk).1)
  have HS7 : Hid (∀ W, Below w7.heap.size w7 W → (W.cell? ⟨w5.heap.size, 0, none⟩ = some (.slice a (List.length M1) c) ∧ W.cell? ⟨w5.heap.size, 1, none⟩ = some (.bool D) ∧ W.cell? ⟨w5.heap.size, 2, none⟩ = some (.int .i64 z))) := fun W hW => HD6.out W (s2.trans (Stp.of _ hW)).same
  have HQ7 : Hid (∀ W, Below w7.heap.size w7 W → W.heap[w.heap.size + 2]? = some (.cells #[.slice none 0 0] 27 (0, 0))) := fun W hW => (HCA.out W (S7.out.trans (Stp.of _ hW))).2.2.2.2.2.2.2.2.2.2.2.2.2.2.2.2.2.2
  have HDk : Hid (Below w7.heap.size w7 w7.drew) := (Below.refl _ _).drew
  have HNe : Hid (w5.heap.size ≠ w.heap.size + 2) := by
    have := HZ.out.1
    have := B5.out.size
    show _ ≠ _
    omega
  clear s1 s2 s3 s4 HCA HK HR HF HZ HBw B5 B6 B56 HQ1 HK1 HD6 S7 HP2
  have dD : (D == D) = true := by simp
  go_wp2_with fail
  refine wp_region_held_drew (S := fun W => W.cell? ⟨w5.heap.size, 0, none⟩ = some (.slice a (List.length M1) c) ∧ W.cell? ⟨w5.heap.size, 1, none⟩ = some (.bool D) ∧ W.cell? ⟨w5.heap.size, 2, none⟩ = some (.int .i64 z)) (by kernel_rfl) (HS7.out _ HDk.out) (fun hHeld => ?_)
  generalize w7.drew = wd at *
  refine wpAnyH_take (i := 0) (v := ?_) rfl (by kernel_rfl) (by kernel_rfl) (by kernel_rfl) (fun _ _ _ h => h) (Or.inl ⟨by rfl, ?_⟩) hHeld ?_
  rotate_left 1
  · intro w9 hSw; obtain ⟨g0, g1, g2⟩ := hSw; go_simp; try with_reducible rfl
  change wpAnyH _ _ _ _ _ _ _ (Act.put _ (some 82) _) _
  simp only [Act.put, List.setIfInBounds_toArray, List.set_cons_zero, List.set_cons_succ]
  refine wpAnyH_take (i := 1) (v := ?_) rfl (by kernel_rfl) (by kernel_rfl) (by kernel_rfl) (fun _ _ _ h => h) (Or.inl ⟨by rfl, ?_⟩) hHeld ?_
  rotate_left 1
  · intro w9 hSw; obtain ⟨g0, g1, g2⟩ := hSw; go_simp; try with_reducible rfl
  change wpAnyH _ _ _ _ _ _ _ (Act.put _ (some 83) _) _
  simp only [Act.put, List.setIfInBounds_toArray, List.set_cons_zero, List.set_cons_succ]
  refine wpAnyH_take (i := 2) (v := ?_) rfl (by kernel_rfl) (by kernel_rfl) (by kernel_rfl) (fun _ _ _ h => h) (Or.inl ⟨by rfl, ?_⟩) hHeld ?_
  rotate_left 1
  · intro w9 hSw; obtain ⟨g0, g1, g2⟩ := hSw; go_simp; try with_reducible rfl
  change wpAnyH _ _ _ _ _ _ _ (Act.put _ (some 84) _) _
  simp only [Act.put, List.setIfInBounds_toArray, List.set_cons_zero, List.set_cons_succ]
  refine wpAnyH_take (i := 3) (v := ?_) rfl (by kernel_rfl) (by kernel_rfl) (by kernel_rfl) (fun _ _ _ h => h) (Or.inl ⟨by rfl, ?_⟩) hHeld ?_
  rotate_left 1
  · intro w9 hSw; obtain ⟨g0, g1, g2⟩ := hSw; go_simp; try with_reducible rfl
  change wpAnyH _ _ _ _ _ _ _ (Act.put _ (some 85) _) _
  simp only [Act.put, List.setIfInBounds_toArray, List.set_cons_zero, List.set_cons_succ]
  refine wpAnyH_take (i := 4) (v := ?_) rfl (by kernel_rfl) (by kernel_rfl) (by kernel_rfl) (fun _ _ _ h => h) (Or.inl ⟨by rfl, ?_⟩) hHeld ?_
  rotate_left 1
  · intro w9 hSw; obtain ⟨g0, g1, g2⟩ := hSw; go_simp; try with_reducible rfl
  change wpAnyH _ _ _ _ _ _ _ (Act.put _ (some 86) _) _
  simp only [Act.put, List.setIfInBounds_toArray, List.set_cons_zero, List.set_cons_succ]
  refine wpAnyH_take (i := 5) (v := ?_) rfl (by kernel_rfl) (by kernel_rfl) (by kernel_rfl) (fun _ _ _ h => h) (Or.inl ⟨by rfl, ?_⟩) hHeld ?_
  rotate_left 1
  · intro w9 hSw; obtain ⟨g0, g1, g2⟩ := hSw; go_simp; try with_reducible rfl
  change wpAnyH _ _ _ _ _ _ _ (Act.put _ (some 87) _) _
  simp only [Act.put, List.setIfInBounds_toArray, List.set_cons_zero, List.set_cons_succ]
  refine wpAnyH_take (i := 6) (v := ?_) rfl (by kernel_rfl) (by kernel_rfl) (by kernel_rfl) (fun _ _ _ h => h) (Or.inl ⟨by rfl, ?_⟩) hHeld ?_
  rotate_left 1
  · intro w9 hSw; obtain ⟨g0, g1, g2⟩ := hSw; go_simp; try with_reducible rfl
  change wpAnyH _ _ _ _ _ _ _ (Act.put _ (some 88) _) _
  simp only [Act.put, List.setIfInBounds_toArray, List.set_cons_zero, List.set_cons_succ]
  refine wpAnyH_take (i := 7) (v := ?_) rfl (by kernel_rfl) (by kernel_rfl) (by kernel_rfl) (fun _ _ _ h => h) (Or.inl ⟨by rfl, ?_⟩) hHeld ?_
  rotate_left 1
  · intro w9 hSw; obtain ⟨g0, g1, g2⟩ := hSw; go_simp; try with_reducible rfl
  change wpAnyH _ _ _ _ _ _ _ (Act.put _ (some 89) _) _
  simp only [Act.put, List.setIfInBounds_toArray, List.set_cons_zero, List.set_cons_succ]
  refine wpAnyH_take (i := 8) (v := ?_) rfl (by kernel_rfl) (by kernel_rfl) (by kernel_rfl) (fun _ _ _ h => h) (Or.inl ⟨by rfl, ?_⟩) hHeld ?_
  rotate_left 1
  · intro w9 hSw; obtain ⟨g0, g1, g2⟩ := hSw; go_simp; try with_reducible rfl
  change wpAnyH _ _ _ _ _ _ _ (Act.put _ (some 90) _) _
  simp only [Act.put, List.setIfInBounds_toArray, List.set_cons_zero, List.set_cons_succ]
  refine wpAnyH_take (i := 9) (v := ?_) rfl (by kernel_rfl) (by kernel_rfl) (by kernel_rfl) (fun _ _ _ h => h) (Or.inl ⟨by rfl, ?_⟩) hHeld ?_
  rotate_left 1
  · intro w9 hSw; obtain ⟨g0, g1, g2⟩ := hSw; go_simp; try with_reducible rfl
  change wpAnyH _ _ _ _ _ _ _ (Act.put _ (some 91) _) _
  simp only [Act.put, List.setIfInBounds_toArray, List.set_cons_zero, List.set_cons_succ]
  refine wpAnyH_take (i := 10) (v := ?_) rfl (by kernel_rfl) (by kernel_rfl) (by kernel_rfl) (fun _ _ _ h => h) (Or.inl ⟨by rfl, ?_⟩) hHeld ?_
  rotate_left 1
  · intro w9 hSw; obtain ⟨g0, g1, g2⟩ := hSw; go_simp; try with_reducible rfl
  change wpAnyH _ _ _ _ _ _ _ (Act.put _ (some 92) _) _
  simp only [Act.put, List.setIfInBounds_toArray, List.set_cons_zero, List.set_cons_succ]
  refine wpAnyH_take (i := 11) (v := ?_) rfl (by kernel_rfl) (by kernel_rfl) (by kernel_rfl) (fun _ _ _ h => h) (Or.inl ⟨by rfl, ?_⟩) hHeld ?_
  rotate_left 1
  · intro w9 hSw; obtain ⟨g0, g1, g2⟩ := hSw; go_simp; try with_reducible rfl
  change wpAnyH _ _ _ _ _ _ _ (Act.put _ (some 93) _) _
  simp only [Act.put, List.setIfInBounds_toArray, List.set_cons_zero, List.set_cons_succ]
  have hq := HQ7.out wd HDk.out
  have cr : wd.cell? ⟨w.heap.size + 2, 0, none⟩ = some (.slice none 0 0) := by rw [Lib.cell_of_heap hq]; rfl
  have fz : ∀ j, wd.frozen? ⟨w.heap.size + 2, j, none⟩ = false := fun j => Lib.frozen_of_heap hq j
  have HSt : Hid (∀ u, ((wd.setCell ⟨w.heap.size + 2, 0, none⟩ u).cell? ⟨w5.heap.size, 0, none⟩ = some (.slice a (List.length M1) c) ∧ (wd.setCell ⟨w.heap.size + 2, 0, none⟩ u).cell? ⟨w5.heap.size, 1, none⟩ = some (.bool D) ∧ (wd.setCell ⟨w.heap.size + 2, 0, none⟩ u).cell? ⟨w5.heap.size, 2, none⟩ = some (.int .i64 z))) := fun u => by
    obtain ⟨a1, a2, a3⟩ := HS7.out wd HDk.out
    have o : ∀ j, (wd.setCell ⟨w.heap.size + 2, 0, none⟩ u).cell? ⟨w5.heap.size, j, none⟩ = wd.cell? ⟨w5.heap.size, j, none⟩ := fun j => World.cell?_setCell_other _ _ _ _ (by simp only [ne_eq, Addr.mk.injEq, not_and]; intro e; exact absurd e.symm HNe.out)
    exact ⟨(o 0).trans a1, (o 1).trans a2, (o 2).trans a3⟩
  clear hq
  refine wpAnyH_ready (rs := [12]) (by kernel_rfl) (by simp) ?_
  refine AllReadyH.cons rfl (fun K hK => ?_) AllReadyH.nil
  go_simp
  refine hK.out _ _ (HSt.out _) (fun hHeld => ?_)
  clear hK K
  refine wpAnyH_ready (rs := [13]) (by kernel_rfl) (by simp) ?_
  refine AllReadyH.cons rfl (fun K hK => ?_) AllReadyH.nil
  go_simp
  refine hK.out _ _ (hHeld) (fun hHeld => ?_)
  clear hK K
  refine wpAnyH_done (by kernel_rfl) ?_ _
  have HE : Hid (∀ u, DoQ w0 w s m E (.returned (.tuple #[.agg #[.slice a M1.length c], .bool true])) (wd.setCell ⟨w.heap.size + 2, 0, none⟩ u)) := HEN.out wd HDk.out
  clear hHeld HS7 HQ7 HDk HNe HSt HEN
  go_wp2_with fail
  try simp only [Exit.inBlock, Exit.then]
  refine bodyPost_ret (v := .tuple #[.agg #[.slice a (List.length M1) c], .bool true]) ?_ rfl (HE.out _)
  rw [results_c2 rfl]; go_simp
  first | done | exact ⟨rfl, rfl⟩
set_option maxRecDepth 100000 in
set_option maxHeartbeats 8000000 in
theorem do_3 {w0 w : World} {s m : Nat} {E : List (ByteArray × Nat)} {X : Nat → Kp} {v : Value} {M : List KR} (h : RS w0 w s m E X v M) (x : Ac) (_ : OkAc w0 x) (hn : x.n.size ≤ 200) (_ : x.l.length ≤ 20) (_ : oneB x.z.t = true) (hT : ∀ W, Below w0.heap.size w0 W → UT W ∧ ML W) (hkd : x.kd = 3) :
    Calls Tryz.prog 7 #[stP s, .agg #[v], acV x] w fun e w' => DoQ w0 w s m E e w' := by
  obtain ⟨a0, c0, rfl⟩ := h.ks.get.1.form
  obtain ⟨w1, hw1⟩ : ∃ w1, w1 = w.alloc (.cells #[.slice a0 M.length c0] 27) := ⟨_, rfl⟩
  have B1 : Hid (Below w.heap.size w w1) := by show Below _ _ _; rw [hw1]; exact al_b _ _
  have hn1 : w1.heap[w.heap.size]? = some (.cells #[.slice a0 M.length c0] 27 (0, 0)) := by rw [hw1]; exact new_at _ _
  have C1 : Hid (∀ W, Below w1.heap.size w1 W → W.heap[w.heap.size]? = some (.cells #[.slice a0 M.length c0] 27 (0, 0))) := fun W h => (h.block _ (Array.getElem?_eq_some_iff.1 hn1).1).trans hn1
  clear hn1
  obtain ⟨w2, hw2⟩ : ∃ w2, w2 = w1.alloc (.cells (acA x) 38) := ⟨_, rfl⟩
  have B2 : Hid (Below w1.heap.size w1 w2) := by show Below _ _ _; rw [hw2]; exact al_b _ _
  have hn2 : w2.heap[(w.heap.size + 1)]? = some (.cells (acA x) 38 (0, 0)) := by rw [hw2]; rw [show w.heap.size + 1 = w1.heap.size by (rw [hw1]; simp)]; exact new_at _ _
  have C2 : Hid (∀ W, Below w2.heap.size w2 W → W.heap[(w.heap.size + 1)]? = some (.cells (acA x) 38 (0, 0))) := fun W h => (h.block _ (Array.getElem?_eq_some_iff.1 hn2).1).trans hn2
  clear hn2
  obtain ⟨w3, hw3⟩ : ∃ w3, w3 = w2.alloc (.cells #[.slice none 0 0] 27) := ⟨_, rfl⟩
  have B3 : Hid (Below w2.heap.size w2 w3) := by show Below _ _ _; rw [hw3]; exact al_b _ _
  have hn3 : w3.heap[(w.heap.size + 2)]? = some (.cells #[.slice none 0 0] 27 (0, 0)) := by rw [hw3]; rw [show w.heap.size + 2 = w2.heap.size by (rw [hw2, hw1]; simp)]; exact new_at _ _
  have C3 : Hid (∀ W, Below w3.heap.size w3 W → W.heap[(w.heap.size + 2)]? = some (.cells #[.slice none 0 0] 27 (0, 0))) := fun W h => (h.block _ (Array.getElem?_eq_some_iff.1 hn3).1).trans hn3
  clear hn3
  have hz3 : w3.heap.size = w.heap.size + 3 := by rw [hw3, hw2, hw1]; simp
  have hSF : ∀ k, SF m E k → w0.heap.size ≤ k ∧ k < w.heap.size := fun k hk => h.st.sf hk
  have hsz0 := h.bel.size
  have HBw : Hid (Below w.heap.size w w3) := B1.out.trans ((B2.out.trans (B3.out.mono B2.out.size)).mono B1.out.size)
  have HZ : Hid (w3.heap.size = w.heap.size + 3 ∧ w0.heap.size ≤ w.heap.size) := ⟨hz3, hsz0⟩
  have HF : Hid ((∀ k, (SF m E k ∨ k = w.heap.size + 2) → k < w3.heap.size) ∧ ∀ k, (SF m E k ∨ k = w.heap.size + 2) → w0.heap.size ≤ k) := ⟨fun k hk => by
    rcases hk with hk | rfl
    · have := (hSF k hk).2; omega
    · omega, fun k hk => by
    rcases hk with hk | rfl
    · exact (hSF k hk).1
    · omega⟩
  have HK : Hid (Pst (fun k => SF m E k ∨ k = w.heap.size + 2) w3 fun W => IsKs W (.slice a0 M.length c0) M) := h.ks.more HBw.out fun k hk => by
    rcases hk with hk | rfl
    · exact .inl hk
    · exact .inr (by omega)
  have HR : Hid (RS w0 w3 s m E X (.slice a0 M.length c0) M) := h.below HBw.out
  have HCA : Hid (Pst (SF m E) w3 fun W => W.cell? ⟨w.heap.size, 0, none⟩ = some (.slice a0 M.length c0) ∧ W.cell? ⟨w.heap.size + 1, 0, none⟩ = some (.int .i64 3) ∧ W.cell? ⟨w.heap.size + 1, 1, none⟩ = some (.string x.z.t.n) ∧ W.cell? ⟨w.heap.size + 1, 2, none⟩ = some (.string x.z.t.p) ∧ W.cell? ⟨w.heap.size + 1, 3, none⟩ = some (x.z.vo) ∧ W.cell? ⟨w.heap.size + 1, 4, none⟩ = some (x.z.va) ∧ W.cell? ⟨w.heap.size + 1, 5, none⟩ = some (x.z.vc) ∧ W.cell? ⟨w.heap.size + 1, 6, none⟩ = some (.int .i64 x.z.t.nd) ∧ W.cell? ⟨w.heap.size + 1, 7, none⟩ = some (.int .i64 x.z.t.lf) ∧ W.cell? ⟨w.heap.size + 1, 8, none⟩ = some (.int .i64 x.z.t.sq) ∧ W.cell? ⟨w.heap.size + 1, 9, none⟩ = some (.string x.n) ∧ W.cell? ⟨w.heap.size + 1, 10, none⟩ = some (.slice x.lp x.l.length x.lc) ∧ W.cell? ⟨w.heap.size + 1, 11, none⟩ = some (.int .i64 x.a) ∧ W.cell? ⟨w.heap.size + 1, 12, none⟩ = some (.int .i64 x.b) ∧ W.cell? ⟨w.heap.size + 1, 13, none⟩ = some (.int .i64 x.c) ∧ W.cell? ⟨w.heap.size + 1, 14, none⟩ = some (.int .i64 x.i) ∧ W.cell? ⟨w.heap.size + 2, 0, none⟩ = some (.slice none 0 0) ∧ (∀ j, W.frozen? ⟨w.heap.size + 2, j, none⟩ = false) ∧ W.heap[w.heap.size + 2]? = some (.cells #[.slice none 0 0] 27 (0, 0))) := fun W hW => by
    have h1 := pst_blk (F := SF m E) (C1.out w3 (B2.out.trans (B3.out.mono B2.out.size))) (fun e => by have := (hSF _ e).2; omega) W hW
    have h2 := pst_blk (F := SF m E) (C2.out w3 B3.out) (fun e => by have := (hSF _ e).2; omega) W hW
    have h3 := pst_blk (F := SF m E) (C3.out w3 (Below.refl _ _)) (fun e => by have := (hSF _ e).2; omega) W hW
    have c : ∀ j, W.cell? ⟨w.heap.size + 1, j, none⟩ = (acA x)[j]? := fun j => by rw [Lib.cell_of_heap h2]
    exact ⟨by rw [Lib.cell_of_heap h1]; rfl, (by rw [← hkd]; exact c 0), c 1, c 2, c 3, c 4, c 5, c 6, c 7, c 8, c 9, c 10, c 11, c 12, c 13, c 14, by rw [Lib.cell_of_heap h3]; rfl, fun j => Lib.frozen_of_heap h3 j, h3⟩
  have Hkd : Hid (x.kd = x.kd) := rfl
  clear hSF hsz0 hz3 C1 C2 C3 B1 B2 B3 Hkd
  go_enter Tryz.func7, Tryz.ntmps7
  go_upto_region 1 with fail
  rw [← hw1, ← hw2, ← hw3]
  clear hw1 hw2 hw3
  generalize hwq : w3 = wq at *
  clear hwq
  obtain ⟨cb, t0_, t1_, t2_, t3_, t4_, t5_, t6_, t7_, t8_, t9_, t10_, t11_, t12_, t13_, t14_, cr, fz, -⟩ := HCA.out wq (Stp.rfl' _ _)
  obtain ⟨Q, D, z, hp⟩ := stored_pair HR.out x.n (by omega) x.a x.b x.c x.i hT
  have HP1 : Hid (Calls Tryz.prog 22 #[.agg #[.slice a0 M.length c0], .string x.n, idV x.a x.b x.c, .int .i64 x.i] wq fun e w' => ∃ a c M', e = .returned (.agg #[.slice a (List.length M') c, .bool D, .int .i64 z]) ∧ Q M' ∧ Pst (fun k => SF m E k ∨ k = w.heap.size + 2) w' (fun W => IsKs W (.slice a M'.length c) M') ∧ Below wq.heap.size wq w') := hp.1 _ wq HF.out.1 HF.out.2 HK.out (Below.refl _ _)
  have HP2 : Hid (∀ W, Below wq.heap.size wq W → Calls Tryz.prog 14 #[stP s, .string x.n, idV x.a x.b x.c, .int .i64 x.i] W fun e w' => e = .returned (.tuple #[.bool D, .int .i64 z]) ∧ StQ w0 s m E Q W w') := hp.2
  clear hn hT h hkd hp
  go_wp2_with fail
  clear cb t0_ t1_ t2_ t3_ t4_ t5_ t6_ t7_ t8_ t9_ t10_ t11_ t12_ t13_ t14_ cr fz
  refine HP1.out.mono ?_
  rintro e w5 ⟨a, c, M1, rfl, hQ, hK1, hb⟩
  have B5 : Hid (Below wq.heap.size wq w5) := hb
  have HQ1 : Hid (Q M1) := hQ
  have HK1 : Hid (Pst (fun k => SF m E k ∨ k = w.heap.size + 2) w5 (fun W => IsKs W (.slice a M1.length c) M1)) := hK1
  clear hb hQ hK1 HP1
  obtain ⟨w6, hw6⟩ : ∃ w6, w6 = w5.alloc (.cells #[.slice a (List.length M1) c, .bool D, .int .i64 z] 73) := ⟨_, rfl⟩
  have hb6 : Below w5.heap.size w5 w6 := by rw [hw6]; exact al_b _ _
  have hn6 : w6.heap[w5.heap.size]? = some (.cells #[.slice a (List.length M1) c, .bool D, .int .i64 z] 73 (0, 0)) := by rw [hw6]; exact new_at _ _
  have B56 : Hid (Below w5.heap.size w5 w6) := hb6
  have B6 : Hid (Below wq.heap.size wq w6) := B5.out.trans (hb6.mono B5.out.size)
  have HD6 : Hid (Pst (SF m E) w6 fun W => W.cell? ⟨w5.heap.size, 0, none⟩ = some (.slice a (List.length M1) c) ∧ W.cell? ⟨w5.heap.size, 1, none⟩ = some (.bool D) ∧ W.cell? ⟨w5.heap.size, 2, none⟩ = some (.int .i64 z)) := fun W hW => by
    have h1 := pst_blk (F := SF m E) hn6 (fun e => by have := HF.out.1 _ (.inl e); have := B5.out.size; omega) W hW
    exact ⟨by rw [Lib.cell_of_heap h1]; rfl, by rw [Lib.cell_of_heap h1]; rfl, by rw [Lib.cell_of_heap h1]; rfl⟩
  clear hb6 hn6
  obtain ⟨cb, t0_, t1_, t2_, t3_, t4_, t5_, t6_, t7_, t8_, t9_, t10_, t11_, t12_, t13_, t14_, cr, fz, -⟩ := HCA.out w6 (Stp.of _ B6.out)
  rw [hw6] at cb t0_ t1_ t2_ t3_ t4_ t5_ t6_ t7_ t8_ t9_ t10_ t11_ t12_ t13_ t14_ cr fz
  go_wp2_with fail
  rw [← hw6]
  clear hw6 cb t0_ t1_ t2_ t3_ t4_ t5_ t6_ t7_ t8_ t9_ t10_ t11_ t12_ t13_ t14_ cr fz
  refine (HP2.out _ B6.out).mono ?_
  rintro e w7 ⟨rfl, E', X', s1, s2, s3, s4⟩
  have S7 : Hid (Stp wq (SF m E) (SF m E) w7) := ((Stp.of (SF m E) B6.out).trans s2).same
  have HEN : Hid (∀ W, Below w7.heap.size w7 W → ∀ u, DoQ w0 w s m E (.returned (.tuple #[.agg #[.slice a M1.length c], .bool true])) (W.setCell ⟨w.heap.size + 2, 0, none⟩ u)) := fun W hW u => by
    obtain ⟨h1, h2⟩ := HZ.out
    have hsw : Stp w (SF m E) (SF m E') W := (((Stp.of (SF m E) HBw.out).trans (Stp.of (SF m E) B6.out)).trans s2).trans (Stp.of _ hW)
    have hq6 := (HCA.out W (S7.out.trans (Stp.of _ hW))).2.2.2.2.2.2.2.2.2.2.2.2.2.2.2.2.2.2
    refine do_end (s1.below hW) ?_ hq6 ?_ (s4 _ HQ1.out) s3 (by omega) hsw (by omega) u
    · exact ((HK1.out.below B56.out).move (stp_plus s2 _)).below hW
    · exact HR.out.bel.trans ((((Stp.of (SF m E) B6.out).trans s2).trans (Stp.of _ hW)).below HR.out.bel.size fun k hk => (HR.out.st.sf hk).1)
  have HS7 : Hid (∀ W, Below w7.heap.size w7 W → (W.cell? ⟨w5.heap.size, 0, none⟩ = some (.slice a (List.length M1) c) ∧ W.cell? ⟨w5.heap.size, 1, none⟩ = some (.bool D) ∧ W.cell? ⟨w5.heap.size, 2, none⟩ = some (.int .i64 z))) := fun W hW => HD6.out W (s2.trans (Stp.of _ hW)).same
  have HQ7 : Hid (∀ W, Below w7.heap.size w7 W → W.heap[w.heap.size + 2]? = some (.cells #[.slice none 0 0] 27 (0, 0))) := fun W hW => (HCA.out W (S7.out.trans (Stp.of _ hW))).2.2.2.2.2.2.2.2.2.2.2.2.2.2.2.2.2.2
  have HDk : Hid (Below w7.heap.size w7 w7.drew) := (Below.refl _ _).drew
  have HNe : Hid (w5.heap.size ≠ w.heap.size + 2) := by
    have := HZ.out.1
    have := B5.out.size
    show _ ≠ _
    omega
  clear s1 s2 s3 s4 HCA HK HR HF HZ HBw B5 B6 B56 HQ1 HK1 HD6 S7 HP2
  have dD : (D == D) = true := by simp
  go_wp2_with fail
  refine wp_region_held_drew (S := fun W => W.cell? ⟨w5.heap.size, 0, none⟩ = some (.slice a (List.length M1) c) ∧ W.cell? ⟨w5.heap.size, 1, none⟩ = some (.bool D) ∧ W.cell? ⟨w5.heap.size, 2, none⟩ = some (.int .i64 z)) (by kernel_rfl) (HS7.out _ HDk.out) (fun hHeld => ?_)
  generalize w7.drew = wd at *
  refine wpAnyH_take (i := 0) (v := ?_) rfl (by kernel_rfl) (by kernel_rfl) (by kernel_rfl) (fun _ _ _ h => h) (Or.inl ⟨by rfl, ?_⟩) hHeld ?_
  rotate_left 1
  · intro w9 hSw; obtain ⟨g0, g1, g2⟩ := hSw; go_simp; try with_reducible rfl
  change wpAnyH _ _ _ _ _ _ _ (Act.put _ (some 115) _) _
  simp only [Act.put, List.setIfInBounds_toArray, List.set_cons_zero, List.set_cons_succ]
  refine wpAnyH_take (i := 1) (v := ?_) rfl (by kernel_rfl) (by kernel_rfl) (by kernel_rfl) (fun _ _ _ h => h) (Or.inl ⟨by rfl, ?_⟩) hHeld ?_
  rotate_left 1
  · intro w9 hSw; obtain ⟨g0, g1, g2⟩ := hSw; go_simp; try with_reducible rfl
  change wpAnyH _ _ _ _ _ _ _ (Act.put _ (some 116) _) _
  simp only [Act.put, List.setIfInBounds_toArray, List.set_cons_zero, List.set_cons_succ]
  refine wpAnyH_take (i := 2) (v := ?_) rfl (by kernel_rfl) (by kernel_rfl) (by kernel_rfl) (fun _ _ _ h => h) (Or.inl ⟨by rfl, ?_⟩) hHeld ?_
  rotate_left 1
  · intro w9 hSw; obtain ⟨g0, g1, g2⟩ := hSw; go_simp; try with_reducible rfl
  change wpAnyH _ _ _ _ _ _ _ (Act.put _ (some 117) _) _
  simp only [Act.put, List.setIfInBounds_toArray, List.set_cons_zero, List.set_cons_succ]
  refine wpAnyH_take (i := 3) (v := ?_) rfl (by kernel_rfl) (by kernel_rfl) (by kernel_rfl) (fun _ _ _ h => h) (Or.inl ⟨by rfl, ?_⟩) hHeld ?_
  rotate_left 1
  · intro w9 hSw; obtain ⟨g0, g1, g2⟩ := hSw; go_simp; try with_reducible rfl
  change wpAnyH _ _ _ _ _ _ _ (Act.put _ (some 118) _) _
  simp only [Act.put, List.setIfInBounds_toArray, List.set_cons_zero, List.set_cons_succ]
  refine wpAnyH_take (i := 4) (v := ?_) rfl (by kernel_rfl) (by kernel_rfl) (by kernel_rfl) (fun _ _ _ h => h) (Or.inl ⟨by rfl, ?_⟩) hHeld ?_
  rotate_left 1
  · intro w9 hSw; obtain ⟨g0, g1, g2⟩ := hSw; go_simp; try with_reducible rfl
  change wpAnyH _ _ _ _ _ _ _ (Act.put _ (some 119) _) _
  simp only [Act.put, List.setIfInBounds_toArray, List.set_cons_zero, List.set_cons_succ]
  refine wpAnyH_take (i := 5) (v := ?_) rfl (by kernel_rfl) (by kernel_rfl) (by kernel_rfl) (fun _ _ _ h => h) (Or.inl ⟨by rfl, ?_⟩) hHeld ?_
  rotate_left 1
  · intro w9 hSw; obtain ⟨g0, g1, g2⟩ := hSw; go_simp; try with_reducible rfl
  change wpAnyH _ _ _ _ _ _ _ (Act.put _ (some 120) _) _
  simp only [Act.put, List.setIfInBounds_toArray, List.set_cons_zero, List.set_cons_succ]
  refine wpAnyH_take (i := 6) (v := ?_) rfl (by kernel_rfl) (by kernel_rfl) (by kernel_rfl) (fun _ _ _ h => h) (Or.inl ⟨by rfl, ?_⟩) hHeld ?_
  rotate_left 1
  · intro w9 hSw; obtain ⟨g0, g1, g2⟩ := hSw; go_simp; try with_reducible rfl
  change wpAnyH _ _ _ _ _ _ _ (Act.put _ (some 121) _) _
  simp only [Act.put, List.setIfInBounds_toArray, List.set_cons_zero, List.set_cons_succ]
  refine wpAnyH_take (i := 7) (v := ?_) rfl (by kernel_rfl) (by kernel_rfl) (by kernel_rfl) (fun _ _ _ h => h) (Or.inl ⟨by rfl, ?_⟩) hHeld ?_
  rotate_left 1
  · intro w9 hSw; obtain ⟨g0, g1, g2⟩ := hSw; go_simp; try with_reducible rfl
  change wpAnyH _ _ _ _ _ _ _ (Act.put _ (some 122) _) _
  simp only [Act.put, List.setIfInBounds_toArray, List.set_cons_zero, List.set_cons_succ]
  refine wpAnyH_take (i := 8) (v := ?_) rfl (by kernel_rfl) (by kernel_rfl) (by kernel_rfl) (fun _ _ _ h => h) (Or.inl ⟨by rfl, ?_⟩) hHeld ?_
  rotate_left 1
  · intro w9 hSw; obtain ⟨g0, g1, g2⟩ := hSw; go_simp; try with_reducible rfl
  change wpAnyH _ _ _ _ _ _ _ (Act.put _ (some 123) _) _
  simp only [Act.put, List.setIfInBounds_toArray, List.set_cons_zero, List.set_cons_succ]
  refine wpAnyH_take (i := 9) (v := ?_) rfl (by kernel_rfl) (by kernel_rfl) (by kernel_rfl) (fun _ _ _ h => h) (Or.inl ⟨by rfl, ?_⟩) hHeld ?_
  rotate_left 1
  · intro w9 hSw; obtain ⟨g0, g1, g2⟩ := hSw; go_simp; try with_reducible rfl
  change wpAnyH _ _ _ _ _ _ _ (Act.put _ (some 124) _) _
  simp only [Act.put, List.setIfInBounds_toArray, List.set_cons_zero, List.set_cons_succ]
  refine wpAnyH_take (i := 10) (v := ?_) rfl (by kernel_rfl) (by kernel_rfl) (by kernel_rfl) (fun _ _ _ h => h) (Or.inl ⟨by rfl, ?_⟩) hHeld ?_
  rotate_left 1
  · intro w9 hSw; obtain ⟨g0, g1, g2⟩ := hSw; go_simp; try with_reducible rfl
  change wpAnyH _ _ _ _ _ _ _ (Act.put _ (some 125) _) _
  simp only [Act.put, List.setIfInBounds_toArray, List.set_cons_zero, List.set_cons_succ]
  refine wpAnyH_take (i := 11) (v := ?_) rfl (by kernel_rfl) (by kernel_rfl) (by kernel_rfl) (fun _ _ _ h => h) (Or.inl ⟨by rfl, ?_⟩) hHeld ?_
  rotate_left 1
  · intro w9 hSw; obtain ⟨g0, g1, g2⟩ := hSw; go_simp; try with_reducible rfl
  change wpAnyH _ _ _ _ _ _ _ (Act.put _ (some 126) _) _
  simp only [Act.put, List.setIfInBounds_toArray, List.set_cons_zero, List.set_cons_succ]
  have hq := HQ7.out wd HDk.out
  have cr : wd.cell? ⟨w.heap.size + 2, 0, none⟩ = some (.slice none 0 0) := by rw [Lib.cell_of_heap hq]; rfl
  have fz : ∀ j, wd.frozen? ⟨w.heap.size + 2, j, none⟩ = false := fun j => Lib.frozen_of_heap hq j
  have HSt : Hid (∀ u, ((wd.setCell ⟨w.heap.size + 2, 0, none⟩ u).cell? ⟨w5.heap.size, 0, none⟩ = some (.slice a (List.length M1) c) ∧ (wd.setCell ⟨w.heap.size + 2, 0, none⟩ u).cell? ⟨w5.heap.size, 1, none⟩ = some (.bool D) ∧ (wd.setCell ⟨w.heap.size + 2, 0, none⟩ u).cell? ⟨w5.heap.size, 2, none⟩ = some (.int .i64 z))) := fun u => by
    obtain ⟨a1, a2, a3⟩ := HS7.out wd HDk.out
    have o : ∀ j, (wd.setCell ⟨w.heap.size + 2, 0, none⟩ u).cell? ⟨w5.heap.size, j, none⟩ = wd.cell? ⟨w5.heap.size, j, none⟩ := fun j => World.cell?_setCell_other _ _ _ _ (by simp only [ne_eq, Addr.mk.injEq, not_and]; intro e; exact absurd e.symm HNe.out)
    exact ⟨(o 0).trans a1, (o 1).trans a2, (o 2).trans a3⟩
  clear hq
  refine wpAnyH_ready (rs := [12]) (by kernel_rfl) (by simp) ?_
  refine AllReadyH.cons rfl (fun K hK => ?_) AllReadyH.nil
  go_simp
  refine hK.out _ _ (HSt.out _) (fun hHeld => ?_)
  clear hK K
  refine wpAnyH_ready (rs := [13]) (by kernel_rfl) (by simp) ?_
  refine AllReadyH.cons rfl (fun K hK => ?_) AllReadyH.nil
  go_simp
  refine hK.out _ _ (hHeld) (fun hHeld => ?_)
  clear hK K
  refine wpAnyH_done (by kernel_rfl) ?_ _
  have HE : Hid (∀ u, DoQ w0 w s m E (.returned (.tuple #[.agg #[.slice a M1.length c], .bool true])) (wd.setCell ⟨w.heap.size + 2, 0, none⟩ u)) := HEN.out wd HDk.out
  clear hHeld HS7 HQ7 HDk HNe HSt HEN
  go_wp2_with fail
  try simp only [Exit.inBlock, Exit.then]
  refine bodyPost_ret (v := .tuple #[.agg #[.slice a (List.length M1) c], .bool true]) ?_ rfl (HE.out _)
  rw [results_c2 rfl]; go_simp
  first | done | exact ⟨rfl, rfl⟩
end Go.Proofs.YtlndgepoekllkaaGreatDoor
