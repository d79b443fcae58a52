/- value.Read and value.Text at any value, beside the names and the schemas (VY, VZ, VTx, VTy over again), and what they say to each other. -/
import Derived.Test.YtfbhalkiilbcoaaGreatDoorEV
import Derived.Test.YtfbhalkiilbcoaaGreatDoorZe
import Derived.Test.YtfbhalkiilbcoaaGreatDoorPut
import Derived.Deep.RegionHeld3
namespace Go.Proofs.YtfbhalkiilbcoaaGreatDoor.V
open Go.RowKit

theorem results_cell3 {fn : Func} {p u v : Tmp} {ty : TypeId} (h : fn.results = #[.cell p ty, .tmp u, .tmp v]) (tmps : Array Value) (P : Program) (w : World) :
    (results fn tmps).run P w =
      ((asAddr (tmps.getD p undef)).run P w).andThen fun a w₁ => ((loadVar ty a).run P w₁).andThen fun x w₂ => .ok (.tuple #[x, tmps.getD u undef, tmps.getD v undef]) w₂ := by
  simp only [results, h]
  simp [Sem.run_bind, Result.andThen]
/-- The result's cells, not yet set. -/
structure Zero (b : Nat) (w : World) : Prop where
  c0 : w.cell? ⟨b, 0, none⟩ = some (.int .i64 0)
  c1 : w.cell? ⟨b, 1, none⟩ = some (.int .i64 0)
  c2 : w.cell? ⟨b, 2, none⟩ = some (.string ⟨#[]⟩)
  f0 : w.frozen? ⟨b, 0, none⟩ = false
  f1 : w.frozen? ⟨b, 1, none⟩ = false
  f2 : w.frozen? ⟨b, 2, none⟩ = false
theorem Zero.below {b B : Nat} {w w' : World} (h : Zero b w) (hb : Below B w w') (hlt : b < B) : Zero b w' :=
  ⟨(hb.cell (p := ⟨b, 0, none⟩) hlt).trans h.c0, (hb.cell (p := ⟨b, 1, none⟩) hlt).trans h.c1, (hb.cell (p := ⟨b, 2, none⟩) hlt).trans h.c2, (hb.frozen (p := ⟨b, 0, none⟩) hlt).trans h.f0, (hb.frozen (p := ⟨b, 1, none⟩) hlt).trans h.f1, (hb.frozen (p := ⟨b, 2, none⟩) hlt).trans h.f2⟩
theorem Zero.new (w : World) : Zero w.heap.size (w.alloc (.cells #[.int .i64 0, .int .i64 0, .string ⟨#[]⟩] 47)) :=
  ⟨by simp, by simp, by simp, by simp, by simp, by simp⟩
abbrev wv (w : World) : World := w.alloc (.cells #[.int .i64 0, .int .i64 0, .string ⟨#[]⟩] 47)
theorem wv_below (w : World) : Below w.heap.size w (wv w) := (Below.refl _ _).alloc (Nat.le_refl _) _
theorem wv_size (w : World) : (wv w).heap.size = w.heap.size + 1 := by simp
theorem load_vv (W : World) (b : Nat) (k n : Int) (s : ByteArray) (c0 : W.cell? ⟨b, 0, none⟩ = some (.int .i64 k)) (c1 : W.cell? ⟨b, 1, none⟩ = some (.int .i64 n)) (c2 : W.cell? ⟨b, 2, none⟩ = some (.string s)) : (loadVar 47 ⟨b, 0, none⟩).run Tryz.prog W = .ok (vv k n s) W := by
  go_simp
abbrev set3 (W : World) (b : Nat) (x y z : Value) : World := ((W.setCell ⟨b, 0, none⟩ x).setCell ⟨b, 1, none⟩ y).setCell ⟨b, 2, none⟩ z
structure Three (b : Nat) (W : World) (x y z : Value) : Prop where
  c0 : W.cell? ⟨b, 0, none⟩ = some x
  c1 : W.cell? ⟨b, 1, none⟩ = some y
  c2 : W.cell? ⟨b, 2, none⟩ = some z
theorem Three.set {b : Nat} {W : World} {x y z : Value} (h : Three b W x y z) (x' y' z' : Value) : Three b (set3 W b x' y' z') x' y' z' := by
  have a1 : (W.setCell ⟨b, 0, none⟩ x').cell? ⟨b, 1, none⟩ = some y := (World.cell?_setCell_other _ _ _ _ (by simp)).trans h.c1
  have a2 : ((W.setCell ⟨b, 0, none⟩ x').setCell ⟨b, 1, none⟩ y').cell? ⟨b, 2, none⟩ = some z := (World.cell?_setCell_other _ _ _ _ (by simp)).trans ((World.cell?_setCell_other _ _ _ _ (by simp)).trans h.c2)
  refine ⟨?_, ?_, ?_⟩
  · rw [World.cell?_setCell_other _ _ _ _ (by simp), World.cell?_setCell_other _ _ _ _ (by simp), World.cell?_setCell_same _ _ _ h.c0]
  · rw [World.cell?_setCell_other _ _ _ _ (by simp), World.cell?_setCell_same _ _ _ a1]
  · rw [World.cell?_setCell_same _ _ _ a2]
theorem Three.alloc {b : Nat} {W : World} {x y z : Value} (h : Three b W x y z) (o : Obj) : Three b (W.alloc o) x y z := by
  have hA := (Below.refl W.heap.size W).alloc (Nat.le_refl _) o
  have hlt : b < W.heap.size := World.block_lt_of_cell? _ _ h.c0
  exact ⟨(hA.cell (p := ⟨b, 0, none⟩) hlt).trans h.c0, (hA.cell (p := ⟨b, 1, none⟩) hlt).trans h.c1, (hA.cell (p := ⟨b, 2, none⟩) hlt).trans h.c2⟩
theorem Zero.three {b : Nat} {w : World} (h : Zero b w) : Three b w (.int .i64 0) (.int .i64 0) (.string ⟨#[]⟩) := ⟨h.c0, h.c1, h.c2⟩
theorem results_v3 {fn : Func} {p u v : Tmp} (h : fn.results = #[.cell p 47, .tmp u, .tmp v]) (tmps : Array Value) (W : World) (b : Nat) (hp : tmps.getD p undef = .pointer (some ⟨b, 0, none⟩)) {k n : Int} {s : ByteArray} (h3 : Three b W (.int .i64 k) (.int .i64 n) (.string s)) :
    (results fn tmps).run Tryz.prog W = .ok (.tuple #[vv k n s, tmps.getD u undef, tmps.getD v undef]) W := by
  rw [results_cell3 h, hp]
  have e : (asAddr (.pointer (some ⟨b, 0, none⟩))).run Tryz.prog W = .ok ⟨b, 0, none⟩ W := rfl
  rw [e]
  simp only [Result.andThen]
  rw [load_vv W b k n s h3.c0 h3.c1 h3.c2]
theorem results_v2 {fn : Func} {p u : Tmp} (h : fn.results = #[.cell p 47, .tmp u]) (tmps : Array Value) (W : World) (b : Nat) (hp : tmps.getD p undef = .pointer (some ⟨b, 0, none⟩)) {k n : Int} {s : ByteArray} (h3 : Three b W (.int .i64 k) (.int .i64 n) (.string s)) :
    (results fn tmps).run Tryz.prog W = .ok (.tuple #[vv k n s, tmps.getD u undef]) W := by
  rw [results_cell_tmp h, hp]
  have e : (asAddr (.pointer (some ⟨b, 0, none⟩))).run Tryz.prog W = .ok ⟨b, 0, none⟩ W := rfl
  rw [e]
  simp only [Result.andThen]
  rw [load_vv W b k n s h3.c0 h3.c1 h3.c2]
/-- The result's three cells set. -/
theorem set3_below {w0 w : World} {b : Nat} (h : Below b w0 w) (x y z : Value) : Below b w0 (((w.setCell ⟨b, 0, none⟩ x).setCell ⟨b, 1, none⟩ y).setCell ⟨b, 2, none⟩ z) :=
  ((h.setCell (p := ⟨b, 0, none⟩) (Nat.le_refl _) _).setCell (p := ⟨b, 1, none⟩) (Nat.le_refl _) _).setCell (p := ⟨b, 2, none⟩) (Nat.le_refl _) _


/-- The kind of the item that a value of this kind is written as; 0 if there is none. -/
def itm (k : Int) : Int := if k = 1 then 2 else if k = 3 then 3 else if k = 2 ∨ k = 4 then 4 else 0
theorem itm_rng {k : Int} (h1 : 1 ≤ k) (h4 : k ≤ 4) : 1 ≤ itm k ∧ itm k ≤ 4 := by
  obtain rfl | rfl | rfl | rfl : k = 1 ∨ k = 2 ∨ k = 3 ∨ k = 4 := by omega
  all_goals decide
theorem itm_zero {k : Int} (h : k < 1 ∨ 4 < k) : itm k = 0 := by
  unfold itm; rw [if_neg (by omega), if_neg (by omega), if_neg (by omega)]
theorem itemOf_any (k : Int) (w : World) : Calls Tryz.prog 63 #[.int .i64 k] w fun e w' => e = .returned (.int .i64 (itm k)) ∧ w' = w := by
  by_cases e1 : k = 1
  · subst e1
    go_enter Tryz.func63, Tryz.ntmps63
    go_wp2
    go_ret
    exact ⟨rfl, rfl⟩
  by_cases e3 : k = 3
  · subst e3
    go_enter Tryz.func63, Tryz.ntmps63
    go_wp2
    go_ret
    exact ⟨rfl, rfl⟩
  by_cases e2 : k = 2
  · subst e2
    go_enter Tryz.func63, Tryz.ntmps63
    go_wp2
    go_ret
    exact ⟨rfl, rfl⟩
  by_cases e4 : k = 4
  · subst e4
    go_enter Tryz.func63, Tryz.ntmps63
    go_wp2
    go_ret
    exact ⟨rfl, rfl⟩
  have g : itm k = 0 := by unfold itm; rw [if_neg e1, if_neg e3, if_neg (by omega)]
  rw [g]
  clear g
  have f1 : (k == 1) = false := by rw [beq_eq_false_iff_ne]; exact e1
  have f2 : (k == 2) = false := by rw [beq_eq_false_iff_ne]; exact e2
  have f3 : (k == 3) = false := by rw [beq_eq_false_iff_ne]; exact e3
  have f4 : (k == 4) = false := by rw [beq_eq_false_iff_ne]; exact e4
  clear e1 e2 e3 e4
  go_enter Tryz.func63, Tryz.ntmps63
  go_wp2
  go_ret
  exact ⟨rfl, rfl⟩

theorem tS_size (s : ByteArray) (k : Int) : (Q.tS s k).size ≤ s.size := by
  unfold Q.tS
  split
  · unfold Q.ttS
    split
    · have := Q.getRest_size s
      rw [ByteArray.size_extract]
      omega
    · exact Nat.zero_le _
  · exact Nat.zero_le _
/-- A row of one int, new. -/
theorem row_one (W : World) (k : Int) (t : TypeId) : IsRow (W.alloc (.cells #[.int .i64 k] t)) 1 (.slice (some ⟨W.heap.size, 0, none⟩) 1 1) [k].length (Q.intCells [k]) := by
  refine ⟨rfl, .inr ⟨W.heap.size, 0, 1, rfl, by simp, Nat.le_refl _, by decide, fun j u hu => ?_⟩⟩
  cases j with
  | zero =>
    have : u = .int .i64 k := by simpa [Q.intCells] using hu.symm
    subst this
    simp
  | succ j => simp [Q.intCells] at hu
/-- One item at the front of bytes: its cells, the rest. -/
def OneAt (N : Int) (S : ByteArray) (v : Value) (w : World) : Prop :=
  ∃ b off cap, v = .slice (some ⟨b, off, none⟩) 1 cap ∧ b < w.heap.size ∧ w.cell? ⟨b, off + 1, none⟩ = some (.int .i64 N) ∧ w.cell? ⟨b, off + 2, none⟩ = some (.string S)
theorem one_of {w : World} {v : Value} {x : It} (h : IsRow w 3 v 1 (itCells [x])) : OneAt x.n x.s v w := by
  obtain ⟨b, off, cap, hv, hb, _, _, hc⟩ := h.open (by omega)
  exact ⟨b, off, cap, hv, hb, hc 1 _ rfl, hc 2 _ rfl⟩
theorem takeR_ok {s : ByteArray} {k : Int} (h1 : 1 ≤ k) (h4 : k ≤ 4) (h : Q.tE s k = 0) : Q.takeR s [k] = ([⟨k, Q.tN s k, Q.tS s k⟩], Q.tR s k, 0) := by
  unfold Q.takeR
  rw [if_pos (by simp [Q.isK, h1, h4]), Q.tk, if_pos h]
  rfl
theorem takeR_no {s : ByteArray} {k : Int} (h1 : 1 ≤ k) (h4 : k ≤ 4) (h : ¬ Q.tE s k = 0) : Q.takeR s [k] = ([], ⟨#[]⟩, Q.tE s k) := by
  unfold Q.takeR
  rw [if_pos (by simp [Q.isK, h1, h4]), Q.tk, if_neg h]
theorem take_1ok (s : ByteArray) (k : Int) (t : TypeId) (W : World) (hs : s.size ≤ 140737488355328) (h1 : 1 ≤ k) (h4 : k ≤ 4) (h : Q.tE s k = 0) :
    Calls Tryz.prog 52 #[.string s, .slice (some ⟨W.heap.size, 0, none⟩) 1 1] (W.alloc (.cells #[.int .i64 k] t)) fun e w' => (∃ v, e = .returned (.tuple #[v, .string (Q.tR s k), .int .i64 0]) ∧ OneAt (Q.tN s k) (Q.tS s k) v w') ∧ Below W.heap.size W w' := by
  refine (Q.take_any s _ [k] _ hs (row_one W k t) (by simp)).mono ?_
  rintro e w' ⟨v, he, hr, hb⟩
  rw [takeR_ok h1 h4 h] at he hr
  exact ⟨⟨v, he, one_of hr⟩, ((Below.refl _ _).alloc (Nat.le_refl _) _).trans (hb.mono (by simp))⟩
theorem take_1no (s : ByteArray) (k : Int) (t : TypeId) (W : World) (hs : s.size ≤ 140737488355328) (h1 : 1 ≤ k) (h4 : k ≤ 4) (h : ¬ Q.tE s k = 0) :
    Calls Tryz.prog 52 #[.string s, .slice (some ⟨W.heap.size, 0, none⟩) 1 1] (W.alloc (.cells #[.int .i64 k] t)) fun e w' => (∃ a n c, e = .returned (.tuple #[.slice a n c, .string ⟨#[]⟩, .int .i64 (Q.tE s k)])) ∧ Below W.heap.size W w' := by
  refine (Q.take_any s _ [k] _ hs (row_one W k t) (by simp)).mono ?_
  rintro e w' ⟨v, he, hr, hb⟩
  rw [takeR_no h1 h4 h] at he hr
  obtain ⟨a, c, rfl⟩ := hr.form
  exact ⟨⟨a, _, c, he⟩, ((Below.refl _ _).alloc (Nat.le_refl _) _).trans (hb.mono (by simp))⟩

/-- What Read says: the value, the rest, the error. -/
structure Rd where
  k : Int
  n : Int
  s : ByteArray
  r : ByteArray
  e : Int
def rd (s : ByteArray) : Rd :=
  if ¬ Q.getE s = 0 then ⟨0, 0, ⟨#[]⟩, ⟨#[]⟩, Q.getE s⟩
  else if Q.getV s < 1 ∨ 4 < Q.getV s then ⟨0, 0, ⟨#[]⟩, ⟨#[]⟩, 8⟩
  else if ¬ Q.tE (Q.getRest s) (itm (Q.getV s)) = 0 then ⟨0, 0, ⟨#[]⟩, ⟨#[]⟩, Q.tE (Q.getRest s) (itm (Q.getV s))⟩
  else if chkV (Q.getV s) (Q.tN (Q.getRest s) (itm (Q.getV s))) (Q.tS (Q.getRest s) (itm (Q.getV s))) = true then ⟨Q.getV s, Q.tN (Q.getRest s) (itm (Q.getV s)), Q.tS (Q.getRest s) (itm (Q.getV s)), Q.tR (Q.getRest s) (itm (Q.getV s)), 0⟩
  else ⟨0, 0, ⟨#[]⟩, ⟨#[]⟩, 3⟩
def RdPost (x : Rd) (w : World) (e : Ending) (w' : World) : Prop := e = .returned (.tuple #[vv x.k x.n x.s, .string x.r, .int .i64 x.e]) ∧ Below w.heap.size w w'

set_option maxRecDepth 100000 in
set_option maxHeartbeats 2000000 in
theorem read_1 (s : ByteArray) (w : World) (hs : s.size ≤ 140737488355328) (h : ¬ Q.getE s = 0) :
    Calls Tryz.prog 64 #[.string s] w fun e w' => RdPost ⟨0, 0, ⟨#[]⟩, ⟨#[]⟩, Q.getE s⟩ w e w' := by
  have h0' : (Q.getE s != 0) = true := by rw [bne_iff_ne]; exact h
  clear h
  go_enter Tryz.func64, Tryz.ntmps64
  go_wp2_with fail
  refine (Q.get_any _ _ hs).mono ?_
  rintro e w2 ⟨rfl, hb2⟩
  have HZ : Hid (Three w.heap.size w2 (.int .i64 0) (.int .i64 0) (.string ⟨#[]⟩)) := ((Zero.new w).below hb2 (by simp)).three
  obtain ⟨c0, c1, c2, f0, f1, f2⟩ := (Zero.new w).below hb2 (by simp)
  have hB2 := (wv_below w).trans (hb2.mono (by simp))
  clear hb2
  go_wp2
  try simp only [Exit.inBlock, Exit.then]
  exact bodyPost_ret (results_v3 rfl _ _ w.heap.size rfl (HZ.out.set _ _ _)) rfl ⟨rfl, set3_below hB2 _ _ _⟩
set_option maxRecDepth 100000 in
set_option maxHeartbeats 2000000 in
theorem read_2 (s : ByteArray) (w : World) (hs : s.size ≤ 140737488355328) (h : Q.getE s = 0) (hk : Q.getV s < 1 ∨ 4 < Q.getV s) :
    Calls Tryz.prog 64 #[.string s] w fun e w' => RdPost ⟨0, 0, ⟨#[]⟩, ⟨#[]⟩, 8⟩ w e w' := by
  have H0 : Hid (Q.getE s = 0) := h
  have HI : Hid (itm (Q.getV s) = 0) := itm_zero hk
  clear h hk
  go_enter Tryz.func64, Tryz.ntmps64
  go_wp2_with fail
  refine (Q.get_any _ _ hs).mono ?_
  rintro e w2 ⟨rfl, hb2⟩
  have HZ : Hid (Three w.heap.size w2 (.int .i64 0) (.int .i64 0) (.string ⟨#[]⟩)) := ((Zero.new w).below hb2 (by simp)).three
  obtain ⟨c0, c1, c2, f0, f1, f2⟩ := (Zero.new w).below hb2 (by simp)
  have hB2 := (wv_below w).trans (hb2.mono (by simp))
  clear hb2
  rw [H0.out]
  go_wp2_with fail
  refine (itemOf_any _ _).mono ?_
  rintro e w3 ⟨rfl, rfl⟩
  rw [HI.out]
  go_wp2
  try simp only [Exit.inBlock, Exit.then]
  exact bodyPost_ret (results_v3 rfl _ _ w.heap.size rfl (HZ.out.set _ _ _)) rfl ⟨rfl, set3_below hB2 _ _ _⟩
set_option maxRecDepth 100000 in
set_option maxHeartbeats 2000000 in
theorem read_3 (s : ByteArray) (w : World) (hs : s.size ≤ 140737488355328) (h : Q.getE s = 0) (k1 : 1 ≤ Q.getV s) (k4 : Q.getV s ≤ 4) (ht : ¬ Q.tE (Q.getRest s) (itm (Q.getV s)) = 0) :
    Calls Tryz.prog 64 #[.string s] w fun e w' => RdPost ⟨0, 0, ⟨#[]⟩, ⟨#[]⟩, Q.tE (Q.getRest s) (itm (Q.getV s))⟩ w e w' := by
  have H0 : Hid (Q.getE s = 0) := h
  obtain ⟨i1, i4⟩ := itm_rng k1 k4
  have hr := Q.getRest_size s
  generalize hK : Q.getV s = K at *
  generalize hI : itm K = I at *
  have HK : Hid (Q.getV s = K) := hK
  have HI : Hid (itm K = I) := hI
  have h0 : (I == 0) = false := by rw [beq_eq_false_iff_ne]; omega
  have hE : (Q.tE (Q.getRest s) I != 0) = true := by rw [bne_iff_ne]; exact ht
  have HT : Hid (¬ Q.tE (Q.getRest s) I = 0) := ht
  clear h k1 k4 hK hI ht
  go_enter Tryz.func64, Tryz.ntmps64
  go_wp2_with fail
  refine (Q.get_any _ _ hs).mono ?_
  rintro e w2 ⟨rfl, hb2⟩
  have hz2 := (Zero.new w).below hb2 (by simp)
  have hlt2 : w.heap.size < w2.heap.size := by have := hb2.size; simp at this; omega
  have hB2 := (wv_below w).trans (hb2.mono (by simp))
  clear hb2
  rw [H0.out, HK.out]
  have HZ2 : Hid (Zero w.heap.size w2) := hz2
  clear hz2
  go_wp2_with fail
  refine (itemOf_any _ _).mono ?_
  rintro e w3 ⟨rfl, rfl⟩
  rw [HI.out]
  go_wp2_with fail
  refine (take_1no _ _ _ _ (by omega) i1 i4 HT.out).mono ?_
  rintro e w4 ⟨⟨a, n, c, rfl⟩, hb4⟩
  have HZ : Hid (Three w.heap.size w4 (.int .i64 0) (.int .i64 0) (.string ⟨#[]⟩)) := (HZ2.out.below hb4 hlt2).three
  obtain ⟨c0, c1, c2, f0, f1, f2⟩ := HZ2.out.below hb4 hlt2
  have hB4 := hB2.trans (hb4.mono (by omega))
  clear hb4
  go_wp2
  try simp only [Exit.inBlock, Exit.then]
  exact bodyPost_ret (results_v3 rfl _ _ w.heap.size rfl (HZ.out.set _ _ _)) rfl ⟨rfl, set3_below hB4 _ _ _⟩

/-- A value's cells, and that they may be set. -/
structure Zx (k n : Int) (s : ByteArray) (b : Nat) (w : World) : Prop where
  c0 : w.cell? ⟨b, 0, none⟩ = some (.int .i64 k)
  c1 : w.cell? ⟨b, 1, none⟩ = some (.int .i64 n)
  c2 : w.cell? ⟨b, 2, none⟩ = some (.string s)
  f0 : w.frozen? ⟨b, 0, none⟩ = false
  f1 : w.frozen? ⟨b, 1, none⟩ = false
  f2 : w.frozen? ⟨b, 2, none⟩ = false
theorem Zx.below {k n : Int} {s : ByteArray} {b B : Nat} {w w' : World} (h : Zx k n s b w) (hb : Below B w w') (hlt : b < B) : Zx k n s b w' :=
  ⟨(hb.cell (p := ⟨b, 0, none⟩) hlt).trans h.c0, (hb.cell (p := ⟨b, 1, none⟩) hlt).trans h.c1, (hb.cell (p := ⟨b, 2, none⟩) hlt).trans h.c2, (hb.frozen (p := ⟨b, 0, none⟩) hlt).trans h.f0, (hb.frozen (p := ⟨b, 1, none⟩) hlt).trans h.f1, (hb.frozen (p := ⟨b, 2, none⟩) hlt).trans h.f2⟩

set_option maxRecDepth 100000 in
set_option maxHeartbeats 4000000 in
theorem read_4 (s : ByteArray) (w : World) (hs : s.size ≤ 140737488355328) (hT : UT w) (h : Q.getE s = 0) (k1 : 1 ≤ Q.getV s) (k4 : Q.getV s ≤ 4) (ht : Q.tE (Q.getRest s) (itm (Q.getV s)) = 0)
    (hc : chkV (Q.getV s) (Q.tN (Q.getRest s) (itm (Q.getV s))) (Q.tS (Q.getRest s) (itm (Q.getV s))) = false) :
    Calls Tryz.prog 64 #[.string s] w fun e w' => RdPost ⟨0, 0, ⟨#[]⟩, ⟨#[]⟩, 3⟩ w e w' := by
  have H0 : Hid (Q.getE s = 0) := h
  obtain ⟨i1, i4⟩ := itm_rng k1 k4
  have hr := Q.getRest_size s
  have hS := tS_size (Q.getRest s) (itm (Q.getV s))
  generalize hK : Q.getV s = K at *
  generalize hI : itm K = I at *
  have HK : Hid (Q.getV s = K) := hK
  have HI : Hid (itm K = I) := hI
  have HT := take_1ok (Q.getRest s) I 3
  generalize hN : Q.tN (Q.getRest s) I = N at *
  generalize hX : Q.tS (Q.getRest s) I = X at *
  generalize hY : Q.tR (Q.getRest s) I = Y at *
  have hX' : X.size ≤ 140737488355328 := by omega
  have h0 : (I == 0) = false := by rw [beq_eq_false_iff_ne]; omega
  have HR : Hid ((Q.getRest s).size ≤ 140737488355328) := by show _ ≤ _; omega
  have HI1 : Hid (1 ≤ I ∧ I ≤ 4) := ⟨i1, i4⟩
  have HC : Hid (chkV K N X = false) := hc
  have HE : Hid (Q.tE (Q.getRest s) I = 0) := ht
  clear h k1 k4 hK hI ht hN hX hY hr hS i1 i4 hc
  go_enter Tryz.func64, Tryz.ntmps64
  go_wp2_with fail
  refine (Q.get_any _ _ hs).mono ?_
  rintro e w2 ⟨rfl, hb2⟩
  have hz2 := (Zero.new w).below hb2 (by simp)
  have hlt2 : w.heap.size < w2.heap.size := by have := hb2.size; simp at this; omega
  have hB2 := (wv_below w).trans (hb2.mono (by simp))
  clear hb2
  rw [H0.out, HK.out]
  have HZ2 : Hid (Zero w.heap.size w2) := hz2
  clear hz2
  go_wp2_with fail
  refine (itemOf_any _ _).mono ?_
  rintro e w3 ⟨rfl, rfl⟩
  rw [HI.out]
  go_wp2_with fail
  refine (HT _ HR.out HI1.out.1 HI1.out.2 HE.out).mono ?_
  rintro e w4 ⟨⟨v, rfl, ⟨b, off, cap, rfl, hbl, d1, d2⟩⟩, hb4⟩
  have HZ : Hid (Three w.heap.size w4 (.int .i64 0) (.int .i64 0) (.string ⟨#[]⟩)) := (HZ2.out.below hb4 hlt2).three
  obtain ⟨c0, c1, c2, f0, f1, f2⟩ := HZ2.out.below hb4 hlt2
  have hB4 := hB2.trans (hb4.mono (by omega))
  clear hb4 HT
  go_wp2
  go_region
  have t5 := HZ.out.set (.int .i64 K) (.int .i64 N) (.string X)
  have T5 : Three w.heap.size (set3 w4 w.heap.size (.int .i64 K) (.int .i64 N) (.string X)).drew (.int .i64 K) (.int .i64 N) (.string X) := ⟨t5.c0, t5.c1, t5.c2⟩
  have g0 : (set3 w4 w.heap.size (.int .i64 K) (.int .i64 N) (.string X)).drew.frozen? ⟨w.heap.size, 0, none⟩ = false := by simpa using f0
  have g1 : (set3 w4 w.heap.size (.int .i64 K) (.int .i64 N) (.string X)).drew.frozen? ⟨w.heap.size, 1, none⟩ = false := by simpa using f1
  have g2 : (set3 w4 w.heap.size (.int .i64 K) (.int .i64 N) (.string X)).drew.frozen? ⟨w.heap.size, 2, none⟩ = false := by simpa using f2
  have hB5 : Below w.heap.size w (set3 w4 w.heap.size (.int .i64 K) (.int .i64 N) (.string X)).drew := (set3_below hB4 _ _ _).drew
  have hlt5 : w.heap.size < (set3 w4 w.heap.size (.int .i64 K) (.int .i64 N) (.string X)).drew.heap.size := World.block_lt_of_cell? _ _ T5.c0
  clear t5 c0 c1 c2 f0 f1 f2 d1 d2 hB4 HZ hB2
  generalize (set3 w4 w.heap.size (.int .i64 K) (.int .i64 N) (.string X)).drew = W5 at *
  obtain ⟨c0, c1, c2⟩ := T5
  go_wp2_with fail
  refine (vcheck_any _ _ _ _ hX' (Utf8Tabs_below hT hB5)).mono ?_
  rintro e w6 ⟨rfl, hb6⟩
  rw [HC.out]
  have z6 : Zx K N X w.heap.size w6 := Zx.below ⟨c0, c1, c2, g0, g1, g2⟩ hb6 hlt5
  have HZ : Hid (Three w.heap.size w6 (.int .i64 K) (.int .i64 N) (.string X)) := ⟨z6.c0, z6.c1, z6.c2⟩
  have hB6 := hB5.trans (hb6.mono (by omega))
  clear c0 c1 c2 g0 g1 g2 hb6 hB5
  obtain ⟨c0, c1, c2, f0, f1, f2⟩ := z6
  go_wp2
  try simp only [Exit.inBlock, Exit.then]
  exact bodyPost_ret (results_v3 rfl _ _ w.heap.size rfl (HZ.out.set _ _ _)) rfl ⟨rfl, set3_below hB6 _ _ _⟩
set_option maxRecDepth 100000 in
set_option maxHeartbeats 4000000 in
theorem read_5 (s : ByteArray) (w : World) (hs : s.size ≤ 140737488355328) (hT : UT w) (h : Q.getE s = 0) (k1 : 1 ≤ Q.getV s) (k4 : Q.getV s ≤ 4) (ht : Q.tE (Q.getRest s) (itm (Q.getV s)) = 0)
    (hc : chkV (Q.getV s) (Q.tN (Q.getRest s) (itm (Q.getV s))) (Q.tS (Q.getRest s) (itm (Q.getV s))) = true) :
    Calls Tryz.prog 64 #[.string s] w fun e w' => RdPost ⟨Q.getV s, Q.tN (Q.getRest s) (itm (Q.getV s)), Q.tS (Q.getRest s) (itm (Q.getV s)), Q.tR (Q.getRest s) (itm (Q.getV s)), 0⟩ w e w' := by
  have H0 : Hid (Q.getE s = 0) := h
  obtain ⟨i1, i4⟩ := itm_rng k1 k4
  have hr := Q.getRest_size s
  have hS := tS_size (Q.getRest s) (itm (Q.getV s))
  generalize hK : Q.getV s = K at *
  generalize hI : itm K = I at *
  have HK : Hid (Q.getV s = K) := hK
  have HI : Hid (itm K = I) := hI
  have HT := take_1ok (Q.getRest s) I 3
  generalize hN : Q.tN (Q.getRest s) I = N at *
  generalize hX : Q.tS (Q.getRest s) I = X at *
  generalize hY : Q.tR (Q.getRest s) I = Y at *
  have hX' : X.size ≤ 140737488355328 := by omega
  have h0 : (I == 0) = false := by rw [beq_eq_false_iff_ne]; omega
  have HR : Hid ((Q.getRest s).size ≤ 140737488355328) := by show _ ≤ _; omega
  have HI1 : Hid (1 ≤ I ∧ I ≤ 4) := ⟨i1, i4⟩
  have HC : Hid (chkV K N X = true) := hc
  have HE : Hid (Q.tE (Q.getRest s) I = 0) := ht
  clear h k1 k4 hK hI ht hN hX hY hr hS i1 i4 hc
  go_enter Tryz.func64, Tryz.ntmps64
  go_wp2_with fail
  refine (Q.get_any _ _ hs).mono ?_
  rintro e w2 ⟨rfl, hb2⟩
  have hz2 := (Zero.new w).below hb2 (by simp)
  have hlt2 : w.heap.size < w2.heap.size := by have := hb2.size; simp at this; omega
  have hB2 := (wv_below w).trans (hb2.mono (by simp))
  clear hb2
  rw [H0.out, HK.out]
  have HZ2 : Hid (Zero w.heap.size w2) := hz2
  clear hz2
  go_wp2_with fail
  refine (itemOf_any _ _).mono ?_
  rintro e w3 ⟨rfl, rfl⟩
  rw [HI.out]
  go_wp2_with fail
  refine (HT _ HR.out HI1.out.1 HI1.out.2 HE.out).mono ?_
  rintro e w4 ⟨⟨v, rfl, ⟨b, off, cap, rfl, hbl, d1, d2⟩⟩, hb4⟩
  have HZ : Hid (Three w.heap.size w4 (.int .i64 0) (.int .i64 0) (.string ⟨#[]⟩)) := (HZ2.out.below hb4 hlt2).three
  obtain ⟨c0, c1, c2, f0, f1, f2⟩ := HZ2.out.below hb4 hlt2
  have hB4 := hB2.trans (hb4.mono (by omega))
  clear hb4 HT
  go_wp2
  go_region
  have t5 := HZ.out.set (.int .i64 K) (.int .i64 N) (.string X)
  have T5 : Three w.heap.size (set3 w4 w.heap.size (.int .i64 K) (.int .i64 N) (.string X)).drew (.int .i64 K) (.int .i64 N) (.string X) := ⟨t5.c0, t5.c1, t5.c2⟩
  have g0 : (set3 w4 w.heap.size (.int .i64 K) (.int .i64 N) (.string X)).drew.frozen? ⟨w.heap.size, 0, none⟩ = false := by simpa using f0
  have g1 : (set3 w4 w.heap.size (.int .i64 K) (.int .i64 N) (.string X)).drew.frozen? ⟨w.heap.size, 1, none⟩ = false := by simpa using f1
  have g2 : (set3 w4 w.heap.size (.int .i64 K) (.int .i64 N) (.string X)).drew.frozen? ⟨w.heap.size, 2, none⟩ = false := by simpa using f2
  have hB5 : Below w.heap.size w (set3 w4 w.heap.size (.int .i64 K) (.int .i64 N) (.string X)).drew := (set3_below hB4 _ _ _).drew
  have hlt5 : w.heap.size < (set3 w4 w.heap.size (.int .i64 K) (.int .i64 N) (.string X)).drew.heap.size := World.block_lt_of_cell? _ _ T5.c0
  clear t5 c0 c1 c2 f0 f1 f2 d1 d2 hB4 HZ hB2
  generalize (set3 w4 w.heap.size (.int .i64 K) (.int .i64 N) (.string X)).drew = W5 at *
  obtain ⟨c0, c1, c2⟩ := T5
  go_wp2_with fail
  refine (vcheck_any _ _ _ _ hX' (Utf8Tabs_below hT hB5)).mono ?_
  rintro e w6 ⟨rfl, hb6⟩
  rw [HC.out]
  have z6 : Zx K N X w.heap.size w6 := Zx.below ⟨c0, c1, c2, g0, g1, g2⟩ hb6 hlt5
  have HZ : Hid (Three w.heap.size w6 (.int .i64 K) (.int .i64 N) (.string X)) := ⟨z6.c0, z6.c1, z6.c2⟩
  have hB6 := hB5.trans (hb6.mono (by omega))
  clear c0 c1 c2 g0 g1 g2 hb6 hB5
  obtain ⟨c0, c1, c2, f0, f1, f2⟩ := z6
  go_wp2
  try simp only [Exit.inBlock, Exit.then]
  exact bodyPost_ret (results_v3 rfl _ _ w.heap.size rfl (HZ.out.set _ _ _)) rfl ⟨rfl, set3_below hB6 _ _ _⟩

/-- value.Read at any bytes. -/
theorem read_any (s : ByteArray) (w : World) (hs : s.size ≤ 140737488355328) (hT : UT w) :
    Calls Tryz.prog 64 #[.string s] w fun e w' => RdPost (rd s) w e w' := by
  unfold rd
  by_cases h0 : Q.getE s = 0
  · rw [if_neg (fun hh => hh h0)]
    by_cases h1 : Q.getV s < 1 ∨ 4 < Q.getV s
    · rw [if_pos h1]
      exact read_2 s w hs h0 h1
    · rw [if_neg h1]
      by_cases h2 : Q.tE (Q.getRest s) (itm (Q.getV s)) = 0
      · rw [if_neg (fun hh => hh h2)]
        by_cases h3 : chkV (Q.getV s) (Q.tN (Q.getRest s) (itm (Q.getV s))) (Q.tS (Q.getRest s) (itm (Q.getV s))) = true
        · rw [if_pos h3]
          exact read_5 s w hs hT h0 (by omega) (by omega) h2 h3
        · rw [if_neg h3]
          exact read_4 s w hs hT h0 (by omega) (by omega) h2 (by simpa using h3)
      · rw [if_pos h2]
        exact read_3 s w hs h0 (by omega) (by omega) h2
  · rw [if_pos h0]
    exact read_1 s w hs h0

/-- A value's bytes. -/
def txt (k n : Int) (s : ByteArray) : ByteArray := ⟨([(⟨1, k, ⟨#[]⟩⟩ : It), ⟨itm k, n, s⟩].flatMap Q.itB).toArray⟩
theorem chk_kind {k n : Int} {s : ByteArray} (h : chkV k n s = true) : 1 ≤ k ∧ k ≤ 4 := by
  unfold chkV at h
  (repeat' split at h) <;> first | omega | (exact absurd h (by decide))
theorem isE {s : ByteArray} (h : s.size = 0) : s.toList.isEmpty = true := empty_is s h
theorem chk_may {k n : Int} {s : ByteArray} (h : chkV k n s = true) : [(⟨1, k, ⟨#[]⟩⟩ : It), ⟨itm k, n, s⟩].all Q.mayIt = true := by
  have hk := chk_kind h
  have h1 : Q.mayIt ⟨1, k, ⟨#[]⟩⟩ = true := by
    show Q.mayB 1 k ⟨#[]⟩ = true
    unfold Q.mayB
    rw [if_pos rfl, isE rfl, Bool.true_and, decide_eq_true_eq]
    omega
  have h2 : Q.mayIt ⟨itm k, n, s⟩ = true := by
    show Q.mayB (itm k) n s = true
    obtain rfl | rfl | rfl | rfl : k = 1 ∨ k = 2 ∨ k = 3 ∨ k = 4 := by omega
    · have e : itm 1 = 2 := by decide
      rw [e]
      simp only [chkV, if_pos, Bool.and_eq_true, decide_eq_true_eq] at h
      unfold Q.mayB
      rw [if_neg (by decide), if_pos rfl, isE h.1, Bool.true_and, decide_eq_true_eq]
      omega
    · have e : itm 2 = 4 := by decide
      rw [e]
      have h' : n = 0 ∧ s.size ≤ 200 := by
        unfold chkV at h
        rw [if_neg (by decide), if_pos rfl] at h
        simp only [Bool.and_eq_true, decide_eq_true_eq] at h
        exact ⟨h.1, h.2.1⟩
      unfold Q.mayB
      rw [if_neg (by decide), if_neg (by decide), if_neg (by decide), if_pos rfl, decide_eq_true_eq]
      omega
    · have e : itm 3 = 3 := by decide
      rw [e]
      unfold chkV at h
      rw [if_neg (by decide), if_neg (by decide), if_pos rfl] at h
      simp only [Bool.and_eq_true, decide_eq_true_eq] at h
      unfold Q.mayB
      rw [if_neg (by decide), if_neg (by decide), if_pos rfl, isE h.1, Bool.true_and, decide_eq_true_eq]
      exact h.2
    · have e : itm 4 = 4 := by decide
      rw [e]
      unfold chkV at h
      rw [if_neg (by decide), if_neg (by decide), if_neg (by decide), if_pos rfl] at h
      simp only [Bool.and_eq_true, decide_eq_true_eq] at h
      unfold Q.mayB
      rw [if_neg (by decide), if_neg (by decide), if_neg (by decide), if_pos rfl, decide_eq_true_eq]
      omega
  simp [h1, h2]
theorem row_two (W : World) (k I n : Int) (s : ByteArray) (t : TypeId) : IsRow (W.alloc (.cells #[.int .i64 1, .int .i64 k, .string ⟨#[]⟩, .int .i64 I, .int .i64 n, .string s] t)) 3 (.slice (some ⟨W.heap.size, 0, none⟩) 2 2) [(⟨1, k, ⟨#[]⟩⟩ : It), ⟨I, n, s⟩].length (itCells [(⟨1, k, ⟨#[]⟩⟩ : It), ⟨I, n, s⟩]) := by
  refine ⟨rfl, .inr ⟨W.heap.size, 0, 2, rfl, by simp, Nat.le_refl _, by decide, fun j u hu => ?_⟩⟩
  have hc : (W.alloc (.cells #[.int .i64 1, .int .i64 k, .string ⟨#[]⟩, .int .i64 I, .int .i64 n, .string s] t)).cell? ⟨W.heap.size, 0 + j, none⟩ = #[Value.int .i64 1, .int .i64 k, .string ⟨#[]⟩, .int .i64 I, .int .i64 n, .string s][j]? := by simp
  rw [hc]
  have e : (itCells [(⟨1, k, ⟨#[]⟩⟩ : It), ⟨I, n, s⟩]) = [Value.int .i64 1, .int .i64 k, .string ⟨#[]⟩, .int .i64 I, .int .i64 n, .string s] := rfl
  rw [e] at hu
  simpa using hu
theorem row_two_d {W : World} {v : Value} {n : Nat} {xs : List Value} (h : IsRow W 3 v n xs) : IsRow W.drew 3 v n xs := by
  obtain ⟨h1, h2⟩ := h
  refine ⟨h1, ?_⟩
  rcases h2 with h | ⟨b, off, cap, hv, hl, hc, hm, hcell⟩
  · exact .inl h
  · exact .inr ⟨b, off, cap, hv, hl, hc, hm, hcell⟩
theorem put_2n (k n : Int) (s : ByteArray) (t : TypeId) (W : World) (N : Nat) (hN : N = W.heap.size) (hs : s.size ≤ 140737488355328) (hT : Q.Tab W) (h : chkV k n s = true) :
    Calls Tryz.prog 32 #[.slice (some ⟨N, 0, none⟩) 2 2] (W.alloc (.cells #[.int .i64 1, .int .i64 k, .string ⟨#[]⟩, .int .i64 (itm k), .int .i64 n, .string s] t)) fun e w' => e = .returned (.tuple #[.string (txt k n s), .int .i64 0]) ∧ Below W.heap.size W w' := by
  subst hN
  refine (Q.put_ok _ _ _ (row_two W k (itm k) n s t) (Q.Tab_alloc hT _) (by simp) ?_ (chk_may h)).mono ?_
  · intro x hx
    simp only [List.mem_cons, List.not_mem_nil, or_false] at hx
    rcases hx with rfl | rfl
    · exact Nat.zero_le _
    · exact hs
  · rintro e w' ⟨he, hb⟩
    exact ⟨he, ((Below.refl _ _).alloc (Nat.le_refl _) _).trans (hb.mono (by simp))⟩
theorem put_2 (k n : Int) (s : ByteArray) (t : TypeId) (W : World) (hs : s.size ≤ 140737488355328) (hT : Q.Tab W) (h : chkV k n s = true) :
    Calls Tryz.prog 32 #[.slice (some ⟨W.heap.size, 0, none⟩) 2 2] (W.alloc (.cells #[.int .i64 1, .int .i64 k, .string ⟨#[]⟩, .int .i64 (itm k), .int .i64 n, .string s] t)).drew fun e w' => e = .returned (.tuple #[.string (txt k n s), .int .i64 0]) ∧ Below W.heap.size W w' := by
  have hA := Q.Tab_alloc hT (.cells #[.int .i64 1, .int .i64 k, .string ⟨#[]⟩, .int .i64 (itm k), .int .i64 n, .string s] t)
  have hD : Below W.heap.size W (W.alloc (.cells #[.int .i64 1, .int .i64 k, .string ⟨#[]⟩, .int .i64 (itm k), .int .i64 n, .string s] t)).drew := ((Below.refl _ _).alloc (Nat.le_refl _) _).drew
  have hA' : Q.Tab (W.alloc (.cells #[.int .i64 1, .int .i64 k, .string ⟨#[]⟩, .int .i64 (itm k), .int .i64 n, .string s] t)).drew := hA.below (Below.drew (Below.refl _ _)) hA.size
  refine (Q.put_ok _ _ _ (row_two_d (row_two W k (itm k) n s t)) hA' (by simp) ?_ (chk_may h)).mono ?_
  · intro x hx
    simp only [List.mem_cons, List.not_mem_nil, or_false] at hx
    rcases hx with rfl | rfl
    · exact Nat.zero_le _
    · exact hs
  · rintro e w' ⟨he, hb⟩
    exact ⟨he, hD.trans (hb.mono hD.size)⟩

/-- A value that lies in a block, and what was there before. -/
abbrev S9 (w0 : World) (k n : Int) (s : ByteArray) (w : World) : Prop :=
  w.cell? ⟨w0.heap.size, 0, none⟩ = some (.int .i64 k) ∧ w.cell? ⟨w0.heap.size, 1, none⟩ = some (.int .i64 n) ∧ w.cell? ⟨w0.heap.size, 2, none⟩ = some (.string s) ∧ w0.heap.size < w.heap.size ∧ Below w0.heap.size w0 w
theorem S9_call {w0 W w' : World} {k n : Int} {s : ByteArray} (hb : Below W.heap.size W w') (h : S9 w0 k n s W) : S9 w0 k n s w' := by
  obtain ⟨a0, a1, a2, l1, hB⟩ := h
  exact ⟨(hb.cell (p := ⟨w0.heap.size, 0, none⟩) l1).trans a0, (hb.cell (p := ⟨w0.heap.size, 1, none⟩) l1).trans a1, (hb.cell (p := ⟨w0.heap.size, 2, none⟩) l1).trans a2, Nat.lt_of_lt_of_le l1 hb.size, hB.trans (hb.mono hB.size)⟩
theorem S9_drew {w0 W : World} {k n : Int} {s : ByteArray} (h : S9 w0 k n s W) : S9 w0 k n s W.drew := by
  obtain ⟨a0, a1, a2, l1, hB⟩ := h
  exact ⟨a0, a1, a2, l1, hB.drew⟩
theorem S9_alloc {w0 W : World} {k n : Int} {s : ByteArray} (o : Obj) (h : S9 w0 k n s W) : S9 w0 k n s (W.alloc o) := S9_call ((Below.refl _ _).alloc (Nat.le_refl _) o) h
theorem S9_tab {w0 W : World} {k n : Int} {s : ByteArray} (hT : Q.Tab w0) (h : S9 w0 k n s W) : Q.Tab W := hT.below h.2.2.2.2 hT.size

set_option maxRecDepth 100000 in
set_option maxHeartbeats 4000000 in
theorem text_ok (k n : Int) (s : ByteArray) (w : World) (hs : s.size ≤ 140737488355328) (hU : UT w) (hT : Q.Tab w) (h : chkV k n s = true) :
    Calls Tryz.prog 37 #[vv k n s] w fun e w' => e = .returned (.string (txt k n s)) ∧ Below w.heap.size w w' := by
  have HC : Hid (chkV k n s = true) := h
  have hA : Below w.heap.size w (w.alloc (.cells #[.int .i64 k, .int .i64 n, .string s] 47)) := (Below.refl _ _).alloc (Nat.le_refl _) _
  clear h
  go_enter Tryz.func37, Tryz.ntmps37
  go_wp2_with fail
  refine (vcheck_any _ _ _ _ hs (Utf8Tabs_below hU hA)).mono ?_
  rintro e w1 ⟨rfl, hb1⟩
  rw [HC.out]
  have c0 : w1.cell? ⟨w.heap.size, 0, none⟩ = some (.int .i64 k) := (hb1.cell (p := ⟨w.heap.size, 0, none⟩) (by simp)).trans (by simp)
  have c1 : w1.cell? ⟨w.heap.size, 1, none⟩ = some (.int .i64 n) := (hb1.cell (p := ⟨w.heap.size, 1, none⟩) (by simp)).trans (by simp)
  have c2 : w1.cell? ⟨w.heap.size, 2, none⟩ = some (.string s) := (hb1.cell (p := ⟨w.heap.size, 2, none⟩) (by simp)).trans (by simp)
  have hB1 : Below w.heap.size w w1 := hA.trans (hb1.mono (by simp))
  have hS : S9 w k n s w1 := ⟨c0, c1, c2, by have := hb1.size; simp at this; omega, hB1⟩
  clear hb1 hA hU c0 c1 c2 hB1
  go_wp2_with fail
  go_region_held3 (fun w' => S9 w k n s w') (first | assumption | exact S9_call (by assumption) (by assumption) | exact S9_drew (by assumption) | exact S9_alloc _ (by assumption) | exact S9_drew (S9_alloc _ (by assumption)) | exact S9_alloc _ (S9_drew (by assumption)))
    (first
      | (go_at_call 63; refine (itemOf_any _ _).mono ?_; rintro e w' ⟨rfl, rfl⟩)
      | (go_at_call 32; refine (put_2 k n s 63 _ hs (S9_tab hT (by assumption)) HC.out).mono ?_; rintro e w' ⟨rfl, hb⟩)
      | (go_at_call 32; refine (put_2n k n s 63 _ _ (by simp) hs (S9_tab hT (by assumption)) HC.out).mono ?_; rintro e w' ⟨rfl, hb⟩))
  rename_i hS3
  have hB3 := hS3.2.2.2.2
  clear hS3 hS
  go_wp2
  go_ret
  exact ⟨rfl, hB3⟩

set_option maxRecDepth 100000 in
theorem text_no (k n : Int) (s : ByteArray) (w : World) (hs : s.size ≤ 140737488355328) (hU : UT w) (h : chkV k n s = false) :
    Calls Tryz.prog 37 #[vv k n s] w fun e w' => e = .returned (.string ⟨#[]⟩) ∧ Below w.heap.size w w' := by
  have HC : Hid (chkV k n s = false) := h
  have hA : Below w.heap.size w (w.alloc (.cells #[.int .i64 k, .int .i64 n, .string s] 47)) := (Below.refl _ _).alloc (Nat.le_refl _) _
  clear h
  go_enter Tryz.func37, Tryz.ntmps37
  go_wp2_with fail
  refine (vcheck_any _ _ _ _ hs (Utf8Tabs_below hU hA)).mono ?_
  rintro e w1 ⟨rfl, hb1⟩
  rw [HC.out]
  have hB1 : Below w.heap.size w w1 := hA.trans (hb1.mono (by simp))
  clear hb1 hA
  go_wp2
  go_ret
  exact ⟨rfl, hB1⟩
/-- A value's bytes, or none. -/
def txtV (k n : Int) (s : ByteArray) : ByteArray := if chkV k n s = true then txt k n s else ⟨#[]⟩
theorem text_any (k n : Int) (s : ByteArray) (w : World) (hs : s.size ≤ 140737488355328) (hU : UT w) (hT : Q.Tab w) :
    Calls Tryz.prog 37 #[vv k n s] w fun e w' => e = .returned (.string (txtV k n s)) ∧ Below w.heap.size w w' := by
  unfold txtV
  by_cases h : chkV k n s = true
  · rw [if_pos h]; exact text_ok k n s w hs hU hT h
  · rw [if_neg h]; exact text_no k n s w hs hU (by simpa using h)
theorem txt_list (k n : Int) (s : ByteArray) : (txt k n s).data.toList = Q.numL k ++ Q.itB ⟨itm k, n, s⟩ := by
  unfold txt
  simp only [List.flatMap_cons, List.flatMap_nil, List.append_nil]
  rw [show Q.itB ⟨1, k, ⟨#[]⟩⟩ = Q.numL k from Q.itB_1 rfl]
theorem read_once {s : ByteArray} (h : (rd s).e = 0) : chkV (rd s).k (rd s).n (rd s).s = true ∧ txtV (rd s).k (rd s).n (rd s).s ++ (rd s).r = s := by
  unfold rd at *
  by_cases h1 : ¬ Q.getE s = 0
  · rw [if_pos h1] at h; exact absurd h h1
  rw [if_neg h1] at h ⊢
  by_cases h2 : Q.getV s < 1 ∨ 4 < Q.getV s
  · rw [if_pos h2] at h; simp at h
  rw [if_neg h2] at h ⊢
  by_cases h3 : ¬ Q.tE (Q.getRest s) (itm (Q.getV s)) = 0
  · rw [if_pos h3] at h; exact absurd h h3
  rw [if_neg h3] at h ⊢
  by_cases h4 : chkV (Q.getV s) (Q.tN (Q.getRest s) (itm (Q.getV s))) (Q.tS (Q.getRest s) (itm (Q.getV s))) = true
  · rw [if_pos h4]
    refine ⟨h4, ?_⟩
    simp only
    unfold txtV
    rw [if_pos h4]
    have i := itm_rng (k := Q.getV s) (by omega) (by omega)
    have g := Q.get_bytes (Decidable.not_not.1 h1)
    have t := (Q.item_bytes i.1 i.2 (Decidable.not_not.1 h3)).2
    refine ba_eq ?_
    rw [ba_append, txt_list, List.append_assoc, t, g]
  · rw [if_neg h4] at h; simp at h
theorem read_back {k n : Int} {s : ByteArray} (h : chkV k n s = true) (b : ByteArray) : rd (txtV k n s ++ b) = ⟨k, n, s, b, 0⟩ := by
  have hk := chk_kind h
  have hm := chk_may h
  simp only [List.all_cons, List.all_nil, Bool.and_true, Bool.and_eq_true] at hm
  have e : (txtV k n s ++ b).data.toList = Q.numL k ++ (Q.itB ⟨itm k, n, s⟩ ++ b.data.toList) := by
    unfold txtV
    rw [if_pos h, ba_append, txt_list, List.append_assoc]
  obtain ⟨g1, g2, g3⟩ := Q.get_num (by omega) (by omega) e
  obtain ⟨-, t1, t2, t3⟩ := Q.item_read (x := ⟨itm k, n, s⟩) hm.2 g3
  simp only at t1 t2 t3
  have t4 := congrArg It.n t2
  have t5 := congrArg It.s t2
  simp only at t4 t5
  unfold rd
  rw [if_neg (fun e => e g1), g2, if_neg (by omega), if_neg (fun e => e t1), t4, t5, if_pos h, ba_eq t3]
theorem txt_size {k n : Int} {s : ByteArray} (h : chkV k n s = true) : (txtV k n s).size ≤ 131088 := by
  have := Q.flat_len _ (chk_may h)
  unfold txtV
  rw [if_pos h]
  unfold txt
  rw [Lib.size_eq]
  simpa using this
end Go.Proofs.YtfbhalkiilbcoaaGreatDoor.V
