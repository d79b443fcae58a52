/- one: a walk. -/
import Derived.Test.YtbekpemidpngaaaGreatDoorZk5
import Derived.Test.YtbekpemidpngaaaGreatDoorZk0
import Derived.Lib.OthersKept
import Derived.Lib.FrozenHead2
import Derived.Test.YtbekpemidpngaaaGreatDoorZk1
namespace Go.Proofs.YtbekpemidpngaaaGreatDoor
open Go.RowKit

theorem results_tc {fn : Func} {p q : Tmp} {ty : TypeId} (h : fn.results = #[.tmp q, .cell p ty]) (tmps : Array Value) (P : Program) (w : World) :
    (results fn tmps).run P w = ((asAddr (tmps.getD p undef)).run P w).andThen fun a w₁ => ((loadVar ty a).run P w₁).andThen fun v w₂ => .ok (.tuple #[tmps.getD q undef, v]) w₂ := by
  simp only [results, h]
  simp [Sem.run_bind, Result.andThen]
theorem Sr.setf {g : Nat} (w : World) (j : Nat) (u : Value) : Sr g w (w.setCell ⟨g, j, none⟩ u) := (Sr.refl g w).set (.inl rfl) j u
theorem row_set {w : World} {sz : Nat} {a : Option Addr} {n c : Nat} {xs : List Value} (hr : IsRow w sz (.slice a n c) n xs) {g : Nat} (hn : ∀ d, a = some d → d.block ≠ g) (j : Nat) (u : Value) : IsRow (w.setCell ⟨g, j, none⟩ u) sz (.slice a n c) n xs := (Sr.setf w j u).row hr hn
theorem row_v1 {w : World} {g : Nat} {k n : Int} {s : ByteArray} {ty : TypeId} {z : Nat × Nat} (h : w.heap[g]? = some (.cells #[.int .i64 k, .int .i64 n, .string s] ty z)) : IsRow w 3 (.slice (some ⟨g, 0, none⟩) 1 1) 1 (itCells [⟨k, n, s⟩]) := by
  refine ⟨rfl, .inr ⟨g, 0, 1, rfl, (Array.getElem?_eq_some_iff.1 h).1, Nat.le_refl _, by decide, fun j u hu => ?_⟩⟩
  rw [Nat.zero_add, Lib.cell_of_heap h]
  have e : itCells [⟨k, n, s⟩] = [.int .i64 k, .int .i64 n, .string s] := rfl
  rw [e] at hu
  rw [← hu]
  simp
def FrA (B : Nat) (a : Option Addr) : Prop := ∀ d, a = some d → B ≤ d.block
/-- The one value that is asked so, or what is wrong. -/
def oneR (o : Int) : Pc → List It × Int × Int
  | .lit p k n s => if tkB o k then ([⟨k, n, s⟩], 0, 0) else ([], p, 8)
  | x => ([], x.at, 3)
def OneQ (w0 : World) (R : Nat) (T : List Ft) (z : Int) (r : List It × Int × Int) (w : World) (e : Ending) (w' : World) : Prop := ∃ a c, e = .returned (.tuple #[.slice a r.1.length c, ftV r.2.1 r.2.2]) ∧ IsRow w' 3 (.slice a r.1.length c) r.1.length (itCells r.1) ∧ FrA w.heap.size a ∧ Sr R w w' ∧ Rd w0 R T z w'
set_option maxRecDepth 100000 in
set_option maxHeartbeats 2000000 in
theorem one_any (w0 : World) (R : Nat) (l : List Ft) (z o : Int) (w : World) (h0 : Sr R w0 w) (h : Rd w0 R l z w) (hR : R < w0.heap.size) (hl : l.length ≤ 1000000) :
    Calls Tryz.prog 139 #[.pointer (some ⟨R, 0, none⟩), .int .i64 o] w fun e w' => OneQ w0 R l.tail z (oneR o (pcF l z)) w e w' := by
  have HRl : Hid (R < w.heap.size) := Nat.lt_of_lt_of_le hR h0.size
  have HNx : Hid (∀ W, Sr R w0 W → Rd w0 R l z W → Calls Tryz.prog 71 #[.pointer (some ⟨R, 0, none⟩)] W fun e w' => e = .returned (pcF l z).v ∧ Sr R W w' ∧ Rd w0 R l.tail z w') := fun W a b => next_any w0 R l z W a b hl
  have HW : Hid (∀ (x : Pc) (c : Int) W, Calls Tryz.prog 106 #[x.v, .int .i64 c] W fun e w' => e = .returned (ftV x.at c) ∧ Below W.heap.size W w') := fun x c W => wrong_any x c W
  have HTk : Hid (∀ (k : Int) W, Calls Tryz.prog 82 #[.int .i64 o, .int .i64 k] W fun e w' => e = .returned (.bool (tkB o k)) ∧ w' = W) := fun k W => takes_any o k W
  have H0 : Hid (Sr R w0 w) := h0
  have HR0 : Hid (Rd w0 R l z w) := h
  clear h0 h hl hR
  obtain ⟨RR, HRR⟩ : ∃ RR, Hid (oneR o (pcF l z) = RR) := ⟨_, rfl⟩
  rw [HRR.out]
  generalize pcF l z = x at *
  generalize l.tail = T at *
  obtain ⟨w1, hw1⟩ : ∃ w1, w1 = w.alloc (.cells #[.int .i64 0, .int .i64 0] 90) := ⟨_, rfl⟩
  have B1 : Hid (Sr R w w1) := by show Sr _ _ _; rw [hw1]; exact Sr.of (al_f _ _)
  have hn1 : w1.heap[w.heap.size]? = some (.cells #[.int .i64 0, .int .i64 0] 90 (0, 0)) := by rw [hw1]; exact nw_at _ _
  have N1 : Hid (R < w.heap.size) := HRl.out
  have C1 : Hid (∀ W, Sr R w1 W → W.heap[w.heap.size]? = some (.cells #[.int .i64 0, .int .i64 0] 90 (0, 0))) := fun W h => h.box hn1 (Nat.ne_of_gt N1.out)
  clear hn1
  have hx1 : w1.heap.size = w.heap.size + 1 := by rw [hw1]; simp
  have HR1 : Hid (Rd w0 R l z w1) := by show Rd _ _ _ _ _; rw [hw1]; exact HR0.out.al _
  go_enter Tryz.func139, Tryz.ntmps139
  go_wp2_with fail
  rw [← hw1]
  clear hw1
  refine (HNx.out _ (H0.out.trans B1.out) HR1.out).mono ?_
  rintro e w2 ⟨rfl, hb, hrd⟩
  have B2 : Hid (Sr R w1 w2) := hb
  clear hb 
  have HR2 : Hid (Rd w0 R T z w2) := hrd
  clear hrd HNx
  cases x with
  | word p s =>
    have ha := ta_word_literal p s
    have HWx : Hid (∀ (c : Int) W, Calls Tryz.prog 106 #[.iface 160 (.agg #[.int .i64 p, .string s]), .int .i64 c] W fun e w' => e = .returned (ftV p c) ∧ Below W.heap.size W w') := fun c W => HW.out (.word p s) c W
    clear HW
    have hRe : RR = ([], p, 3) := HRR.out.symm
    subst hRe
    dsimp only [Pc.v]
    obtain ⟨w3, hw3⟩ : ∃ w3, w3 = w2.alloc (.cells #[.int .i64 0, .int .i64 0, .int .i64 0, .string ⟨#[]⟩] 163) := ⟨_, rfl⟩
    have B3 : Hid (Sr R w2 w3) := by show Sr _ _ _; rw [hw3]; exact Sr.of (al_f _ _)
    have hn3 : w3.heap[w2.heap.size]? = some (.cells #[.int .i64 0, .int .i64 0, .int .i64 0, .string ⟨#[]⟩] 163 (0, 0)) := by rw [hw3]; exact nw_at _ _
    have N3 : Hid (R < w2.heap.size) := (Nat.lt_of_lt_of_le HRl.out (B1.out.trans B2.out).size)
    have C3 : Hid (∀ W, Sr R w3 W → W.heap[w2.heap.size]? = some (.cells #[.int .i64 0, .int .i64 0, .int .i64 0, .string ⟨#[]⟩] 163 (0, 0))) := fun W h => h.box hn3 (Nat.ne_of_gt N3.out)
    clear hn3
    have HR3 : Hid (Rd w0 R T z w3) := by show Rd _ _ _ _ _; rw [hw3]; exact HR2.out.al _
    go_wp2_with fail
    rw [← hw3]
    clear hw3
    refine (HWx.out 3 w3).mono ?_
    rintro e w4 ⟨rfl, hb⟩
    have HRz : Hid (Rd w0 R T z w4) := HR3.out.below hb
    have B4 : Hid (Sr R w3 w4) := Sr.of hb
    clear hb 
    
    have hk := C1.out w4 ((B2.out.trans B3.out).trans B4.out)
    have c1_0 : w4.cell? ⟨w.heap.size, 0, none⟩ = some (.int .i64 0) := by rw [Lib.cell_of_heap hk]; rfl
    have c1_1 : w4.cell? ⟨w.heap.size, 1, none⟩ = some (.int .i64 0) := by rw [Lib.cell_of_heap hk]; rfl
    have fz1 : ∀ j, w4.frozen? ⟨w.heap.size, j, none⟩ = false := fun j => Lib.frozen_of_heap hk j
    clear hk
    go_wp2
    refine bodyPost_ret (v := .tuple #[.slice none 0 0, ftV p 3]) ?_ rfl ⟨none, 0, rfl, IsRow.nil _ _, (fun d hd => by cases hd), ((((B1.out.trans B2.out).trans B3.out).trans B4.out).set (.inr (Nat.le_refl _)) 0 _).set (.inr (Nat.le_refl _)) 1 _, (HRz.out.set HRl.out 0 _).set HRl.out 1 _⟩
    rw [results_tc rfl]; go_simp
  | mark p s =>
    have ha := ta_mark_literal p s
    have HWx : Hid (∀ (c : Int) W, Calls Tryz.prog 106 #[.iface 161 (.agg #[.int .i64 p, .string s]), .int .i64 c] W fun e w' => e = .returned (ftV p c) ∧ Below W.heap.size W w') := fun c W => HW.out (.mark p s) c W
    clear HW
    have hRe : RR = ([], p, 3) := HRR.out.symm
    subst hRe
    dsimp only [Pc.v]
    obtain ⟨w3, hw3⟩ : ∃ w3, w3 = w2.alloc (.cells #[.int .i64 0, .int .i64 0, .int .i64 0, .string ⟨#[]⟩] 163) := ⟨_, rfl⟩
    have B3 : Hid (Sr R w2 w3) := by show Sr _ _ _; rw [hw3]; exact Sr.of (al_f _ _)
    have hn3 : w3.heap[w2.heap.size]? = some (.cells #[.int .i64 0, .int .i64 0, .int .i64 0, .string ⟨#[]⟩] 163 (0, 0)) := by rw [hw3]; exact nw_at _ _
    have N3 : Hid (R < w2.heap.size) := (Nat.lt_of_lt_of_le HRl.out (B1.out.trans B2.out).size)
    have C3 : Hid (∀ W, Sr R w3 W → W.heap[w2.heap.size]? = some (.cells #[.int .i64 0, .int .i64 0, .int .i64 0, .string ⟨#[]⟩] 163 (0, 0))) := fun W h => h.box hn3 (Nat.ne_of_gt N3.out)
    clear hn3
    have HR3 : Hid (Rd w0 R T z w3) := by show Rd _ _ _ _ _; rw [hw3]; exact HR2.out.al _
    go_wp2_with fail
    rw [← hw3]
    clear hw3
    refine (HWx.out 3 w3).mono ?_
    rintro e w4 ⟨rfl, hb⟩
    have HRz : Hid (Rd w0 R T z w4) := HR3.out.below hb
    have B4 : Hid (Sr R w3 w4) := Sr.of hb
    clear hb 
    
    have hk := C1.out w4 ((B2.out.trans B3.out).trans B4.out)
    have c1_0 : w4.cell? ⟨w.heap.size, 0, none⟩ = some (.int .i64 0) := by rw [Lib.cell_of_heap hk]; rfl
    have c1_1 : w4.cell? ⟨w.heap.size, 1, none⟩ = some (.int .i64 0) := by rw [Lib.cell_of_heap hk]; rfl
    have fz1 : ∀ j, w4.frozen? ⟨w.heap.size, j, none⟩ = false := fun j => Lib.frozen_of_heap hk j
    clear hk
    go_wp2
    refine bodyPost_ret (v := .tuple #[.slice none 0 0, ftV p 3]) ?_ rfl ⟨none, 0, rfl, IsRow.nil _ _, (fun d hd => by cases hd), ((((B1.out.trans B2.out).trans B3.out).trans B4.out).set (.inr (Nat.le_refl _)) 0 _).set (.inr (Nat.le_refl _)) 1 _, (HRz.out.set HRl.out 0 _).set HRl.out 1 _⟩
    rw [results_tc rfl]; go_simp
  | lit p k n s =>
    have ha := ta_literal_literal p k n s
    have HWx : Hid (∀ (c : Int) W, Calls Tryz.prog 106 #[.iface 163 (.agg #[.int .i64 p, .int .i64 k, .int .i64 n, .string s]), .int .i64 c] W fun e w' => e = .returned (ftV p c) ∧ Below W.heap.size W w') := fun c W => HW.out (.lit p k n s) c W
    clear HW
    dsimp only [Pc.v]
    obtain ⟨w3, hw3⟩ : ∃ w3, w3 = w2.alloc (.cells #[.int .i64 p, .int .i64 k, .int .i64 n, .string s] 163) := ⟨_, rfl⟩
    have B3 : Hid (Sr R w2 w3) := by show Sr _ _ _; rw [hw3]; exact Sr.of (al_f _ _)
    have hn3 : w3.heap[w2.heap.size]? = some (.cells #[.int .i64 p, .int .i64 k, .int .i64 n, .string s] 163 (0, 0)) := by rw [hw3]; exact nw_at _ _
    have N3 : Hid (R < w2.heap.size) := (Nat.lt_of_lt_of_le HRl.out (B1.out.trans B2.out).size)
    have C3 : Hid (∀ W, Sr R w3 W → W.heap[w2.heap.size]? = some (.cells #[.int .i64 p, .int .i64 k, .int .i64 n, .string s] 163 (0, 0))) := fun W h => h.box hn3 (Nat.ne_of_gt N3.out)
    clear hn3
    have HR3 : Hid (Rd w0 R T z w3) := by show Rd _ _ _ _ _; rw [hw3]; exact HR2.out.al _
    have hk := C3.out w3 (Sr.refl _ _)
    have c3_0 : w3.cell? ⟨w2.heap.size, 0, none⟩ = some (.int .i64 p) := by rw [Lib.cell_of_heap hk]; rfl
    have c3_1 : w3.cell? ⟨w2.heap.size, 1, none⟩ = some (.int .i64 k) := by rw [Lib.cell_of_heap hk]; rfl
    have c3_2 : w3.cell? ⟨w2.heap.size, 2, none⟩ = some (.int .i64 n) := by rw [Lib.cell_of_heap hk]; rfl
    have c3_3 : w3.cell? ⟨w2.heap.size, 3, none⟩ = some (.string s) := by rw [Lib.cell_of_heap hk]; rfl
    clear hk
    rw [hw3] at c3_0 c3_1 c3_2 c3_3
    go_wp2_with fail
    rw [← hw3]
    clear hw3
    refine (HTk.out k _).mono ?_
    rintro e w9 ⟨rfl, hw9⟩
    obtain rfl := hw9.symm
    have hRR : RR = if tkB o k then ([⟨k, n, s⟩], 0, 0) else ([], p, 8) := HRR.out.symm
    clear HTk HRR
    generalize tkB o k = X at *
    cases X
    · skip
      obtain rfl : RR = ([], p, 8) := hRR
      clear c3_0 c3_1 c3_2 c3_3
      go_wp2_with fail
      refine (HWx.out 8 w3).mono ?_
      rintro e w4 ⟨rfl, hb⟩
      have HRz : Hid (Rd w0 R T z w4) := HR3.out.below hb
      have B4 : Hid (Sr R w3 w4) := Sr.of hb
      clear hb 
      have hk := C1.out w4 ((B2.out.trans B3.out).trans B4.out)
      have c1_0 : w4.cell? ⟨w.heap.size, 0, none⟩ = some (.int .i64 0) := by rw [Lib.cell_of_heap hk]; rfl
      have c1_1 : w4.cell? ⟨w.heap.size, 1, none⟩ = some (.int .i64 0) := by rw [Lib.cell_of_heap hk]; rfl
      have fz1 : ∀ j, w4.frozen? ⟨w.heap.size, j, none⟩ = false := fun j => Lib.frozen_of_heap hk j
      clear hk
      go_wp2
      refine bodyPost_ret (v := .tuple #[.slice none 0 0, ftV p 8]) ?_ rfl ⟨none, 0, rfl, IsRow.nil _ _, (fun d hd => by cases hd), ((((B1.out.trans B2.out).trans B3.out).trans B4.out).set (.inr (Nat.le_refl _)) 0 _).set (.inr (Nat.le_refl _)) 1 _, (HRz.out.set HRl.out 0 _).set HRl.out 1 _⟩
      rw [results_tc rfl]; go_simp
    · obtain rfl : RR = ([⟨k, n, s⟩], 0, 0) := hRR
      clear c3_0 c3_1 c3_2 c3_3
      have hk := C3.out w3 (Sr.refl _ _)
      have c3_0 : w3.cell? ⟨w2.heap.size, 0, none⟩ = some (.int .i64 p) := by rw [Lib.cell_of_heap hk]; rfl
      have c3_1 : w3.cell? ⟨w2.heap.size, 1, none⟩ = some (.int .i64 k) := by rw [Lib.cell_of_heap hk]; rfl
      have c3_2 : w3.cell? ⟨w2.heap.size, 2, none⟩ = some (.int .i64 n) := by rw [Lib.cell_of_heap hk]; rfl
      have c3_3 : w3.cell? ⟨w2.heap.size, 3, none⟩ = some (.string s) := by rw [Lib.cell_of_heap hk]; rfl
      clear hk
      obtain ⟨w4, hw4⟩ : ∃ w4, w4 = w3.alloc (.cells #[.int .i64 k, .int .i64 n, .string s] 54) := ⟨_, rfl⟩
      have B4 : Hid (Sr R w3 w4) := by show Sr _ _ _; rw [hw4]; exact Sr.of (al_f _ _)
      have hn4 : w4.heap[w3.heap.size]? = some (.cells #[.int .i64 k, .int .i64 n, .string s] 54 (0, 0)) := by rw [hw4]; exact nw_at _ _
      have N4 : Hid (R < w3.heap.size) := (Nat.lt_of_lt_of_le HRl.out ((B1.out.trans B2.out).trans B3.out).size)
      have C4 : Hid (∀ W, Sr R w4 W → W.heap[w3.heap.size]? = some (.cells #[.int .i64 k, .int .i64 n, .string s] 54 (0, 0))) := fun W h => h.box hn4 (Nat.ne_of_gt N4.out)
      clear hn4
      have hk := C1.out w4 ((B2.out.trans B3.out).trans B4.out)
      have c1_0 : w4.cell? ⟨w.heap.size, 0, none⟩ = some (.int .i64 0) := by rw [Lib.cell_of_heap hk]; rfl
      have c1_1 : w4.cell? ⟨w.heap.size, 1, none⟩ = some (.int .i64 0) := by rw [Lib.cell_of_heap hk]; rfl
      have fz1 : ∀ j, w4.frozen? ⟨w.heap.size, j, none⟩ = false := fun j => Lib.frozen_of_heap hk j
      clear hk
      have HR4 : Hid (Rd w0 R T z w4) := by show Rd _ _ _ _ _; rw [hw4]; exact HR3.out.al _
      have hr4 : IsRow w4 3 (.slice (some ⟨w3.heap.size, 0, none⟩) 1 1) 1 (itCells [⟨k, n, s⟩]) := row_v1 (C4.out _ (Sr.refl _ _))
      have hlt : w.heap.size < w3.heap.size := Nat.lt_of_lt_of_le (by rw [hx1]; exact Nat.lt_succ_self _) (B2.out.trans B3.out).size
      have hne : ∀ d, (some (⟨w3.heap.size, 0, none⟩ : Addr)) = some d → d.block ≠ w.heap.size := fun d hd => by cases hd; exact Nat.ne_of_gt hlt
      have HE : Hid (OneQ w0 R T z ([⟨k, n, s⟩], 0, 0) w (.returned (.tuple #[.slice (some ⟨w3.heap.size, 0, none⟩) 1 1, ftV 0 0])) ((w4.setCell ⟨w.heap.size, 0, none⟩ (.int .i64 0)).setCell ⟨w.heap.size, 1, none⟩ (.int .i64 0))) :=
        ⟨_, _, rfl, row_set (row_set hr4 hne 0 _) hne 1 _, fun d hd => by cases hd; exact Nat.le_of_lt hlt, ((((B1.out.trans B2.out).trans B3.out).trans B4.out).set (.inr (Nat.le_refl _)) 0 _).set (.inr (Nat.le_refl _)) 1 _, (HR4.out.set HRl.out 0 _).set HRl.out 1 _⟩
      clear hr4 hlt hne
      rw [hw4] at c1_0 c1_1 fz1
      rw [hw4] at HE
      clear hw4
      go_wp2
      refine bodyPost_ret (v := .tuple #[.slice (some ⟨w3.heap.size, 0, none⟩) 1 1, ftV 0 0]) ?_ rfl HE.out
      rw [results_tc rfl]; go_simp
  | fin p =>
    have ha := ta_end_literal p
    have HWx : Hid (∀ (c : Int) W, Calls Tryz.prog 106 #[.iface 158 (.agg #[.int .i64 p]), .int .i64 c] W fun e w' => e = .returned (ftV p c) ∧ Below W.heap.size W w') := fun c W => HW.out (.fin p) c W
    clear HW
    have hRe : RR = ([], p, 3) := HRR.out.symm
    subst hRe
    dsimp only [Pc.v]
    obtain ⟨w3, hw3⟩ : ∃ w3, w3 = w2.alloc (.cells #[.int .i64 0, .int .i64 0, .int .i64 0, .string ⟨#[]⟩] 163) := ⟨_, rfl⟩
    have B3 : Hid (Sr R w2 w3) := by show Sr _ _ _; rw [hw3]; exact Sr.of (al_f _ _)
    have hn3 : w3.heap[w2.heap.size]? = some (.cells #[.int .i64 0, .int .i64 0, .int .i64 0, .string ⟨#[]⟩] 163 (0, 0)) := by rw [hw3]; exact nw_at _ _
    have N3 : Hid (R < w2.heap.size) := (Nat.lt_of_lt_of_le HRl.out (B1.out.trans B2.out).size)
    have C3 : Hid (∀ W, Sr R w3 W → W.heap[w2.heap.size]? = some (.cells #[.int .i64 0, .int .i64 0, .int .i64 0, .string ⟨#[]⟩] 163 (0, 0))) := fun W h => h.box hn3 (Nat.ne_of_gt N3.out)
    clear hn3
    have HR3 : Hid (Rd w0 R T z w3) := by show Rd _ _ _ _ _; rw [hw3]; exact HR2.out.al _
    go_wp2_with fail
    rw [← hw3]
    clear hw3
    refine (HWx.out 3 w3).mono ?_
    rintro e w4 ⟨rfl, hb⟩
    have HRz : Hid (Rd w0 R T z w4) := HR3.out.below hb
    have B4 : Hid (Sr R w3 w4) := Sr.of hb
    clear hb 
    
    have hk := C1.out w4 ((B2.out.trans B3.out).trans B4.out)
    have c1_0 : w4.cell? ⟨w.heap.size, 0, none⟩ = some (.int .i64 0) := by rw [Lib.cell_of_heap hk]; rfl
    have c1_1 : w4.cell? ⟨w.heap.size, 1, none⟩ = some (.int .i64 0) := by rw [Lib.cell_of_heap hk]; rfl
    have fz1 : ∀ j, w4.frozen? ⟨w.heap.size, j, none⟩ = false := fun j => Lib.frozen_of_heap hk j
    clear hk
    go_wp2
    refine bodyPost_ret (v := .tuple #[.slice none 0 0, ftV p 3]) ?_ rfl ⟨none, 0, rfl, IsRow.nil _ _, (fun d hd => by cases hd), ((((B1.out.trans B2.out).trans B3.out).trans B4.out).set (.inr (Nat.le_refl _)) 0 _).set (.inr (Nat.le_refl _)) 1 _, (HRz.out.set HRl.out 0 _).set HRl.out 1 _⟩
    rw [results_tc rfl]; go_simp
end Go.Proofs.YtbekpemidpngaaaGreatDoor
/- A strings.Builder that the call itself has made: copyCheck, WriteByte, WriteString, WriteRune at this program, with the frame that reaches above it. -/
namespace Go.Proofs.YtbekpemidpngaaaGreatDoor.V
open Go.RowKit

theorem info_u8 : (Tryz.prog.info? 5).map (fun i => (i.zero, i.size, i.bytes)) = some (some (.int .u8 0), 1, 1) := by kernel_rfl
theorem bSize : (Tryz.prog.info? 126).map (·.size) = some 2 := by kernel_rfl
theorem bLies : liesAt Tryz.prog Tryz.prog.depth 126 (2 / Tryz.prog.cellsOf 126) 0 126 1 = true := by kernel_rfl

set_option maxRecDepth 100000 in
set_option maxHeartbeats 1000000 in
theorem copyCheck_used (b : Nat) (w : World) (h0 : w.cell? ⟨b, 0, none⟩ = some (.pointer (some ⟨b, 0, none⟩))) :
    Calls Tryz.prog 113 #[.pointer (some ⟨b, 0, none⟩)] w fun e w' => e = .returned (.tuple #[]) ∧ w' = w := by
  obtain ⟨j, hj, _⟩ := Option.map_eq_some_iff.1 bSize
  go_enter Tryz.func113, Tryz.ntmps113
  go_wp2
  rw [Lib.run_neq_ptr_same w _ Tryz.underlying123 hj]
  go_wp2
  go_end0
  exact ⟨rfl, rfl⟩

set_option maxRecDepth 100000 in
set_option maxHeartbeats 1000000 in
theorem copyCheck_fresh (b : Nat) (w : World) (h0 : w.cell? ⟨b, 0, none⟩ = some (.pointer none)) (hsh : w.shape? b = some (126, 2)) (hfz : w.frozen? ⟨b, 0, none⟩ = false) :
    Calls Tryz.prog 113 #[.pointer (some ⟨b, 0, none⟩)] w fun e w' => e = .returned (.tuple #[]) ∧ w' = w.setCell ⟨b, 0, none⟩ (.pointer (some ⟨b, 0, none⟩)) := by
  obtain ⟨j, hj, hjs⟩ := Option.map_eq_some_iff.1 bSize
  go_enter Tryz.func113, Tryz.ntmps113
  go_wp2
  rw [Lib.run_to_unsafe w ⟨b, 0, none⟩ Tryz.underlying123 Tryz.underlying193 hj (by rw [hjs]; decide) hsh (Nat.zero_lt_succ 1)]
  simp only [Result.andThen]
  rw [Oper.upon_value]
  go_wp2
  rw [run_callFunc_extern Tryz.func144 (by kernel_rfl) (by kernel_rfl) (by kernel_rfl) (e := Extern.AbiNoEscape.same) (by kernel_rfl)]
  rw [Lib.run_noEscape]
  simp only [Result.andThen]
  rw [Oper.upon_value]
  go_wp2
  rw [Lib.run_from_unsafe w ⟨b, 0, none⟩ Tryz.underlying193 Tryz.underlying123 hj hsh bLies]
  simp only [Result.andThen]
  rw [Oper.upon_value]
  go_wp2
  go_end0
  exact ⟨rfl, rfl⟩

theorem rowF_cells {w : World} {base : Nat} {e : TypeId} {sz : Nat} {v : Value} {n : Nat} {xs : List Value} (h : w.ownsRowF base e sz v n xs) (g : Nat) (hg : v.ownBlock = some g) : ∃ c fz, w.heap[g]? = some (.cells c e fz) := by
  rcases h.2 with ⟨hv, _⟩ | ⟨g', cap, cur, fz, hv, _, hgg, _⟩
  · rw [hv] at hg; cases hg
  · rw [hv] at hg
    cases hg
    exact ⟨_, _, hgg⟩
abbrev IsB (B b : Nat) (bs : List Value) (w : World) : Prop := Lib.IsBuilderF 126 5 B b bs w

theorem copyCheck_any (B b : Nat) (bs : List Value) (w : World) (h : IsB B b bs w) :
    Calls Tryz.prog 113 #[.pointer (some ⟨b, 0, none⟩)] w fun e w' => e = .returned (.tuple #[]) ∧ Lib.BuilderAtF 126 5 B b (.pointer (some ⟨b, 0, none⟩)) bs w' ∧ Below B w w' ∧ Lib.OthersKept 5 (some b) w w' := by
  rcases h with h | h
  · refine (copyCheck_fresh b w h.cell0 h.shape h.frozen0).mono ?_
    rintro e w' ⟨rfl, rfl⟩
    exact ⟨rfl, h.used _, (Below.refl B w).setCell (p := ⟨b, 0, none⟩) h.1 _, Lib.OthersKept.setCell (b := b) (Lib.OthersKept.refl _ _ _) ⟨b, 0, none⟩ rfl _⟩
  · refine (copyCheck_used b w h.cell0).mono ?_
    rintro e w' ⟨rfl, rfl⟩
    exact ⟨rfl, h, Below.refl B _, Lib.OthersKept.refl _ _ _⟩

set_option maxRecDepth 100000 in
set_option maxHeartbeats 1000000 in
theorem writeByte_k (B b : Nat) (bs : List Value) (c : Int) (w : World) (h : IsB B b bs w) (hlen : bs.length + 1 ≤ 140737488355328) (hBw : B ≤ w.heap.size) :
    Calls Tryz.prog 142 #[.pointer (some ⟨b, 0, none⟩), .int .u8 c] w fun e w' => e = .returned .nilIface ∧ IsB B b (bs ++ [.int .u8 c]) w' ∧ Below B w w' ∧ Lib.OthersKept 5 (some b) w w' := by
  obtain ⟨i0, hi, hz0, hz1, hz2⟩ := info_parts info_u8
  go_enter Tryz.func142, Tryz.ntmps142
  go_wp2_with (go_at_call 113; refine (copyCheck_any B b bs _ h).mono ?_)
  rintro e w1 ⟨rfl, h1, hb1, ok1⟩
  obtain ⟨hB, v, hbk, hown, hne⟩ := h1
  have c0 : w1.cell? ⟨b, 0, none⟩ = some (.pointer (some ⟨b, 0, none⟩)) := by rw [Lib.cell_of_heap hbk]; rfl
  have c1 : w1.cell? ⟨b, 1, none⟩ = some v := by rw [Lib.cell_of_heap hbk]; rfl
  go_wp2_with (at_builtin; refine wpList_append_ownF _ rfl _ _ 124 rfl B 5 i0 (.int .u8 0) 1 1 Tryz.underlying124 hi hz0 hz1 hz2 rfl (by decide) _ _ _ rfl (hown.alloc _) ⟨w1.heap.size, 0, none⟩ 1 1 [.int .u8 c] rfl rfl ?c1 ?c2 ?c3 ?c4 ?c5 ?_)
  case c1 =>
    intro j u hj
    match j, hj with
    | 0, hj => simp at hj; subst hj; simp [Addr.add]
  case c2 => intro u hu; simp at hu; subst hu; rfl
  case c3 => unfold maxLen; omega
  case c4 => omega
  case c5 => have := hb1.size; simp; omega
  intro v' w2 hown' hgrow _
  have hlt : b < w1.heap.size := (Array.getElem?_eq_some_iff.1 hbk).1
  have hb2 : w2.heap[b]? = some (.cells #[.pointer (some ⟨b, 0, none⟩), v] 126 (0, 0)) := by
    rw [hgrow.block b (by simp; omega) (fun e => hne e.symm), Lib.alloc_old w1 _ b hlt]
    exact hbk
  have d0 : w2.cell? ⟨b, 0, none⟩ = some (.pointer (some ⟨b, 0, none⟩)) := by rw [Lib.cell_of_heap hb2]; rfl
  have d1 : w2.cell? ⟨b, 1, none⟩ = some v := by rw [Lib.cell_of_heap hb2]; rfl
  have f1 : w2.frozen? ⟨b, 1, none⟩ = false := Lib.frozen_of_heap hb2 1
  obtain ⟨g, cap, rfl⟩ : ∃ g cap, v' = .slice (some ⟨g, 0, none⟩) (bs.length + 1) cap := by
    rcases hown'.2 with ⟨_, h0⟩ | ⟨g, cap, cur, fz, hv, _⟩
    · omega
    · exact ⟨g, cap, hv⟩
  go_wp2
  go_ret
  refine ⟨rfl, .inr ?_, ?_, ?_⟩
  · exact Lib.BuilderAtF.put (T := 126) (e := 5) hB hb2 (bs' := bs ++ [.int .u8 c]) (by simpa using hown') (by decide)
  · exact ((hb1.alloc (by have := hb1.size; omega) _).grown hgrow (by have := hb1.size; simp; omega) (fun k hk => (hown.lt k hk).1)).setCell (p := ⟨b, 1, none⟩) hB _
  · exact ((ok1.alloc _).grown hgrow (fun g hg => by obtain ⟨c, fz, h⟩ := rowF_cells hown g hg; exact ⟨c, fz, by rw [Lib.alloc_old w1 _ g (Array.getElem?_eq_some_iff.1 h).1]; exact h⟩)).setCell _ rfl _

set_option maxRecDepth 100000 in
set_option maxHeartbeats 1000000 in
theorem writeString_k (B b : Nat) (bs : List Value) (s : ByteArray) (w : World) (h : IsB B b bs w) (hlen : bs.length + s.size ≤ 140737488355328) (hBw : B ≤ w.heap.size) :
    Calls Tryz.prog 79 #[.pointer (some ⟨b, 0, none⟩), .string s] w fun e w' => e = .returned (.tuple #[.int .i64 s.size, .nilIface]) ∧ IsB B b (bs ++ Lib.strCells s) w' ∧ Below B w w' ∧ Lib.OthersKept 5 (some b) w w' := by
  obtain ⟨i0, hi, hz0, hz1, hz2⟩ := info_parts info_u8
  go_enter Tryz.func79, Tryz.ntmps79
  go_wp2_with (go_at_call 113; refine (copyCheck_any B b bs _ h).mono ?_)
  rintro e w1 ⟨rfl, h1, hb1, ok1⟩
  obtain ⟨hB, v, hbk, hown, hne⟩ := h1
  have c0 : w1.cell? ⟨b, 0, none⟩ = some (.pointer (some ⟨b, 0, none⟩)) := by rw [Lib.cell_of_heap hbk]; rfl
  have c1 : w1.cell? ⟨b, 1, none⟩ = some v := by rw [Lib.cell_of_heap hbk]; rfl
  go_wp2_with (at_builtin; refine Lib.wpList_append_own_stringF _ rfl _ _ 124 9 rfl B 5 i0 Tryz.underlying124 Tryz.underlying9 hi hz0 hz1 hz2 _ _ _ rfl hown s rfl ?c3 ?c4 ?c5 ?_)
  case c3 => unfold maxLen; omega
  case c4 => omega
  case c5 => have := hb1.size; omega
  intro v' w2 hown' hgrow _
  have hlt : b < w1.heap.size := (Array.getElem?_eq_some_iff.1 hbk).1
  have hb2 : w2.heap[b]? = some (.cells #[.pointer (some ⟨b, 0, none⟩), v] 126 (0, 0)) := by
    rw [hgrow.block b hlt (fun e => hne e.symm)]
    exact hbk
  have d0 : w2.cell? ⟨b, 0, none⟩ = some (.pointer (some ⟨b, 0, none⟩)) := by rw [Lib.cell_of_heap hb2]; rfl
  have d1 : w2.cell? ⟨b, 1, none⟩ = some v := by rw [Lib.cell_of_heap hb2]; rfl
  have f1 : w2.frozen? ⟨b, 1, none⟩ = false := Lib.frozen_of_heap hb2 1
  obtain ⟨ao, n', cap, rfl⟩ : ∃ ao n' cap, v' = .slice ao n' cap := by
    rcases hown'.2 with ⟨hv, _⟩ | ⟨g, cap, cur, fz, hv, _⟩
    · exact ⟨_, _, _, hv⟩
    · exact ⟨_, _, _, hv⟩
  go_wp2
  go_ret2
  refine ⟨rfl, .inr ?_, ?_, ?_⟩
  · exact Lib.BuilderAtF.put (T := 126) (e := 5) hB hb2 (bs' := bs ++ Lib.strCells s) (by simpa [Lib.strCells_length] using hown') (by decide)
  · exact (hb1.grown hgrow (by have := hb1.size; omega) (fun k hk => (hown.lt k hk).1)).setCell (p := ⟨b, 1, none⟩) hB _
  · exact (ok1.grown hgrow (fun g hg => rowF_cells hown g hg)).setCell _ rfl _

/-- What AppendRune leaves. -/
def ArPost (B : Nat) (xs : List Value) (w : World) (e : Ending) (w' : World) : Prop :=
  ∃ v, e = .returned v ∧ w'.ownsRowF B 5 1 v xs.length xs ∧ Below B w w' ∧ Lib.OthersKept 5 none w w'
end Go.Proofs.YtbekpemidpngaaaGreatDoor.V
/- strconv.FormatInt at base 16 of small numbers: walks. -/
namespace Go.Proofs.YtbekpemidpngaaaGreatDoor.V
open Go.RowKit

/-- The one cell of math/bits' table that base 16 reads. -/
def T16 (w : World) : Prop := w.cell? ⟨5, 15, none⟩ = some (.int .u8 4)
theorem T16_below {w w' : World} (h : T16 w) (hb : Below w.heap.size w w') : T16 w' :=
  (hb.cell (p := ⟨5, 15, none⟩) (World.block_lt_of_cell? _ _ h)).trans h

theorem pow2_16 (w : World) : Calls Tryz.prog 202 #[.int .i64 16] w fun e w' => e = .returned (.bool true) ∧ w' = w := by
  go_enter Tryz.func202, Tryz.ntmps202
  go_wp2
  go_ret
  exact ⟨rfl, rfl⟩
theorem tzkey_16 : IntKind.u64.wrap (bits BinOp.and IntKind.u64 16 (IntKind.u64.wrap (-16)) * 285870213051353865) / 288230376151711744 = 15 := by decide +kernel
theorem tz64_16 (w : World) (h : T16 w) : Calls Tryz.prog 212 #[.int .u64 16] w fun e w' => e = .returned (.int .i64 4) ∧ w' = w := by
  unfold T16 at h
  have k := tzkey_16
  go_enter Tryz.func212, Tryz.ntmps212
  go_wp2
  go_ret
  exact ⟨rfl, rfl⟩
theorem tz_16 (w : World) (h : T16 w) : Calls Tryz.prog 203 #[.int .u64 16] w fun e w' => e = .returned (.int .i64 4) ∧ w' = w := by
  go_enter Tryz.func203, Tryz.ntmps203
  go_wp2_with (go_at_call 212; refine (tz64_16 _ h).mono ?_; rintro e w' ⟨rfl, rfl⟩)
  go_ret
  exact ⟨rfl, rfl⟩

abbrev Z65 : Obj := .cells #[.int .u8 0, .int .u8 0, .int .u8 0, .int .u8 0, .int .u8 0, .int .u8 0, .int .u8 0, .int .u8 0, .int .u8 0, .int .u8 0, .int .u8 0, .int .u8 0, .int .u8 0, .int .u8 0, .int .u8 0, .int .u8 0, .int .u8 0, .int .u8 0, .int .u8 0, .int .u8 0, .int .u8 0, .int .u8 0, .int .u8 0, .int .u8 0, .int .u8 0, .int .u8 0, .int .u8 0, .int .u8 0, .int .u8 0, .int .u8 0, .int .u8 0, .int .u8 0, .int .u8 0, .int .u8 0, .int .u8 0, .int .u8 0, .int .u8 0, .int .u8 0, .int .u8 0, .int .u8 0, .int .u8 0, .int .u8 0, .int .u8 0, .int .u8 0, .int .u8 0, .int .u8 0, .int .u8 0, .int .u8 0, .int .u8 0, .int .u8 0, .int .u8 0, .int .u8 0, .int .u8 0, .int .u8 0, .int .u8 0, .int .u8 0, .int .u8 0, .int .u8 0, .int .u8 0, .int .u8 0, .int .u8 0, .int .u8 0, .int .u8 0, .int .u8 0, .int .u8 0] 243
abbrev DG : ByteArray := ⟨#[48, 49, 50, 51, 52, 53, 54, 55, 56, 57, 97, 98, 99, 100, 101, 102, 103, 104, 105, 106, 107, 108, 109, 110, 111, 112, 113, 114, 115, 116, 117, 118, 119, 120, 121, 122]⟩
/-- A digit of 0 to 9, a to z. -/
def dg (n : Nat) : UInt8 := DG.data.toList.getD n 0
theorem dg_at (n : Nat) (h : n < DG.size) : DG[n] = dg n := by
  unfold dg
  have e : n < DG.data.toList.length := h
  rw [List.getD_eq_getElem?_getD, List.getElem?_eq_getElem e]
  rfl
abbrev Z65x (x : Int) : Obj := .cells #[.int .u8 0, .int .u8 0, .int .u8 0, .int .u8 0, .int .u8 0, .int .u8 0, .int .u8 0, .int .u8 0, .int .u8 0, .int .u8 0, .int .u8 0, .int .u8 0, .int .u8 0, .int .u8 0, .int .u8 0, .int .u8 0, .int .u8 0, .int .u8 0, .int .u8 0, .int .u8 0, .int .u8 0, .int .u8 0, .int .u8 0, .int .u8 0, .int .u8 0, .int .u8 0, .int .u8 0, .int .u8 0, .int .u8 0, .int .u8 0, .int .u8 0, .int .u8 0, .int .u8 0, .int .u8 0, .int .u8 0, .int .u8 0, .int .u8 0, .int .u8 0, .int .u8 0, .int .u8 0, .int .u8 0, .int .u8 0, .int .u8 0, .int .u8 0, .int .u8 0, .int .u8 0, .int .u8 0, .int .u8 0, .int .u8 0, .int .u8 0, .int .u8 0, .int .u8 0, .int .u8 0, .int .u8 0, .int .u8 0, .int .u8 0, .int .u8 0, .int .u8 0, .int .u8 0, .int .u8 0, .int .u8 0, .int .u8 0, .int .u8 0, .int .u8 0, .int .u8 x] 243
theorem conv_last (w : World) (x : Int) : (convert 124 9 (.slice (some ⟨w.heap.size, 64, none⟩) 1 1)).run Tryz.prog (w.alloc (Z65x x)) = .ok (.string (strOfNums [x])) (w.alloc (Z65x x)) :=
  run_convert_bytes_arg (P := Tryz.prog) _ 124 5 Tryz.underlying124 Tryz.underlying5 w.heap.size 64 1 1 [x] rfl (fun i hi => by
    match i, hi with
    | 0, _ => simp) 9 Tryz.underlying9
set_option maxRecDepth 100000 in
set_option maxHeartbeats 2000000 in
theorem formatBits_small (n : Nat) (w : World) (hn : n < 16) (h : T16 w) :
    Calls Tryz.prog 183 #[.slice none 0 0, .int .u64 (n : Int), .int .i64 16, .bool false, .bool false] w fun e w' => e = .returned (.tuple #[.slice none 0 0, .string (strOfNums [((dg n).toNat : Int)])]) ∧ Below w.heap.size w w' := by
  have hT := T16_below h ((Below.refl _ _).alloc (Nat.le_refl _) Z65)
  go_enter Tryz.func183, Tryz.ntmps183
  go_wp2_with (first | (go_at_call 202; refine (pow2_16 _).mono ?_; rintro e w' ⟨rfl, rfl⟩) | (go_at_call 203; refine (tz_16 _ ?_).mono ?_; exact hT; rintro e w' ⟨rfl, rfl⟩))
  go_loopw [1, 13] (fun u i wr => u = .int .u64 (n : Int) ∧ i = .int .i64 65 ∧ wr = w.alloc Z65) (fun _ _ _ => 0)
  case atStart => exact ⟨rfl, rfl, rfl⟩
  case round =>
    obtain ⟨rfl, rfl, rfl⟩ := hrel
    have hd : decide ((16 : Int) ≤ n) = false := by simp; omega
    have hix : n < DG.size := by have : DG.size = 36 := rfl; omega
    have HD : Hid (((DG[n]).toNat : Int) = ((dg n).toNat : Int)) := by show _ = _; rw [dg_at n hix]
    go_wp2
    rw [conv_last]
    go_wp2
    go_ret2
    exact ⟨by rw [← HD.out]; rfl, (Below.refl _ _).alloc (Nat.le_refl _) _⟩
end Go.Proofs.YtbekpemidpngaaaGreatDoor.V
/- strconv.FormatInt of a digit at base 16, value.showRune: walks. -/
namespace Go.Proofs.YtbekpemidpngaaaGreatDoor.V
open Go.RowKit

theorem formatInt_i (n : Nat) (w : World) (hn : n < 16) (h : T16 w) :
    Calls Tryz.prog 164 #[.int .i64 (n : Int), .int .i64 16] w fun e w' => e = .returned (.string (strOfNums [((dg n).toNat : Int)])) ∧ Below w.heap.size w w' := by
  have hd : decide ((n : Int) < 0) = false := by simp
  go_enter Tryz.func164, Tryz.ntmps164
  go_wp2_with fail
  refine (formatBits_small n _ hn h).mono ?_
  rintro e w1 ⟨rfl, hb1⟩
  go_wp2
  go_ret
  exact ⟨rfl, hb1⟩
theorem formatInt_16 (n : Nat) (w : World) (hn : n < 16) (h : T16 w) :
    Calls Tryz.prog 165 #[.int .i64 (n : Int), .int .i64 16] w fun e w' => e = .returned (.string (strOfNums [((dg n).toNat : Int)])) ∧ Below w.heap.size w w' := by
  go_enter Tryz.func165, Tryz.ntmps165
  go_wp2_with fail
  refine (formatInt_i n _ hn h).mono ?_
  rintro e w1 ⟨rfl, hb1⟩
  go_wp2
  go_ret
  exact ⟨rfl, hb1⟩

/-- Bytes as a text. -/
def str (l : List UInt8) : ByteArray := ⟨l.toArray⟩
theorem str_data (l : List UInt8) : (str l).data.toList = l := by simp [str]
theorem str_of (s : ByteArray) : str s.data.toList = s := by cases s; simp [str]
theorem str_size (l : List UInt8) : (str l).size = l.length := by simp [str, ByteArray.size]
theorem ba_eq {a b : ByteArray} (h : a.data.toList = b.data.toList) : a = b := by
  cases a; cases b
  simp only [Array.toList_inj] at h
  rw [h]
theorem ba_append (a b : ByteArray) : (a ++ b).data.toList = a.data.toList ++ b.data.toList := by
  rw [ByteArray.data_append, Array.toList_append]

/-- How a rune is shown (those of 16 to 31 and 127 are left out here). -/
def showR (c : Nat) : List UInt8 :=
  if c = 34 then [92, 34] else if c = 92 then [92, 92] else if c = 10 then [92, 110] else if c = 9 then [92, 116] else if c = 13 then [92, 114]
  else if c < 16 then [92, 117, 123, dg c, 125] else enc c
set_option maxRecDepth 100000 in
theorem enc_str (c : Nat) : Utf8.encode (c : Int) = str (enc c) := (str_of (Utf8.encode (c : Int))).symm
theorem num1 (x : UInt8) : strOfNums [(x.toNat : Int)] = str [x] := by
  unfold strOfNums str
  simp
theorem brace (x : UInt8) : ((⟨#[92, 117, 123]⟩ : ByteArray) ++ str [x]) ++ (⟨#[125]⟩ : ByteArray) = str [92, 117, 123, x, 125] := ba_eq (by
  rw [ba_append, ba_append, str_data, str_data]
  rfl)

set_option maxRecDepth 100000 in
set_option maxHeartbeats 2000000 in
theorem showRune_any (c : Nat) (w : World) (hs : scal c) (ho : c < 16 ∨ (32 ≤ c ∧ c ≠ 127)) (hT : T16 w) :
    Calls Tryz.prog 143 #[.int .i32 (c : Int)] w fun e w' => e = .returned (.string (str (showR c))) ∧ Below w.heap.size w w' := by
  have hc : c ≤ 1114111 := by unfold scal at hs; omega
  by_cases h1 : c = 34
  · subst h1
    go_enter Tryz.func143, Tryz.ntmps143
    go_wp2
    go_ret
    exact ⟨rfl, Below.refl _ _⟩
  by_cases h2 : c = 92
  · subst h2
    go_enter Tryz.func143, Tryz.ntmps143
    go_wp2
    go_ret
    exact ⟨rfl, Below.refl _ _⟩
  by_cases h3 : c = 10
  · subst h3
    go_enter Tryz.func143, Tryz.ntmps143
    go_wp2
    go_ret
    exact ⟨rfl, Below.refl _ _⟩
  by_cases h4 : c = 9
  · subst h4
    go_enter Tryz.func143, Tryz.ntmps143
    go_wp2
    go_ret
    exact ⟨rfl, Below.refl _ _⟩
  by_cases h5 : c = 13
  · subst h5
    go_enter Tryz.func143, Tryz.ntmps143
    go_wp2
    go_ret
    exact ⟨rfl, Below.refl _ _⟩
  have k1 : ((c : Int) == 34) = false := by rw [beq_eq_false_iff_ne]; omega
  have k2 : ((c : Int) == 92) = false := by rw [beq_eq_false_iff_ne]; omega
  have k3 : ((c : Int) == 10) = false := by rw [beq_eq_false_iff_ne]; omega
  have k4 : ((c : Int) == 9) = false := by rw [beq_eq_false_iff_ne]; omega
  have k5 : ((c : Int) == 13) = false := by rw [beq_eq_false_iff_ne]; omega
  by_cases h6 : c < 16
  · have k6 : decide ((c : Int) < 32) = true := by simp; omega
    have HR : Hid (str (showR c) = str [92, 117, 123, dg c, 125]) := by show _ = _; rw [showR, if_neg h1, if_neg h2, if_neg h3, if_neg h4, if_neg h5, if_pos h6]
    have HB : Hid (((⟨#[92, 117, 123]⟩ : ByteArray) ++ str [dg c]) ++ (⟨#[125]⟩ : ByteArray) = str [92, 117, 123, dg c, 125]) := brace _
    have hz : (str [dg c]).size = 1 := rfl
    rw [HR.out]
    clear HR h1 h2 h3 h4 h5 ho
    go_enter Tryz.func143, Tryz.ntmps143
    go_wp2_with fail
    refine (formatInt_16 c _ h6 hT).mono ?_
    rintro e w1 ⟨rfl, hb1⟩
    rw [num1]
    generalize str [dg c] = x at *
    go_wp2
    go_ret
    exact ⟨by rw [← HB.out]; rfl, hb1⟩
  · have k6 : decide ((c : Int) < 32) = false := by simp; omega
    have k7 : ((c : Int) == 127) = false := by rw [beq_eq_false_iff_ne]; omega
    have HR : Hid (Utf8.encode (c : Int) = str (showR c)) := by show _ = _; rw [showR, if_neg h1, if_neg h2, if_neg h3, if_neg h4, if_neg h5, if_neg h6, enc_str]
    clear h1 h2 h3 h4 h5 ho
    go_enter Tryz.func143, Tryz.ntmps143
    go_wp2
    go_ret
    exact ⟨by rw [← HR.out]; rfl, Below.refl _ _⟩
end Go.Proofs.YtbekpemidpngaaaGreatDoor.V
/- value.Check: its walk. -/
namespace Go.Proofs.YtbekpemidpngaaaGreatDoor.V
open Go.RowKit

abbrev UT (w : World) : Prop := Lib.Utf8Tabs 0 1 w
/-- A value, as the model has it. -/
abbrev vv (k n : Int) (s : ByteArray) : Value := .agg #[.int .i64 k, .int .i64 n, .string s]
/-- May it be? -/
def chkV (k n : Int) (s : ByteArray) : Bool :=
  if k = 1 then decide (s.size = 0) && decide (-9007199254740991 ≤ n ∧ n ≤ 9007199254740991)
  else if k = 2 then decide (n = 0) && (decide (s.size ≤ 200) && Lib.validD s.data.toList)
  else if k = 3 then decide (s.size = 0) && decide (n = 0 ∨ n = 1)
  else if k = 4 then decide (n = 0) && decide (s.size ≤ 200)
  else false
theorem empty_is (B : ByteArray) (h : B.size = 0) : B.toList.isEmpty = true := by
  rw [ByteArray.toList_eq]
  have : B.data.toList = [] := List.eq_nil_of_length_eq_zero (by rw [Array.length_toList]; exact h)
  rw [this]; rfl
theorem empty_not (B : ByteArray) (h : B.size ≠ 0) : B.toList.isEmpty = false := by
  rw [ByteArray.toList_eq]
  cases e : B.data.toList with
  | nil => exact absurd (by have := congrArg List.length e; rwa [Array.length_toList] at this) h
  | cons b l => rfl
set_option maxRecDepth 100000 in
set_option maxHeartbeats 2000000 in
theorem check_any (k n : Int) (s : ByteArray) (w : World) (hs : s.size ≤ 140737488355328) (hT : UT w) :
    Calls Tryz.prog 64 #[vv k n s] w fun e w' => e = .returned (.bool (chkV k n s)) ∧ Below w.heap.size w w' := by
  obtain ⟨C, HC⟩ : ∃ C, Hid (chkV k n s = C) := ⟨_, rfl⟩
  rw [HC.out]
  have hb1 : Below w.heap.size w (w.alloc (.cells #[.int .i64 k, .int .i64 n, .string s] 54)) := (Below.refl _ _).alloc (Nat.le_refl _) _
  by_cases e1 : k = 1
  · subst e1
    have hc := HC.out
    simp only [chkV, if_true] at hc
    by_cases h0 : s.size = 0
    · have he := empty_is s h0
      by_cases ha : -9007199254740991 ≤ n
      · have ha' : decide (-9007199254740991 ≤ n) = true := by simpa using ha
        have HR : Hid (decide (n ≤ 9007199254740991) = C) := by show _ = _; rw [← hc, h0]; simp [ha]
        clear hc HC
        go_enter Tryz.func64, Tryz.ntmps64
        go_wp2
        go_ret
        exact ⟨by rw [← HR.out]; rfl, hb1⟩
      · have ha' : decide (-9007199254740991 ≤ n) = false := by simpa using ha
        have HR : Hid (false = C) := by show _ = _; rw [← hc, h0]; simp [ha]
        clear hc HC
        go_enter Tryz.func64, Tryz.ntmps64
        go_wp2
        go_ret
        exact ⟨by rw [← HR.out]; rfl, hb1⟩
    · have he := empty_not s h0
      have HR : Hid (false = C) := by show _ = _; rw [← hc]; simp [h0]
      clear hc HC
      go_enter Tryz.func64, Tryz.ntmps64
      go_wp2
      go_ret
      exact ⟨by rw [← HR.out]; rfl, hb1⟩
  have f1 : (k == 1) = false := by rw [beq_eq_false_iff_ne]; exact e1
  by_cases e2 : k = 2
  · subst e2
    have hc := HC.out
    simp only [chkV, e1, if_false, if_true] at hc
    by_cases h0 : n = 0
    · subst h0
      by_cases h2 : s.size ≤ 200
      · have h2' : decide ((s.size : Int) ≤ 200) = true := by simp; omega
        have HR : Hid (Lib.validD s.data.toList = C) := by show _ = _; rw [← hc]; simp [h2]
        clear hc HC e1
        go_enter Tryz.func64, Tryz.ntmps64
        go_wp2_with fail
        refine (Tryz.utf8_ValidString s _ (by omega) (Utf8Tabs_below hT hb1)).mono ?_
        rintro e w1 ⟨rfl, hb2⟩
        rw [HR.out]
        have hb3 : Hid (Below w.heap.size w w1) := hb1.trans (hb2.mono hb1.size)
        clear hb1 hb2
        go_wp2
        go_ret
        exact ⟨rfl, hb3.out⟩
      · have h2' : decide ((s.size : Int) ≤ 200) = false := by simp; omega
        have HR : Hid (false = C) := by show _ = _; rw [← hc]; simp [h2]
        clear hc HC e1
        go_enter Tryz.func64, Tryz.ntmps64
        go_wp2
        go_ret
        exact ⟨by rw [← HR.out]; rfl, hb1⟩
    · have h0' : (n == 0) = false := by rw [beq_eq_false_iff_ne]; exact h0
      have HR : Hid (false = C) := by show _ = _; rw [← hc]; simp [h0]
      clear hc HC e1
      go_enter Tryz.func64, Tryz.ntmps64
      go_wp2
      go_ret
      exact ⟨by rw [← HR.out]; rfl, hb1⟩
  have f2 : (k == 2) = false := by rw [beq_eq_false_iff_ne]; exact e2
  by_cases e3 : k = 3
  · subst e3
    have hc := HC.out
    simp only [chkV, e1, e2, if_false, if_true] at hc
    by_cases h0 : s.size = 0
    · have he := empty_is s h0
      by_cases hn : n = 0
      · subst hn
        have HR : Hid (true = C) := by show _ = _; rw [← hc, h0]; simp
        clear hc HC e1 e2
        go_enter Tryz.func64, Tryz.ntmps64
        go_wp2
        go_ret
        exact ⟨by rw [← HR.out]; rfl, hb1⟩
      · have hn' : (n == 0) = false := by rw [beq_eq_false_iff_ne]; exact hn
        have HR : Hid ((n == 1) = C) := by
          show _ = _
          rw [← hc, h0, Bool.eq_iff_iff]
          simp [hn]
        clear hc HC e1 e2
        go_enter Tryz.func64, Tryz.ntmps64
        go_wp2
        go_ret
        exact ⟨by rw [← HR.out]; rfl, hb1⟩
    · have he := empty_not s h0
      have HR : Hid (false = C) := by show _ = _; rw [← hc]; simp [h0]
      clear hc HC e1 e2
      go_enter Tryz.func64, Tryz.ntmps64
      go_wp2
      go_ret
      exact ⟨by rw [← HR.out]; rfl, hb1⟩
  have f3 : (k == 3) = false := by rw [beq_eq_false_iff_ne]; exact e3
  by_cases e4 : k = 4
  · subst e4
    have hc := HC.out
    simp only [chkV, e1, e2, e3, if_false, if_true] at hc
    by_cases h0 : n = 0
    · subst h0
      have HR : Hid (decide (s.size ≤ 200) = C) := by show _ = _; rw [← hc]; simp
      have HQ : Hid (decide ((s.size : Int) ≤ 200) = decide (s.size ≤ 200)) := by show _ = _; rw [Bool.eq_iff_iff]; simp; omega
      clear hc HC e1 e2 e3
      go_enter Tryz.func64, Tryz.ntmps64
      go_wp2
      go_ret
      exact ⟨by rw [← HR.out]; first | rfl | (rw [← HQ.out]; rfl), hb1⟩
    · have h0' : (n == 0) = false := by rw [beq_eq_false_iff_ne]; exact h0
      have HR : Hid (false = C) := by show _ = _; rw [← hc]; simp [h0]
      clear hc HC e1 e2 e3
      go_enter Tryz.func64, Tryz.ntmps64
      go_wp2
      go_ret
      exact ⟨by rw [← HR.out]; rfl, hb1⟩
  have f4 : (k == 4) = false := by rw [beq_eq_false_iff_ne]; exact e4
  have HR : Hid (false = C) := by show _ = _; rw [← HC.out, chkV, if_neg e1, if_neg e2, if_neg e3, if_neg e4]
  clear HC e1 e2 e3 e4
  go_enter Tryz.func64, Tryz.ntmps64
  go_wp2
  go_ret
  exact ⟨by rw [← HR.out]; rfl, hb1⟩
end Go.Proofs.YtbekpemidpngaaaGreatDoor.V
