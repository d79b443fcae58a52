/- another, where it reads one: a walk. -/
import Derived.Test.YtbekpemidpngaaaGreatDoorZk8
import Derived.Test.YtbekpemidpngaaaGreatDoorZk7
import Derived.Shelf.Small.Strs
import Derived.Shelf.LaysM
import Derived.Shelf.Strconv.Itoa3
import Derived.Test.YtbekpemidpngaaaGreatDoorProg
namespace Go.Proofs.YtbekpemidpngaaaGreatDoor
open Go.RowKit

theorem results_cc {fn : Func} {p q : Tmp} {t u : TypeId} (h : fn.results = #[.cell p t, .cell q u]) (tmps : Array Value) (P : Program) (w : World) :
    (results fn tmps).run P w = ((asAddr (tmps.getD p undef)).run P w).andThen fun a w₁ => ((loadVar t a).run P w₁).andThen fun v w₂ => ((asAddr (tmps.getD q undef)).run P w₂).andThen fun b w₃ => ((loadVar u b).run P w₃).andThen fun x w₄ => .ok (.tuple #[v, x]) w₄ := by
  simp only [results, h]
  simp [Sem.run_bind, Result.andThen]
set_option maxRecDepth 100000 in
set_option maxHeartbeats 4000000 in
theorem another_ok (w0 : World) (R : Nat) (l : List Ft) (z : Int) (a : Option Addr) (c : Nat) (acc : List It) (p k n : Int) (s : ByteArray) (w : World) (h0 : Sr R w0 w) (h : Rd w0 R l z w) (hR : R < w0.heap.size) (hl : l.length ≤ 1000000) (hp : pcF l z = .lit p k n s)
    (hacc : IsRow w 3 (.slice a acc.length c) acc.length (itCells acc)) (ha : ∀ d, a = some d → d.block ≠ R) (hk : ∀ y ∈ acc, y.k = k) (hin : inV acc ⟨k, n, s⟩ = false) (h16 : acc.length < 16) :
    Calls Tryz.prog 162 #[.pointer (some ⟨R, 0, none⟩), .slice a acc.length c] w fun e w' => e = .returned (.tuple #[itV ⟨k, n, s⟩, ftV 0 0]) ∧ Sr R w w' ∧ Rd w0 R l.tail z w' := by
  have HRl : Hid (R < w.heap.size) := Nat.lt_of_lt_of_le hR h0.size
  have HNx : Hid (∀ W, Sr R w0 W → Rd w0 R l z W → Calls Tryz.prog 71 #[.pointer (some ⟨R, 0, none⟩)] W fun e w' => e = .returned (.iface 163 (.agg #[.int .i64 p, .int .i64 k, .int .i64 n, .string s])) ∧ Sr R W w' ∧ Rd w0 R l.tail z w') := fun W a b => by
    have := next_any w0 R l z W a b hl
    unfold NxP at this
    rw [hp] at this
    exact this
  have HAc : Hid (∀ W, Sr R w W → IsRow W 3 (.slice a acc.length c) acc.length (itCells acc)) := fun W hW => hW.row hacc ha
  have HCo : Hid (∀ W, Sr R w W → Calls Tryz.prog 94 #[.slice a acc.length c, itV ⟨k, n, s⟩] W fun e w' => e = .returned (.bool false) ∧ Below W.heap.size W w') := fun W hW => by
    have := containsV_any (.slice a acc.length c) acc ⟨k, n, s⟩ W (HAc.out W hW) (by omega)
    rw [hin] at this
    exact this
  have H0 : Hid (Sr R w0 w) := h0
  have HR0 : Hid (Rd w0 R l z w) := h
  have ha1 := ta_literal_literal p k n s
  have d16 : decide (((acc.length : Nat) : Int) = 16) = false := decide_eq_false (by omega)
  have d16b : (((acc.length : Nat) : Int) == 16) = false := by simp; omega
  clear h0 h hl hR hp hacc ha hin
  generalize l.tail = T at *
  obtain ⟨w1, hw1⟩ : ∃ w1, w1 = w.alloc (.cells #[.int .i64 0, .int .i64 0, .string ⟨#[]⟩] 54) := ⟨_, rfl⟩
  have B1 : Hid (Sr R w w1) := by show Sr _ _ _; rw [hw1]; exact Sr.of (al_f _ _)
  have hn1 : w1.heap[w.heap.size]? = some (.cells #[.int .i64 0, .int .i64 0, .string ⟨#[]⟩] 54 (0, 0)) := by rw [hw1]; exact nw_at _ _
  have N1 : Hid (R < w.heap.size) := HRl.out
  have C1 : Hid (∀ W, Sr R w1 W → W.heap[w.heap.size]? = some (.cells #[.int .i64 0, .int .i64 0, .string ⟨#[]⟩] 54 (0, 0))) := fun W h => h.box hn1 (Nat.ne_of_gt N1.out)
  clear hn1
  obtain ⟨w2, hw2⟩ : ∃ w2, w2 = w1.alloc (.cells #[.int .i64 0, .int .i64 0] 90) := ⟨_, rfl⟩
  have B2 : Hid (Sr R w1 w2) := by show Sr _ _ _; rw [hw2]; exact Sr.of (al_f _ _)
  have hn2 : w2.heap[(w.heap.size + 1)]? = some (.cells #[.int .i64 0, .int .i64 0] 90 (0, 0)) := by rw [hw2]; rw [show w.heap.size + 1 = w1.heap.size by (rw [hw1]; simp)]; exact new_at _ _
  have N2 : Hid (R < (w.heap.size + 1)) := (Nat.lt_of_lt_of_le HRl.out (Nat.le_add_right _ _))
  have C2 : Hid (∀ W, Sr R w2 W → W.heap[(w.heap.size + 1)]? = some (.cells #[.int .i64 0, .int .i64 0] 90 (0, 0))) := fun W h => h.box hn2 (Nat.ne_of_gt N2.out)
  clear hn2
  have hx2 : Hid (w2.heap.size = w.heap.size + 2) := by show _ = _; rw [hw2, hw1]; simp
  have HR2 : Hid (Rd w0 R l z w2) := by show Rd _ _ _ _ _; rw [hw2, hw1]; exact (HR0.out.al _).al _
  go_enter Tryz.func162, Tryz.ntmps162
  go_wp2_with fail
  rw [← hw1, ← hw2]
  clear hw1 hw2
  refine (HNx.out _ (H0.out.trans (B1.out.trans B2.out)) HR2.out).mono ?_
  rintro e w3 ⟨rfl, hb, hrd⟩
  have B3 : Hid (Sr R w2 w3) := hb
  clear hb 
  have HR3 : Hid (Rd w0 R T z w3) := hrd
  clear hrd HNx
  obtain ⟨w4, hw4⟩ : ∃ w4, w4 = w3.alloc (.cells #[.int .i64 p, .int .i64 k, .int .i64 n, .string s] 163) := ⟨_, rfl⟩
  have B4 : Hid (Sr R w3 w4) := by show Sr _ _ _; rw [hw4]; exact Sr.of (al_f _ _)
  have hn4 : w4.heap[w3.heap.size]? = some (.cells #[.int .i64 p, .int .i64 k, .int .i64 n, .string s] 163 (0, 0)) := by rw [hw4]; exact nw_at _ _
  have N4 : Hid (R < w3.heap.size) := (Nat.lt_of_lt_of_le HRl.out ((B1.out.trans B2.out).trans B3.out).size)
  have C4 : Hid (∀ W, Sr R w4 W → W.heap[w3.heap.size]? = some (.cells #[.int .i64 p, .int .i64 k, .int .i64 n, .string s] 163 (0, 0))) := fun W h => h.box hn4 (Nat.ne_of_gt N4.out)
  clear hn4
  have HR4 : Hid (Rd w0 R T z w4) := by show Rd _ _ _ _ _; rw [hw4]; exact HR3.out.al _
  have hk := C4.out w4 (Sr.refl _ _)
  have c4_0 : w4.cell? ⟨w3.heap.size, 0, none⟩ = some (.int .i64 p) := by rw [Lib.cell_of_heap hk]; rfl
  have c4_1 : w4.cell? ⟨w3.heap.size, 1, none⟩ = some (.int .i64 k) := by rw [Lib.cell_of_heap hk]; rfl
  have c4_2 : w4.cell? ⟨w3.heap.size, 2, none⟩ = some (.int .i64 n) := by rw [Lib.cell_of_heap hk]; rfl
  have c4_3 : w4.cell? ⟨w3.heap.size, 3, none⟩ = some (.string s) := by rw [Lib.cell_of_heap hk]; rfl
  clear hk
  rw [hw4] at c4_0 c4_1 c4_2 c4_3
  by_cases hz : acc.length = 0
  · have d0 : decide ((0 : Int) < ((acc.length : Nat) : Int)) = false := decide_eq_false (by omega)
    have d0n : decide (0 < acc.length) = false := decide_eq_false (by omega)
    clear hz
    go_wp2_with fail
    rw [← hw4]
    clear hw4 c4_0 c4_1 c4_2 c4_3
    refine wp_region_quiet (C := fun w' => Below w4.heap.size w4 w') (by kernel_rfl) (by kernel_rfl) ((Below.refl _ _).drew) ?_
    dsimp only
    repeat (first
      | go_big_quiet_skip
      | (go_big_quiet_want
         apply Exists.intro
         refine ⟨fun W' hW' => ?_, ?_⟩
         · have hw : Below w4.heap.size w4 W' := hW'
           go_simp
           first
             | done
             | rfl
             | (trace_state; fail)
         go_big_quiet_on
         try simp only [Act.put, List.setIfInBounds_toArray, List.set_cons_zero, List.set_cons_succ]))
    refine wpQuiet_nil ?_
    intro w5 hb5'
    have hb5 : Below w4.heap.size w4 w5 := hb5'
    have HRa : Hid (Rd w0 R T z w5) := HR4.out.below hb5
    have B5 : Hid (Sr R w4 w5) := Sr.of hb5
    clear hb5 hb5' 
    have hk := C4.out w5 B5.out
    have c4_0 : w5.cell? ⟨w3.heap.size, 0, none⟩ = some (.int .i64 p) := by rw [Lib.cell_of_heap hk]; rfl
    have c4_1 : w5.cell? ⟨w3.heap.size, 1, none⟩ = some (.int .i64 k) := by rw [Lib.cell_of_heap hk]; rfl
    have c4_2 : w5.cell? ⟨w3.heap.size, 2, none⟩ = some (.int .i64 n) := by rw [Lib.cell_of_heap hk]; rfl
    have c4_3 : w5.cell? ⟨w3.heap.size, 3, none⟩ = some (.string s) := by rw [Lib.cell_of_heap hk]; rfl
    clear hk
    go_wp2_with fail
    clear c4_0 c4_1 c4_2 c4_3
    refine (HCo.out _ ((((B1.out.trans B2.out).trans B3.out).trans B4.out).trans B5.out)).mono ?_
    rintro e w6 ⟨rfl, hb⟩
    have HRb : Rd w0 R T z w6 := HRa.out.below hb
    have B6 : Hid (Sr R w5 w6) := Sr.of hb
    clear hb 
    have hk := C4.out w6 (B5.out.trans B6.out)
    have c4_0 : w6.cell? ⟨w3.heap.size, 0, none⟩ = some (.int .i64 p) := by rw [Lib.cell_of_heap hk]; rfl
    have c4_1 : w6.cell? ⟨w3.heap.size, 1, none⟩ = some (.int .i64 k) := by rw [Lib.cell_of_heap hk]; rfl
    have c4_2 : w6.cell? ⟨w3.heap.size, 2, none⟩ = some (.int .i64 n) := by rw [Lib.cell_of_heap hk]; rfl
    have c4_3 : w6.cell? ⟨w3.heap.size, 3, none⟩ = some (.string s) := by rw [Lib.cell_of_heap hk]; rfl
    clear hk
    have hk := C1.out w6 ((((B2.out.trans B3.out).trans B4.out).trans B5.out).trans B6.out)
    have c1_0 : w6.cell? ⟨w.heap.size, 0, none⟩ = some (.int .i64 0) := by rw [Lib.cell_of_heap hk]; rfl
    have c1_1 : w6.cell? ⟨w.heap.size, 1, none⟩ = some (.int .i64 0) := by rw [Lib.cell_of_heap hk]; rfl
    have c1_2 : w6.cell? ⟨w.heap.size, 2, none⟩ = some (.string ⟨#[]⟩) := by rw [Lib.cell_of_heap hk]; rfl
    have fz1 : ∀ j, w6.frozen? ⟨w.heap.size, j, none⟩ = false := fun j => Lib.frozen_of_heap hk j
    clear hk
    have hk := C2.out w6 (((B3.out.trans B4.out).trans B5.out).trans B6.out)
    have c2_0 : w6.cell? ⟨(w.heap.size + 1), 0, none⟩ = some (.int .i64 0) := by rw [Lib.cell_of_heap hk]; rfl
    have c2_1 : w6.cell? ⟨(w.heap.size + 1), 1, none⟩ = some (.int .i64 0) := by rw [Lib.cell_of_heap hk]; rfl
    have fz2 : ∀ j, w6.frozen? ⟨(w.heap.size + 1), j, none⟩ = false := fun j => Lib.frozen_of_heap hk j
    clear hk
    have HRz : Hid (Rd w0 R T z w6) := HRb
    go_wp2
    refine bodyPost_ret (v := .tuple #[itV ⟨k, n, s⟩, ftV 0 0]) ?_ rfl ⟨rfl, ?_, ?_⟩
    · rw [results_cc rfl]; go_simp
    · exact (((((((((B1.out.trans B2.out).trans B3.out).trans B4.out).trans B5.out).trans B6.out).set (.inr (Nat.le_refl _)) 0 _).set (.inr (Nat.le_refl _)) 1 _).set (.inr (Nat.le_refl _)) 2 _).set (.inr (Nat.le_succ _)) 0 _).set (.inr (Nat.le_succ _)) 1 _
    · have h1 : R < w.heap.size + 1 := Nat.lt_succ_of_lt HRl.out
      exact ((((HRz.out.set HRl.out 0 _).set HRl.out 1 _).set HRl.out 2 _).set h1 0 _).set h1 1 _
  · have d0 : decide ((0 : Int) < ((acc.length : Nat) : Int)) = true := decide_eq_true (by omega)
    have d0n : decide (0 < acc.length) = true := decide_eq_true (by omega)
    have HY : Hid (∃ b off, a = some ⟨b, off, none⟩ ∧ ∀ W, Sr R w W → W.cell? ⟨b, off, none⟩ = some (.int .i64 k)) := by
      obtain ⟨b, off, hab, -⟩ := items_at (HAc.out w (Sr.refl _ _)) 0 (by omega)
      refine ⟨b, off, hab, fun W hW => ?_⟩
      obtain ⟨b', off', hab', -, q, -⟩ := items_at (HAc.out W hW) 0 (by omega)
      rw [hab] at hab'
      simp only [Option.some.injEq, Addr.mk.injEq] at hab'
      obtain ⟨rfl, rfl, -⟩ := hab'
      rw [hk _ (List.getElem_mem _)] at q
      simpa using q
    obtain ⟨b, off, rfl, HY2⟩ := HY.out
    have HY3 : Hid (∀ W, Sr R w W → W.cell? ⟨b, off, none⟩ = some (.int .i64 k)) := HY2
    clear HY HY2
    have i0 : 0 < acc.length := by omega
    go_wp2_with fail
    rw [← hw4]
    clear hw4 c4_0 c4_1 c4_2 c4_3
    refine wp_region_quiet (C := fun w' => Below w4.heap.size w4 w') (by kernel_rfl) (by kernel_rfl) ((Below.refl _ _).drew) ?_
    dsimp only
    repeat (first
      | go_big_quiet_skip
      | (go_big_quiet_want
         apply Exists.intro
         refine ⟨fun W' hW' => ?_, ?_⟩
         · have hw : Below w4.heap.size w4 W' := hW'
           have hs : Sr R w4 W' := Sr.of hw
           have g0 := HY3.out W' ((((B1.out.trans B2.out).trans B3.out).trans B4.out).trans hs)
           have hk4 := C4.out W' hs
           have k1 : W'.cell? ⟨w3.heap.size, 1, none⟩ = some (.int .i64 k) := by rw [Lib.cell_of_heap hk4]; rfl
           clear hk4
           go_simp
           first
             | done
             | rfl
             | (trace_state; fail)
         go_big_quiet_on
         try simp only [Act.put, List.setIfInBounds_toArray, List.set_cons_zero, List.set_cons_succ]))
    refine wpQuiet_nil ?_
    intro w5 hb5'
    have hb5 : Below w4.heap.size w4 w5 := hb5'
    have HRa : Hid (Rd w0 R T z w5) := HR4.out.below hb5
    have B5 : Hid (Sr R w4 w5) := Sr.of hb5
    clear hb5 hb5' 
    have hk := C4.out w5 B5.out
    have c4_0 : w5.cell? ⟨w3.heap.size, 0, none⟩ = some (.int .i64 p) := by rw [Lib.cell_of_heap hk]; rfl
    have c4_1 : w5.cell? ⟨w3.heap.size, 1, none⟩ = some (.int .i64 k) := by rw [Lib.cell_of_heap hk]; rfl
    have c4_2 : w5.cell? ⟨w3.heap.size, 2, none⟩ = some (.int .i64 n) := by rw [Lib.cell_of_heap hk]; rfl
    have c4_3 : w5.cell? ⟨w3.heap.size, 3, none⟩ = some (.string s) := by rw [Lib.cell_of_heap hk]; rfl
    clear hk
    go_wp2_with fail
    clear c4_0 c4_1 c4_2 c4_3
    refine (HCo.out _ ((((B1.out.trans B2.out).trans B3.out).trans B4.out).trans B5.out)).mono ?_
    rintro e w6 ⟨rfl, hb⟩
    have HRb : Rd w0 R T z w6 := HRa.out.below hb
    have B6 : Hid (Sr R w5 w6) := Sr.of hb
    clear hb 
    have hk := C4.out w6 (B5.out.trans B6.out)
    have c4_0 : w6.cell? ⟨w3.heap.size, 0, none⟩ = some (.int .i64 p) := by rw [Lib.cell_of_heap hk]; rfl
    have c4_1 : w6.cell? ⟨w3.heap.size, 1, none⟩ = some (.int .i64 k) := by rw [Lib.cell_of_heap hk]; rfl
    have c4_2 : w6.cell? ⟨w3.heap.size, 2, none⟩ = some (.int .i64 n) := by rw [Lib.cell_of_heap hk]; rfl
    have c4_3 : w6.cell? ⟨w3.heap.size, 3, none⟩ = some (.string s) := by rw [Lib.cell_of_heap hk]; rfl
    clear hk
    have hk := C1.out w6 ((((B2.out.trans B3.out).trans B4.out).trans B5.out).trans B6.out)
    have c1_0 : w6.cell? ⟨w.heap.size, 0, none⟩ = some (.int .i64 0) := by rw [Lib.cell_of_heap hk]; rfl
    have c1_1 : w6.cell? ⟨w.heap.size, 1, none⟩ = some (.int .i64 0) := by rw [Lib.cell_of_heap hk]; rfl
    have c1_2 : w6.cell? ⟨w.heap.size, 2, none⟩ = some (.string ⟨#[]⟩) := by rw [Lib.cell_of_heap hk]; rfl
    have fz1 : ∀ j, w6.frozen? ⟨w.heap.size, j, none⟩ = false := fun j => Lib.frozen_of_heap hk j
    clear hk
    have hk := C2.out w6 (((B3.out.trans B4.out).trans B5.out).trans B6.out)
    have c2_0 : w6.cell? ⟨(w.heap.size + 1), 0, none⟩ = some (.int .i64 0) := by rw [Lib.cell_of_heap hk]; rfl
    have c2_1 : w6.cell? ⟨(w.heap.size + 1), 1, none⟩ = some (.int .i64 0) := by rw [Lib.cell_of_heap hk]; rfl
    have fz2 : ∀ j, w6.frozen? ⟨(w.heap.size + 1), j, none⟩ = false := fun j => Lib.frozen_of_heap hk j
    clear hk
    have HRz : Hid (Rd w0 R T z w6) := HRb
    go_wp2
    refine bodyPost_ret (v := .tuple #[itV ⟨k, n, s⟩, ftV 0 0]) ?_ rfl ⟨rfl, ?_, ?_⟩
    · rw [results_cc rfl]; go_simp
    · exact (((((((((B1.out.trans B2.out).trans B3.out).trans B4.out).trans B5.out).trans B6.out).set (.inr (Nat.le_refl _)) 0 _).set (.inr (Nat.le_refl _)) 1 _).set (.inr (Nat.le_refl _)) 2 _).set (.inr (Nat.le_succ _)) 0 _).set (.inr (Nat.le_succ _)) 1 _
    · have h1 : R < w.heap.size + 1 := Nat.lt_succ_of_lt HRl.out
      exact ((((HRz.out.set HRl.out 0 _).set HRl.out 1 _).set HRl.out 2 _).set h1 0 _).set h1 1 _
end Go.Proofs.YtbekpemidpngaaaGreatDoor
/- value.showBytes: its walk. -/
namespace Go.Proofs.YtbekpemidpngaaaGreatDoor.V
open Go.RowKit

/-- A byte in two digits. -/
def hex2 (b : UInt8) : List UInt8 := [dg (b.toNat / 16), dg (b.toNat % 16)]
def hexs (l : List UInt8) : List UInt8 := l.flatMap hex2
theorem hexs_len (l : List UInt8) : (hexs l).length = 2 * l.length := by
  induction l with
  | nil => rfl
  | cons b l ih =>
    have e : hexs (b :: l) = hex2 b ++ hexs l := rfl
    have e2 : (hex2 b).length = 2 := rfl
    rw [e, List.length_append, ih, e2, List.length_cons]
    omega
abbrev HXb : ByteArray := ⟨#[48, 49, 50, 51, 52, 53, 54, 55, 56, 57, 97, 98, 99, 100, 101, 102]⟩
theorem hx_at : ∀ n : Fin 16, HXb[n.val]'(by have := n.isLt; show n.val < 16; omega) = dg n.val := by decide
theorem and15 : ∀ n : Fin 256, bits BinOp.and IntKind.u8 (n.val : Int) 15 = ((n.val % 16 : Nat) : Int) := by decide +kernel

set_option maxRecDepth 100000 in
set_option maxHeartbeats 4000000 in
theorem showBytes_any (s : ByteArray) (w : World) (hs : s.size ≤ 1000000) :
    Calls Tryz.prog 111 #[.string s] w fun e w' => e = .returned (.string (str (120 :: 39 :: hexs s.data.toList ++ [39]))) ∧ Below w.heap.size w w' := by
  go_enter Tryz.func111, Tryz.ntmps111
  go_wp2_with fail
  refine (writeString_k w.heap.size w.heap.size [] ⟨#[120, 39]⟩ _ (Lib.IsBuilderF.of (Lib.fresh_isBuilder _ _ w)) (by decide) (by first | simp | omega | skip)).mono ?_
  rintro e w1 ⟨rfl, hI1, hb1, ok1⟩
  have hs1 := hb1.size
  have hs1' : w.heap.size < w1.heap.size := by first | omega | (simp at hs1; omega)
  have hB1 : Below w.heap.size w w1 := ((Below.refl _ _).alloc (Nat.le_refl _) _).trans hb1
  clear hb1 ok1 hs1
  go_wp2_with fail
  go_loopw [8] (fun i wr => ∃ j : Nat, j ≤ s.size ∧ i = .int .i64 j ∧ IsB w.heap.size w.heap.size (Lib.byteCells (120 :: 39 :: hexs (s.data.toList.take j))) wr ∧ Below w.heap.size w wr ∧ w.heap.size < wr.heap.size) (fun i _ => s.size - (intOf i).toNat)
  case atStart => exact ⟨0, Nat.zero_le _, rfl, hI1, hB1, hs1'⟩
  case round =>
    obtain ⟨j, hj, rfl, hI, hbw, hws⟩ := hrel
    by_cases hlt : j < s.size
    · have hi : (j : Int) < s.size := by omega
      have hlen : (Lib.byteCells (120 :: 39 :: hexs (s.data.toList.take j))).length ≤ 2 * j + 2 := by
        rw [Lib.byteCells_length, List.length_cons, List.length_cons, hexs_len, List.length_take]
        omega
      have HT : Hid (s.data.toList.take (j + 1) = s.data.toList.take j ++ [s[j]]) := List.take_succ_eq_append_getElem (by rw [Array.length_toList]; exact hlt)
      generalize hc : s[j] = c at *
      have hn := c.toNat_lt
      have a15 : bits BinOp.and IntKind.u8 (c.toNat : Int) 15 = ((c.toNat % 16 : Nat) : Int) := and15 ⟨c.toNat, hn⟩
      have hx1 := hx_at ⟨c.toNat / 16, by omega⟩
      have hx2 := hx_at ⟨c.toNat % 16, by omega⟩
      go_wp2_with fail
      refine (writeByte_k w.heap.size w.heap.size _ _ _ hI (by omega) (by omega)).mono ?_
      rintro e w2 ⟨rfl, hI2, hb2, ok2⟩
      have hbw2 := hbw.trans hb2
      have hs2 := hb2.size
      clear hb2 ok2 hI hbw
      go_wp2_with fail
      refine (writeByte_k w.heap.size w.heap.size _ _ _ hI2 (by rw [List.length_append]; simp; omega) (by omega)).mono ?_
      rintro e w3 ⟨rfl, hI3, hb3, ok3⟩
      have HI : Hid (IsB w.heap.size w.heap.size (Lib.byteCells (120 :: 39 :: hexs (s.data.toList.take (j + 1)))) w3) := by
        show IsB _ _ _ _
        rw [cells_byte, cells_byte] at hI3
        rw [HT.out]
        simpa [hexs, hex2] using hI3
      have HB : Hid (Below w.heap.size w w3) := hbw2.trans hb3
      have hs3 := hb3.size
      have hs3' : w.heap.size < w3.heap.size := by omega
      clear hI3 hb3 ok3 hI2 hbw2
      go_wp2
      go_roundw
      case rel => exact ⟨j + 1, by omega, by go_num, HI.out, HB.out, hs3'⟩
      case measure => simp [intOf]; omega
    · have hj' : j = s.size := by omega
      subst hj'
      have hfull : s.data.toList.take s.size = s.data.toList := List.take_of_length_le (by rw [Array.length_toList]; exact Nat.le_refl _)
      rw [hfull] at hI
      have hlen : (Lib.byteCells (120 :: 39 :: hexs s.data.toList)).length = 2 * s.size + 2 := by
        rw [Lib.byteCells_length, List.length_cons, List.length_cons, hexs_len, Array.length_toList]
        rfl
      clear hfull
      go_wp2_with fail
      refine (writeByte_k w.heap.size w.heap.size _ _ _ hI (by omega) (by omega)).mono ?_
      rintro e w2 ⟨rfl, hI2, hb2, ok2⟩
      have hb5 := hbw.trans hb2
      rw [show (39 : Int) = (((39 : UInt8).toNat : Nat) : Int) from rfl, cells_byte] at hI2
      clear hb2 ok2 hI hbw
      go_wp2_with fail
      have hs2 : w.heap.size ≤ w2.heap.size := hb5.size
      refine (Tryz.Builder_String_any_k w.heap.size w.heap.size (120 :: 39 :: hexs s.data.toList ++ [39]) _ hI2 hs2).mono ?_
      rintro e w4 ⟨rfl, hI5, hb6, ok5⟩
      have HB : Hid (Below w.heap.size w w4) := hb5.trans hb6
      clear hI5 hb6 ok5 hI2 hb5
      go_wp2
      go_ret
      exact ⟨rfl, HB.out⟩
end Go.Proofs.YtbekpemidpngaaaGreatDoor.V
/- strconv.FormatInt at base 16 of numbers of two digits; value.showRune, showText and Show of a text, at any. -/
namespace Go.Proofs.YtbekpemidpngaaaGreatDoor.V
open Go.RowKit

theorem and15' : ∀ n : Fin 256, bits BinOp.and IntKind.u64 (n.val : Int) 15 = ((n.val % 16 : Nat) : Int) := by decide +kernel
abbrev Z65y (x y : Int) : Obj := .cells #[.int .u8 0, .int .u8 0, .int .u8 0, .int .u8 0, .int .u8 0, .int .u8 0, .int .u8 0, .int .u8 0, .int .u8 0, .int .u8 0, .int .u8 0, .int .u8 0, .int .u8 0, .int .u8 0, .int .u8 0, .int .u8 0, .int .u8 0, .int .u8 0, .int .u8 0, .int .u8 0, .int .u8 0, .int .u8 0, .int .u8 0, .int .u8 0, .int .u8 0, .int .u8 0, .int .u8 0, .int .u8 0, .int .u8 0, .int .u8 0, .int .u8 0, .int .u8 0, .int .u8 0, .int .u8 0, .int .u8 0, .int .u8 0, .int .u8 0, .int .u8 0, .int .u8 0, .int .u8 0, .int .u8 0, .int .u8 0, .int .u8 0, .int .u8 0, .int .u8 0, .int .u8 0, .int .u8 0, .int .u8 0, .int .u8 0, .int .u8 0, .int .u8 0, .int .u8 0, .int .u8 0, .int .u8 0, .int .u8 0, .int .u8 0, .int .u8 0, .int .u8 0, .int .u8 0, .int .u8 0, .int .u8 0, .int .u8 0, .int .u8 0, .int .u8 x, .int .u8 y] 243
theorem conv_two (w : World) (x y : Int) : (convert 124 9 (.slice (some ⟨w.heap.size, 63, none⟩) 2 2)).run Tryz.prog (w.alloc (Z65y x y)) = .ok (.string (strOfNums [x, y])) (w.alloc (Z65y x y)) :=
  run_convert_bytes_arg (P := Tryz.prog) _ 124 5 Tryz.underlying124 Tryz.underlying5 w.heap.size 63 2 2 [x, y] rfl (fun i hi => by
    match i, hi with
    | 0, _ => simp
    | 1, _ => simp) 9 Tryz.underlying9
set_option maxRecDepth 100000 in
set_option maxHeartbeats 2000000 in
theorem formatBits_two (n : Nat) (w : World) (h1 : 16 ≤ n) (h2 : n < 256) (h : T16 w) :
    Calls Tryz.prog 183 #[.slice none 0 0, .int .u64 (n : Int), .int .i64 16, .bool false, .bool false] w fun e w' => e = .returned (.tuple #[.slice none 0 0, .string (strOfNums [((dg (n / 16)).toNat : Int), ((dg (n % 16)).toNat : Int)])]) ∧ Below w.heap.size w w' := by
  have hT := T16_below h ((Below.refl _ _).alloc (Nat.le_refl _) Z65)
  go_enter Tryz.func183, Tryz.ntmps183
  go_wp2_with (first | (go_at_call 202; refine (pow2_16 _).mono ?_; rintro e w' ⟨rfl, rfl⟩) | (go_at_call 203; refine (tz_16 _ ?_).mono ?_; exact hT; rintro e w' ⟨rfl, rfl⟩))
  go_loopw [1, 13] (fun u i wr => (u = .int .u64 (n : Int) ∧ i = .int .i64 65 ∧ wr = w.alloc Z65) ∨ (u = .int .u64 ((n / 16 : Nat) : Int) ∧ i = .int .i64 64 ∧ wr = w.alloc (Z65x ((dg (n % 16)).toNat : Int)))) (fun _ i _ => (intOf i).toNat)
  case atStart => exact .inl ⟨rfl, rfl, rfl⟩
  case round =>
    rcases hrel with ⟨rfl, rfl, rfl⟩ | ⟨rfl, rfl, rfl⟩
    · have hd : decide ((16 : Int) ≤ n) = true := by simp; omega
      have hix : n % 16 < DG.size := by have : DG.size = 36 := rfl; omega
      have a15 := and15' ⟨n, h2⟩
      have hdg := dg_at (n % 16) hix
      go_wp2
      exact ⟨.inr ⟨by simp, rfl, trivial⟩, by decide⟩
    · have hd : decide ((16 : Int) ≤ ((n / 16 : Nat) : Int)) = false := by simp; omega
      have hix : n / 16 < DG.size := by have : DG.size = 36 := rfl; omega
      have hdg := dg_at (n / 16) hix
      go_wp2
      rw [conv_two]
      go_wp2
      go_ret2
      exact ⟨rfl, (Below.refl _ _).alloc (Nat.le_refl _) _⟩

theorem formatInt_i2 (n : Nat) (w : World) (h1 : 16 ≤ n) (h2 : n < 256) (h : T16 w) :
    Calls Tryz.prog 164 #[.int .i64 (n : Int), .int .i64 16] w fun e w' => e = .returned (.string (strOfNums [((dg (n / 16)).toNat : Int), ((dg (n % 16)).toNat : Int)])) ∧ Below w.heap.size w w' := by
  have hd : decide ((n : Int) < 0) = false := by simp
  go_enter Tryz.func164, Tryz.ntmps164
  go_wp2_with fail
  refine (formatBits_two n _ h1 h2 h).mono ?_
  rintro e w1 ⟨rfl, hb1⟩
  go_wp2
  go_ret
  exact ⟨rfl, hb1⟩
theorem formatInt_2 (n : Nat) (w : World) (h1 : 16 ≤ n) (h2 : n < 256) (h : T16 w) :
    Calls Tryz.prog 165 #[.int .i64 (n : Int), .int .i64 16] w fun e w' => e = .returned (.string (strOfNums [((dg (n / 16)).toNat : Int), ((dg (n % 16)).toNat : Int)])) ∧ Below w.heap.size w w' := by
  go_enter Tryz.func165, Tryz.ntmps165
  go_wp2_with fail
  refine (formatInt_i2 n _ h1 h2 h).mono ?_
  rintro e w1 ⟨rfl, hb1⟩
  go_wp2
  go_ret
  exact ⟨rfl, hb1⟩
/-- How a rune is shown. -/
def shR (c : Nat) : List UInt8 :=
  if c = 34 then [92, 34] else if c = 92 then [92, 92] else if c = 10 then [92, 110] else if c = 9 then [92, 116] else if c = 13 then [92, 114]
  else if c < 16 then [92, 117, 123, dg c, 125] else if c < 32 ∨ c = 127 then [92, 117, 123, dg (c / 16), dg (c % 16), 125] else enc c
theorem shR_old {c : Nat} (h : c < 16 ∨ (32 ≤ c ∧ c ≠ 127)) : shR c = showR c := by
  unfold shR showR
  by_cases h6 : c < 16
  · simp [h6]
  · rw [if_neg (show ¬ (c < 32 ∨ c = 127) by omega)]
theorem num2 (x y : UInt8) : strOfNums [(x.toNat : Int), (y.toNat : Int)] = str [x, y] := by
  unfold strOfNums str
  simp
theorem brace2 (x y : UInt8) : ((⟨#[92, 117, 123]⟩ : ByteArray) ++ str [x, y]) ++ (⟨#[125]⟩ : ByteArray) = str [92, 117, 123, x, y, 125] := ba_eq (by
  rw [ba_append, ba_append, str_data, str_data]
  rfl)
set_option maxRecDepth 100000 in
set_option maxHeartbeats 2000000 in
theorem showRune_two (c : Nat) (w : World) (ho : (16 ≤ c ∧ c < 32) ∨ c = 127) (hT : T16 w) :
    Calls Tryz.prog 143 #[.int .i32 (c : Int)] w fun e w' => e = .returned (.string (str (shR c))) ∧ Below w.heap.size w w' := by
  have e : shR c = [92, 117, 123, dg (c / 16), dg (c % 16), 125] := by
    unfold shR
    rw [if_neg (by omega), if_neg (by omega), if_neg (by omega), if_neg (by omega), if_neg (by omega), if_neg (by omega), if_pos (by omega)]
  rw [e]
  clear e
  have k1 : ((c : Int) == 34) = false := by rw [beq_eq_false_iff_ne]; omega
  have k2 : ((c : Int) == 92) = false := by rw [beq_eq_false_iff_ne]; omega
  have k3 : ((c : Int) == 10) = false := by rw [beq_eq_false_iff_ne]; omega
  have k4 : ((c : Int) == 9) = false := by rw [beq_eq_false_iff_ne]; omega
  have k5 : ((c : Int) == 13) = false := by rw [beq_eq_false_iff_ne]; omega
  have HF := formatInt_2 c w (by omega) (by omega) hT
  rw [num2] at HF
  have HB := brace2 (dg (c / 16)) (dg (c % 16))
  have hz : (str [dg (c / 16), dg (c % 16)]).size = 2 := rfl
  generalize str [dg (c / 16), dg (c % 16)] = X at *
  rw [← HB]
  rcases ho with ⟨h1, h2⟩ | rfl
  · have k6 : decide ((c : Int) < 32) = true := by simp; omega
    clear HB
    go_enter Tryz.func143, Tryz.ntmps143
    go_wp2_with fail
    refine Calls.mono HF ?_
    rintro e w1 ⟨rfl, hb1⟩
    go_wp2
    go_ret
    exact ⟨rfl, hb1⟩
  · clear HB
    go_enter Tryz.func143, Tryz.ntmps143
    go_wp2_with fail
    refine Calls.mono HF ?_
    rintro e w1 ⟨rfl, hb1⟩
    go_wp2
    go_ret
    exact ⟨rfl, hb1⟩
theorem showRune_all (c : Nat) (w : World) (hs : scal c) (hT : T16 w) :
    Calls Tryz.prog 143 #[.int .i32 (c : Int)] w fun e w' => e = .returned (.string (str (shR c))) ∧ Below w.heap.size w w' := by
  by_cases ho : c < 16 ∨ (32 ≤ c ∧ c ≠ 127)
  · rw [shR_old ho]
    exact showRune_any c w hs ho hT
  · exact showRune_two c w (by omega) hT
end Go.Proofs.YtbekpemidpngaaaGreatDoor.V
/- value.showText of any text: its walk. -/
namespace Go.Proofs.YtbekpemidpngaaaGreatDoor.V
open Go.RowKit

def shws (l : List Nat) : List UInt8 := l.flatMap shR
theorem shR_len (c : Nat) : (shR c).length ≤ 6 := by
  unfold shR
  split
  · decide
  split
  · decide
  split
  · decide
  split
  · decide
  split
  · decide
  split
  · exact Nat.le_of_lt (by decide : 5 < 6)
  split
  · exact Nat.le_refl 6
  · have := enc_len4 c; omega
/-- What holds of showText's loop at every round. -/
def StRl (s : ByteArray) (w : World) (k0 : Nat) (wr : World) : Prop :=
  ∃ (pos : Nat) (acc : List UInt8), IsB w.heap.size w.heap.size (Lib.byteCells (34 :: acc)) wr ∧ wr.heap[k0]? = some (.stringIter s pos) ∧ Below w.heap.size w wr ∧ w.heap.size < wr.heap.size ∧ acc ++ shws (rns (s.data.toList.drop pos)) = shws (rns s.data.toList) ∧ acc.length ≤ 6 * pos

set_option maxRecDepth 100000 in
set_option maxHeartbeats 4000000 in
theorem showText_all (s : ByteArray) (w : World) (hs : s.size ≤ 1000000) (hT : T16 w) :
    Calls Tryz.prog 112 #[.string s] w fun e w' => e = .returned (.string (str (34 :: shws (rns s.data.toList) ++ [34]))) ∧ Below w.heap.size w w' := by
  go_enter Tryz.func112, Tryz.ntmps112
  go_wp2_with fail
  refine (writeByte_k w.heap.size w.heap.size [] 34 _ (Lib.IsBuilderF.of (Lib.fresh_isBuilder _ _ w)) (by simp) (by first | simp | omega | skip)).mono ?_
  rintro e w1 ⟨rfl, hI1, hb1, ok1⟩
  have hs1 := hb1.size
  have hs1' : w.heap.size < w1.heap.size := by first | omega | (simp at hs1; omega)
  have hB1 : Below w.heap.size w w1 := ((Below.refl _ _).alloc (Nat.le_refl _) _).trans hb1
  clear hb1 ok1 hs1
  go_wp2_with fail
  go_loopw [] (fun wr => StRl s w w1.heap.size wr) (fun wr => s.size - wr.iterPos w1.heap.size)
  case atStart =>
    exact ⟨0, [], IsB_alloc hI1 _, World.iter_heap w1 s 0, hB1.alloc (by omega) _, Nat.lt_of_lt_of_le hs1' ((Below.refl w1.heap.size w1).alloc (Nat.le_refl _) (.stringIter s 0)).size, rfl, Nat.le_refl _⟩
  case round =>
    obtain ⟨pos, acc, hI, hit, hbw, hws, hck, hal⟩ := hrel
    have HC : Hid (acc ++ shws (rns (s.data.toList.drop pos)) = shws (rns s.data.toList)) := hck
    clear hck
    have hsz : w1.heap.size < wr.heap.size := (Array.getElem?_eq_some_iff.1 hit).1
    by_cases hp : pos < s.size
    · have hnx : ∀ ty, (Instr.next (.pointer (some ⟨w1.heap.size, 0, none⟩)) true ty).run Tryz.prog wr = _ := fun ty => Lib.run_next_any_at wr w1.heap.size s pos ty hit hp
      have hwd := Lib.decode_width_pos s pos hp
      have hit2 := Lib.iterAt_heap wr w1.heap.size s pos (pos + (Utf8.decode s pos).2) hit
      have hbw2 := Lib.below_iterAt hbw (k := w1.heap.size) (by omega) s (pos + (Utf8.decode s pos).2)
      have hI2 := IsB_iter hI hit (pos + (Utf8.decode s pos).2)
      have hszI : (wr.iterAt w1.heap.size s (pos + (Utf8.decode s pos).2)).heap.size = wr.heap.size := Lib.iterAt_size ..
      have hrl := Lib.rune_le s pos
      have hrn : Hid (rns (s.data.toList.drop pos) = (Utf8.decode s pos).1 :: rns (s.data.toList.drop (pos + (Utf8.decode s pos).2))) := rns_at s pos hp
      have hsc : Hid (scal (Utf8.decode s pos).1) := rns_scal (s.data.toList.drop pos) _ (by rw [hrn.out]; simp)
      have hmeas : Hid (s.size - (pos + (Utf8.decode s pos).2) < s.size - wr.iterPos w1.heap.size) := by
        show _ < _
        rw [iterPos_of hit]; omega
      have hwl : pos + (Utf8.decode s pos).2 ≤ s.size := by
        have hne : s.data.toList.drop pos ≠ [] := by
          intro e
          have := congrArg List.length e
          rw [List.length_drop, Array.length_toList] at this
          have e2 : s.data.size = s.size := rfl
          simp at this
          omega
        have h1 := Lib.decodeL_le _ hne
        rw [Lib.decodeL_drop, List.length_drop, Array.length_toList] at h1
        have e2 : s.data.size = s.size := rfl
        omega
      generalize (Utf8.decode s pos).1 = c at *
      generalize (Utf8.decode s pos).2 = d at *
      generalize hW : wr.iterAt w1.heap.size s (pos + d) = W at *
      have hcl := shR_len c
      have HC2 : Hid ((acc ++ shR c) ++ shws (rns (s.data.toList.drop (pos + d))) = shws (rns s.data.toList)) := by
        show _ = _; rw [← HC.out, hrn.out]; simp [shws]
      clear HC hrn hW hI hbw
      go_wp2_with fail
      refine (showRune_all c _ hsc.out (T16_below hT hbw2)).mono ?_
      rintro e w3 ⟨rfl, hb3⟩
      have hI3 := IsB_below hI2 hb3
      have hit3 := (hb3.block _ (Array.getElem?_eq_some_iff.1 hit2).1).trans hit2
      have hbw3 := hbw2.trans (hb3.mono (by omega))
      have hs3 := hb3.size
      have hzs : (str (shR c)).size ≤ 6 := by rw [str_size]; exact hcl
      clear hb3 hI2 hit2 hbw2
      go_wp2_with fail
      refine (writeString_k w.heap.size w.heap.size _ (str (shR c)) _ hI3 (by rw [Lib.byteCells_length, List.length_cons]; omega) (by omega)).mono ?_
      rintro e w4 ⟨rfl, hI4, hb4, ok4⟩
      have hit4 : Hid (w4.heap[w1.heap.size]? = some (.stringIter s (pos + d))) := iter_kept ok4 hit3 (IsB_ne hI3 hit3)
      have hmW : Hid (w4.iterPos w1.heap.size = pos + d) := iterPos_of hit4.out
      have HI : Hid (IsB w.heap.size w.heap.size (Lib.byteCells (34 :: (acc ++ shR c))) w4) := by
        rw [Lib.strCells_eq, str_data, ← Lib.byteCells_append, List.cons_append] at hI4
        exact hI4
      have HB : Hid (Below w.heap.size w w4) := hbw3.trans hb4
      have hs4 := hb4.size
      clear hI4 hb4 ok4 hI3 hit3 hbw3
      go_wp2
      go_roundw
      case rel => exact ⟨pos + d, acc ++ shR c, HI.out, hit4.out, HB.out, by omega, HC2.out, by rw [List.length_append]; omega⟩
      case measure => rw [hmW.out]; exact hmeas.out
    · have hnx : ∀ ty, (Instr.next (.pointer (some ⟨w1.heap.size, 0, none⟩)) true ty).run Tryz.prog wr = _ := fun ty => Lib.run_next_end_at wr w1.heap.size s pos ty hit hp
      have HC2 : Hid (acc = shws (rns s.data.toList)) := by show _ = _; rw [← HC.out, rns_end s pos hp]; simp [shws]
      have hpl : acc.length ≤ 10000000 := by
        have h3 := rns_len_le s.data.toList.length s.data.toList
        have e : s.data.toList.length = s.size := Array.length_toList
        have h4 : (rns s.data.toList).length ≤ s.data.toList.length := h3
        have h5 : ∀ l : List Nat, (shws l).length ≤ 6 * l.length := by
          intro l
          induction l with
          | nil => simp [shws]
          | cons c l ih => have := shR_len c; simp only [shws, List.flatMap_cons, List.length_append, List.length_cons] at ih ⊢; omega
        have h6 := h5 (rns s.data.toList)
        rw [HC2.out]
        omega
      clear HC
      go_wp2_with fail
      refine (writeByte_k w.heap.size w.heap.size _ 34 _ hI (by rw [Lib.byteCells_length, List.length_cons]; omega) (by omega)).mono ?_
      rintro e w3 ⟨rfl, hI3, hb3, ok3⟩
      have hs3 := hb3.size
      have hI4 : IsB w.heap.size w.heap.size (Lib.byteCells (34 :: acc ++ [34])) w3 := by
        have := cells_byte (34 :: acc) 34
        rw [← this]
        exact hI3
      have hB3 := hbw.trans hb3
      clear hI3 hb3 ok3
      go_wp2_with fail
      refine (Tryz.Builder_String_any_k w.heap.size w.heap.size (34 :: acc ++ [34]) _ hI4 (by omega)).mono ?_
      rintro e w4 ⟨rfl, hI5, hb5, ok5⟩
      have HB : Hid (Below w.heap.size w w4) := hB3.trans hb5
      clear hI5 hb5 ok5 hI4
      go_wp2
      go_ret
      refine ⟨?_, HB.out⟩
      rw [← HC2.out]
      rfl

end Go.Proofs.YtbekpemidpngaaaGreatDoor.V
/- The shelf's contract of strconv.Itoa, at this program, laid by the shelf's tool in plain words. -/
namespace Go.Proofs
open Go.Shelf
def Tryz.laysM171_ren : Go.Shelf.Ren := ⟨fun | 171 => 109 | 243 => 140 | 246 => 164 | 283 => 180 | 284 => 181 | 285 => 182 | 286 => 183 | 129 => 199 | 317 => 200 | 318 => 201 | 319 => 202 | 320 => 203 | 337 => 211 | 338 => 212 | n => n, fun | 3 => 3 | 9 => 9 | 2 => 2 | 4 => 4 | 171 => 225 | 0 => 0 | 53 => 184 | 37 => 124 | 5 => 5 | 173 => 228 | 212 => 242 | 51 => 210 | 20 => 20 | 213 => 243 | 46 => 147 | 232 => 257 | 233 => 258 | n => n, fun | 17 => 3 | 18 => 4 | 19 => 5 | n => n⟩
theorem Tryz.laysM171 : Go.Proofs.LaysM.n171 Tryz.prog Tryz.laysM171_ren := {
  mixed := by kernel_rfl
  f129 := Tryz.func199.trans (congrArg some (by kernel_rfl))
  f171 := Tryz.func109.trans (congrArg some (by kernel_rfl))
  f243 := Tryz.func140.trans (congrArg some (by kernel_rfl))
  f246 := Tryz.func164.trans (congrArg some (by kernel_rfl))
  f283 := Tryz.func180.trans (congrArg some (by kernel_rfl))
  f284 := Tryz.func181.trans (congrArg some (by kernel_rfl))
  f285 := Tryz.func182.trans (congrArg some (by kernel_rfl))
  f286 := Tryz.func183.trans (congrArg some (by kernel_rfl))
  f317 := Tryz.func200.trans (congrArg some (by kernel_rfl))
  f318 := Tryz.func201.trans (congrArg some (by kernel_rfl))
  f319 := Tryz.func202.trans (congrArg some (by kernel_rfl))
  f320 := Tryz.func203.trans (congrArg some (by kernel_rfl))
  f337 := Tryz.func211.trans (congrArg some (by kernel_rfl))
  f338 := Tryz.func212.trans (congrArg some (by kernel_rfl))
  t0 := Tryz.underlying0
  a0 := Tryz.isAgg0
  z0 := Tryz.sizeOf0
  v0 := Tryz.zeroValue0
  t2 := Tryz.underlying2
  a2 := Tryz.isAgg2
  z2 := Tryz.sizeOf2
  v2 := Tryz.zeroValue2
  t3 := Tryz.underlying3
  a3 := Tryz.isAgg3
  z3 := Tryz.sizeOf3
  v3 := Tryz.zeroValue3
  t4 := Tryz.underlying4
  a4 := Tryz.isAgg4
  z4 := Tryz.sizeOf4
  v4 := Tryz.zeroValue4
  t5 := Tryz.underlying5
  a5 := Tryz.isAgg5
  z5 := Tryz.sizeOf5
  v5 := Tryz.zeroValue5
  t9 := Tryz.underlying9
  a9 := Tryz.isAgg9
  z9 := Tryz.sizeOf9
  v9 := Tryz.zeroValue9
  t20 := Tryz.underlying20
  a20 := Tryz.isAgg20
  z20 := Tryz.sizeOf20
  v20 := Tryz.zeroValue20
  t37 := Tryz.underlying124
  a37 := Tryz.isAgg124
  z37 := Tryz.sizeOf124
  v37 := Tryz.zeroValue124
  t46 := Tryz.underlying147
  a46 := Tryz.isAgg147
  z46 := Tryz.sizeOf147
  v46 := Tryz.zeroValue147
  t51 := Tryz.underlying210
  a51 := Tryz.isAgg210
  z51 := Tryz.sizeOf210
  v51 := Tryz.zeroValue210
  t53 := Tryz.underlying184
  a53 := Tryz.isAgg184
  z53 := Tryz.sizeOf184
  v53 := Tryz.zeroValue184
  t171 := Tryz.underlying225
  a171 := Tryz.isAgg225
  z171 := Tryz.sizeOf225
  v171 := Tryz.zeroValue225
  t173 := Tryz.underlying228
  a173 := Tryz.isAgg228
  z173 := Tryz.sizeOf228
  v173 := Tryz.zeroValue228
  t212 := Tryz.underlying242
  a212 := Tryz.isAgg242
  z212 := Tryz.sizeOf242
  v212 := Tryz.zeroValue242
  t213 := Tryz.underlying243
  a213 := Tryz.isAgg243
  z213 := Tryz.sizeOf243
  t232 := Tryz.underlying257
  a232 := Tryz.isAgg257
  z232 := Tryz.sizeOf257
  v232 := Tryz.zeroValue257
  t233 := Tryz.underlying258
  a233 := Tryz.isAgg258
  z233 := Tryz.sizeOf258
  v233 := Tryz.zeroValue258
  g17 := by kernel_rfl
  g18 := by kernel_rfl
  g19 := by kernel_rfl
  i0 := by kernel_rfl
  i2 := by kernel_rfl
  i3 := by kernel_rfl
  i4 := by kernel_rfl
  i5 := by kernel_rfl
  i9 := by kernel_rfl
  i20 := by kernel_rfl
  i37 := by kernel_rfl
  i46 := by kernel_rfl
  i51 := by kernel_rfl
  i53 := by kernel_rfl
  i171 := by kernel_rfl
  i173 := by kernel_rfl
  i212 := by kernel_rfl
  i232 := by kernel_rfl
  i233 := by kernel_rfl
  m17 := by kernel_rfl
  m18 := by kernel_rfl
  m19 := by kernel_rfl }
open Go.RowKit in
theorem Tryz.strconv_Itoa (n : Int) (h0 : -9223372036854775808 ≤ n) (h1 : n ≤ 9223372036854775807) (w : World) (htab : Lib.TabIs Tryz.prog w "internal/strconv.uint64pow10" .u64 Lib.pow10Tab) :
    Calls Tryz.prog 109 #[.int .i64 n] w fun e w' => e = .returned (.string ⟨(Lib.itoa n).toArray⟩) ∧ ∃ k os, w' = Sort.grow (w.drewN k) os := Any.strconv_Itoa Tryz.laysM171 n h0 h1 w htab
end Go.Proofs
