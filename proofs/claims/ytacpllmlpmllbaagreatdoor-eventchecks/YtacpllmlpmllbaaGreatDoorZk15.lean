/- event.scan at the example: its walk. -/
import Derived.Test.YtacpllmlpmllbaaGreatDoorZk14
import Derived.Scope
import Derived.WalkMore
import Derived.Test.YtacpllmlpmllbaaGreatDoorZk1
import Derived.Test.YtacpllmlpmllbaaGreatDoorChecked
import Derived.ProofKit
import Derived.OpenShut
import Derived.ShutString
import Derived.ChangeOld
import Derived.Below
import Derived.Stop.Joined
import Derived.Deep.Slices
import Derived.Deep.Strs
import Derived.SizedLaws
import Derived.Lib.SmallJoins
import Derived.Test.YtacpllmlpmllbaaGreatDoorZk5
import Derived.PinnedBridge
import Derived.Lay
import Derived.Lib.LaidU8T
import Derived.LaidMore
import Derived.Stop.LaidErr
import Derived.Shelf.Vars
import Derived.Test.YtacpllmlpmllbaaGreatDoorZk7
import Derived.Test.YtacpllmlpmllbaaGreatDoorZk12
import Derived.Lib.LaidTab
namespace Go.Proofs.YtacpllmlpmllbaaGreatDoor
open Go.RowKit Go.ChangeMaps

theorem heap_set {w : World} {g : Nat} {C : Array Value} {ty : TypeId} {z : Nat × Nat} (h : w.heap[g]? = some (.cells C ty z)) (j : Nat) (v : Value) : (w.setCell ⟨g, j, none⟩ v).heap[g]? = some (.cells (C.setIfInBounds j v) ty z) := by
  show (w.heap.modify g _)[g]? = _
  rw [Array.getElem?_modify, if_pos rfl, h]
  rfl
theorem bT {a b c : World} (h1 : Below a.heap.size a b) (h2 : Below b.heap.size b c) : Below a.heap.size a c := h1.trans (h2.mono h1.size)
/-- The example's attribute. -/
def exA : At := ⟨⟨#[116, 105, 116, 108, 101]⟩, 2, 0, ⟨#[97, 32, 98]⟩⟩
set_option maxRecDepth 100000 in
set_option maxHeartbeats 4000000 in
theorem scan_ex (w : World) (hE : V.VE w) (hM : ML w) (hP : V.P10 w) :
    Calls Tryz.prog 71 #[.string ⟨#[50, 46, 49, 46, 55, 32, 78, 101, 119, 115, 32, 116, 105, 116, 108, 101, 61, 34, 97, 32, 98, 34]⟩] w fun e w' => (∃ a c, e = .returned (.agg (evA 2 1 7 ⟨#[78, 101, 119, 115]⟩ (.slice a 1 c))) ∧ IsRow w' 4 (.slice a 1 c) 1 (aCells [exA]) ∧ NewA w.heap.size a) ∧ Below w.heap.size w w' := by
  have HC : Hid (∀ (s sep a b : List UInt8) W, Lib.cut s sep = (a, b, true) → s.length ≤ 1000000 → Below w.heap.size w W → Calls Tryz.prog 74 #[.string ⟨s.toArray⟩, .string ⟨sep.toArray⟩] W fun e w' => e = .returned (.tuple #[.string ⟨a.toArray⟩, .string ⟨b.toArray⟩, .bool true]) ∧ Below W.heap.size W w') := fun s sep a b W h hs hb => cut_at s sep a b W h hs (ML_below hM hb)
  have HPi : Hid (∀ W, Below w.heap.size w W → Calls Tryz.prog 34 #[.string ⟨#[50, 46, 49, 46, 55]⟩] W fun e w' => e = .returned (.tuple #[.agg #[.int .i64 2, .int .i64 1, .int .i64 7], .int .i64 0]) ∧ Below W.heap.size W w') := fun W h => parseID_ex W (ML_below hM h) (V.P10_below hP h)
  have HT : Hid (∀ W, Calls Tryz.prog 118 #[.string ⟨#[]⟩, .string ⟨#[32]⟩] W fun e w' => e = .returned (.string ⟨#[]⟩) ∧ w' = W) := trim_ex
  have HS : Hid (∀ W, Below w.heap.size w W → Calls Tryz.prog 117 #[.string ⟨#[34, 97, 32, 98, 34]⟩] W fun e w' => e = .returned (.tuple #[.agg #[.int .i64 2, .int .i64 0, .string ⟨#[97, 32, 98]⟩], .string ⟨#[]⟩, .int .i64 0]) ∧ Below W.heap.size W w') := fun W h => by
    have := V.scan_any ⟨#[34, 97, 32, 98, 34]⟩ W (by decide) (hE.below h)
    rw [show (⟨#[34, 97, 32, 98, 34]⟩ : ByteArray).data.toList = [34, 97, 32, 98, 34] from rfl, ex_scn] at this
    exact this
  obtain ⟨i0, hi0, hz0, hz1, hz2⟩ := info_parts info_av
  clear hE hM hP
  obtain ⟨w1, hw1⟩ : ∃ w1, w1 = w.alloc (.cells (evA 0 0 0 ⟨#[]⟩ (.slice none 0 0)) 26) := ⟨_, rfl⟩
  have B1 : Hid (Below w.heap.size w w1) := by show Below _ _ _; rw [hw1]; exact al_b _ _
  have hn1 : w1.heap[w.heap.size]? = some (.cells (evA 0 0 0 ⟨#[]⟩ (.slice none 0 0)) 26 (0, 0)) := by rw [hw1]; exact new_at _ _
  have C1 : Hid (∀ W, Below w1.heap.size w1 W → W.heap[w.heap.size]? = some (.cells (evA 0 0 0 ⟨#[]⟩ (.slice none 0 0)) 26 (0, 0))) := fun W h => (h.block _ (Array.getElem?_eq_some_iff.1 hn1).1).trans hn1
  clear hn1
  go_enter Tryz.func71, Tryz.ntmps71
  go_wp2_with fail
  rw [← hw1]
  clear hw1
  refine wp_scope_straight ?_
  go_wp2_with fail
  refine (HC.out _ [32] _ _ _ ex_cutA (by decide) B1.out).mono ?_
  rintro e w2 ⟨rfl, hb⟩
  have B2 : Hid (Below w1.heap.size w1 w2) := hb
  clear hb 
  go_wp2_with fail
  refine (HPi.out _ (bT B1.out B2.out)).mono ?_
  rintro e w3 ⟨rfl, hb⟩
  have B3 : Hid (Below w2.heap.size w2 w3) := hb
  clear hb 
  have hk := C1.out w3 (bT B2.out B3.out)
  have c1_0 : w3.cell? ⟨w.heap.size, 0, none⟩ = some (.int .i64 0) := by rw [Lib.cell_of_heap hk]; rfl
  have c1_1 : w3.cell? ⟨w.heap.size, 1, none⟩ = some (.int .i64 0) := by rw [Lib.cell_of_heap hk]; rfl
  have c1_2 : w3.cell? ⟨w.heap.size, 2, none⟩ = some (.int .i64 0) := by rw [Lib.cell_of_heap hk]; rfl
  have c1_3 : w3.cell? ⟨w.heap.size, 3, none⟩ = some (.string ⟨#[]⟩) := by rw [Lib.cell_of_heap hk]; rfl
  have c1_4 : w3.cell? ⟨w.heap.size, 4, none⟩ = some (.slice none 0 0) := by rw [Lib.cell_of_heap hk]; rfl
  have fz1 : ∀ j, w3.frozen? ⟨w.heap.size, j, none⟩ = false := fun j => Lib.frozen_of_heap hk j
  clear hk
  obtain ⟨w4, hw4⟩ : ∃ w4, w4 = (((w3.setCell ⟨w.heap.size, 0, none⟩ (.int .i64 2)).setCell ⟨w.heap.size, 1, none⟩ (.int .i64 1)).setCell ⟨w.heap.size, 2, none⟩ (.int .i64 7)) := ⟨_, rfl⟩
  have B4 : Hid (Below w.heap.size w w4) := by show Below _ _ _; rw [hw4]; exact (((((bT (bT B1.out B2.out) B3.out)).setCell (p := ⟨w.heap.size, 0, none⟩) (Nat.le_refl _) (.int .i64 2)).setCell (p := ⟨w.heap.size, 1, none⟩) (Nat.le_refl _) (.int .i64 1)).setCell (p := ⟨w.heap.size, 2, none⟩) (Nat.le_refl _) (.int .i64 7))
  have hn4 : w4.heap[w.heap.size]? = some (.cells (evA 2 1 7 ⟨#[]⟩ (.slice none 0 0)) 26 (0, 0)) := by rw [hw4]; exact (heap_set (heap_set (heap_set (C1.out _ (bT B2.out B3.out)) 0 (.int .i64 2)) 1 (.int .i64 1)) 2 (.int .i64 7))
  have C4 : Hid (∀ W, Below w4.heap.size w4 W → W.heap[w.heap.size]? = some (.cells (evA 2 1 7 ⟨#[]⟩ (.slice none 0 0)) 26 (0, 0))) := fun W h => (h.block _ (Array.getElem?_eq_some_iff.1 hn4).1).trans hn4
  clear hn4
  go_wp2_with fail
  rw [← hw4]
  clear hw4
  clear c1_0 c1_1 c1_2 c1_3 c1_4 fz1
  refine (HC.out _ [32] _ _ _ ex_cutB (by decide) B4.out).mono ?_
  rintro e w5 ⟨rfl, hb⟩
  have B5 : Hid (Below w4.heap.size w4 w5) := hb
  clear hb 
  have hk := C4.out w5 B5.out
  have c4_0 : w5.cell? ⟨w.heap.size, 0, none⟩ = some (.int .i64 2) := by rw [Lib.cell_of_heap hk]; rfl
  have c4_1 : w5.cell? ⟨w.heap.size, 1, none⟩ = some (.int .i64 1) := by rw [Lib.cell_of_heap hk]; rfl
  have c4_2 : w5.cell? ⟨w.heap.size, 2, none⟩ = some (.int .i64 7) := by rw [Lib.cell_of_heap hk]; rfl
  have c4_3 : w5.cell? ⟨w.heap.size, 3, none⟩ = some (.string ⟨#[]⟩) := by rw [Lib.cell_of_heap hk]; rfl
  have c4_4 : w5.cell? ⟨w.heap.size, 4, none⟩ = some (.slice none 0 0) := by rw [Lib.cell_of_heap hk]; rfl
  have fz4 : ∀ j, w5.frozen? ⟨w.heap.size, j, none⟩ = false := fun j => Lib.frozen_of_heap hk j
  clear hk
  obtain ⟨w6, hw6⟩ : ∃ w6, w6 = (w5.setCell ⟨w.heap.size, 3, none⟩ (.string ⟨#[78, 101, 119, 115]⟩)) := ⟨_, rfl⟩
  have B6 : Hid (Below w.heap.size w w6) := by show Below _ _ _; rw [hw6]; exact (((bT B4.out B5.out)).setCell (p := ⟨w.heap.size, 3, none⟩) (Nat.le_refl _) (.string ⟨#[78, 101, 119, 115]⟩))
  have hn6 : w6.heap[w.heap.size]? = some (.cells (evA 2 1 7 ⟨#[78, 101, 119, 115]⟩ (.slice none 0 0)) 26 (0, 0)) := by rw [hw6]; exact (heap_set (C4.out _ B5.out) 3 (.string ⟨#[78, 101, 119, 115]⟩))
  have C6 : Hid (∀ W, Below w6.heap.size w6 W → W.heap[w.heap.size]? = some (.cells (evA 2 1 7 ⟨#[78, 101, 119, 115]⟩ (.slice none 0 0)) 26 (0, 0))) := fun W h => (h.block _ (Array.getElem?_eq_some_iff.1 hn6).1).trans hn6
  clear hn6
  go_wp2_with fail
  rw [← hw6]
  clear hw6
  clear c4_0 c4_1 c4_2 c4_3 c4_4 fz4
  go_step3
  go_wp2_with fail
  refine wp_loop_rounds 2 ?_
  rw [rounds_succ]
  go_wp2_with fail
  refine (HC.out _ [61] _ _ _ ex_cutC (by decide) B6.out).mono ?_
  rintro e w7 ⟨rfl, hb⟩
  have B7 : Hid (Below w6.heap.size w6 w7) := hb
  clear hb 
  go_wp2_with fail
  refine (HS.out _ (bT B6.out B7.out)).mono ?_
  rintro e w8 ⟨rfl, hb⟩
  have B8 : Hid (Below w7.heap.size w7 w8) := hb
  clear hb 
  obtain ⟨w9, hw9⟩ : ∃ w9, w9 = w8.alloc (.cells #[.int .i64 2, .int .i64 0, .string ⟨#[97, 32, 98]⟩] 76) := ⟨_, rfl⟩
  have B9 : Hid (Below w8.heap.size w8 w9) := by show Below _ _ _; rw [hw9]; exact al_b _ _
  have hn9 : w9.heap[w8.heap.size]? = some (.cells #[.int .i64 2, .int .i64 0, .string ⟨#[97, 32, 98]⟩] 76 (0, 0)) := by rw [hw9]; exact new_at _ _
  have C9 : Hid (∀ W, Below w9.heap.size w9 W → W.heap[w8.heap.size]? = some (.cells #[.int .i64 2, .int .i64 0, .string ⟨#[97, 32, 98]⟩] 76 (0, 0))) := fun W h => (h.block _ (Array.getElem?_eq_some_iff.1 hn9).1).trans hn9
  clear hn9
  have hk := C6.out w9 (bT (bT B7.out B8.out) B9.out)
  have c6_0 : w9.cell? ⟨w.heap.size, 0, none⟩ = some (.int .i64 2) := by rw [Lib.cell_of_heap hk]; rfl
  have c6_1 : w9.cell? ⟨w.heap.size, 1, none⟩ = some (.int .i64 1) := by rw [Lib.cell_of_heap hk]; rfl
  have c6_2 : w9.cell? ⟨w.heap.size, 2, none⟩ = some (.int .i64 7) := by rw [Lib.cell_of_heap hk]; rfl
  have c6_3 : w9.cell? ⟨w.heap.size, 3, none⟩ = some (.string ⟨#[78, 101, 119, 115]⟩) := by rw [Lib.cell_of_heap hk]; rfl
  have c6_4 : w9.cell? ⟨w.heap.size, 4, none⟩ = some (.slice none 0 0) := by rw [Lib.cell_of_heap hk]; rfl
  have fz6 : ∀ j, w9.frozen? ⟨w.heap.size, j, none⟩ = false := fun j => Lib.frozen_of_heap hk j
  clear hk
  have Hlt : Hid (w.heap.size < w6.heap.size) := (Array.getElem?_eq_some_iff.1 (C6.out _ (Below.refl _ _))).1
  subst hw9
  have hsz : (w8.alloc (.cells #[.int .i64 2, .int .i64 0, .string ⟨#[97, 32, 98]⟩] 76)).heap.size = w8.heap.size + 1 := by simp
  have hb1 : Below w6.heap.size w6 (w8.alloc (.cells #[.int .i64 2, .int .i64 0, .string ⟨#[97, 32, 98]⟩] 76)) := (bT (bT B7.out B8.out) B9.out)
  have hle : w.heap.size < w6.heap.size := Hlt.out
  have hle2 := hb1.size
  go_wp2_with (at_builtin; go_loud (refine wpl_appE (w8.alloc (.cells #[.int .i64 2, .int .i64 0, .string ⟨#[97, 32, 98]⟩] 76)) rfl (.tmp 54) (.tmp 58) 24 78 rfl i0 _ 4 48 Tryz.underlying24 hi0 hz0 hz1 hz2 rfl (by decide) w6.heap.size (.slice none 0 0) 0 _ rfl (World.ownsRow_nil _ _ _ _) [.string ⟨#[116, 105, 116, 108, 101]⟩, .int .i64 2, .int .i64 0, .string ⟨#[97, 32, 98]⟩] rfl _ rfl (by rw [hsz]; rfl) (by intro u hu; simp at hu; rcases hu with rfl | rfl | rfl | rfl <;> rfl) (by omega) (by unfold maxLen; omega) (by omega) ?_); intro v9 w9 hown9 hb9; have hk9 := (hb9.block w.heap.size Hlt.out).trans (C6.out _ (bT (bT B7.out B8.out) B9.out)); have e4 : w9.cell? ⟨w.heap.size, 4, none⟩ = some (.slice none 0 0) := (by rw [Lib.cell_of_heap hk9]; rfl); have fz9 : ∀ j, w9.frozen? ⟨w.heap.size, j, none⟩ = false := (fun j => Lib.frozen_of_heap hk9 j); obtain ⟨u9, z9, rfl⟩ := (IsRow.own hown9).form; have HO9 : Hid (IsRow w9 4 (.slice u9 1 z9) 1 (aCells [exA]) ∧ NewA w6.heap.size u9) := ⟨IsRow.own hown9, NewA.own hown9⟩; have HK9 : Hid (w9.heap[w.heap.size]? = some (.cells (evA 2 1 7 ⟨#[78, 101, 119, 115]⟩ (.slice none 0 0)) 26 (0, 0))) := hk9; have HB9 : Hid (Below w.heap.size w w9) := (bT (bT (bT B6.out B7.out) B8.out) B9.out).trans (hb9.mono (Nat.le_of_lt Hlt.out)); clear hown9 hk9)
  clear hb9 hb1 hle hle2 hsz
  refine (HT.out _).mono ?_
  rintro e wx ⟨rfl, hx⟩
  subst hx
  clear e4 fz9
  obtain ⟨wz, hwz⟩ : ∃ wz, wz = w9.setCell ⟨w.heap.size, 4, none⟩ (.slice u9 1 z9) := ⟨_, rfl⟩
  have hkz : wz.heap[w.heap.size]? = some (.cells (evA 2 1 7 ⟨#[78, 101, 119, 115]⟩ (.slice u9 1 z9)) 26 (0, 0)) := by rw [hwz]; exact heap_set HK9.out 4 _
  have HBz : Hid (Below w.heap.size w wz) := by show Below _ _ _; rw [hwz]; exact HB9.out.setCell (p := ⟨w.heap.size, 4, none⟩) (Nat.le_refl _) _
  have HRz : Hid (IsRow wz 4 (.slice u9 1 z9) 1 (aCells [exA])) := by show IsRow _ _ _ _ _; rw [hwz]; exact row_far HO9.out.1 HO9.out.2 Hlt.out 4 _
  rw [← hwz]
  clear hwz HB9 HK9
  have fzz : ∀ j, wz.frozen? ⟨w.heap.size, j, none⟩ = false := fun j => Lib.frozen_of_heap hkz j
  obtain ⟨⟨z0, z1, z2⟩, z3, z4⟩ := BxV.of hkz
  have HEnd : Hid (∀ u0 u1 u2 u3 u4, (∃ a c, (.returned (.agg (evA 2 1 7 ⟨#[78, 101, 119, 115]⟩ (.slice u9 1 z9))) : Ending) = .returned (.agg (evA 2 1 7 ⟨#[78, 101, 119, 115]⟩ (.slice a 1 c))) ∧ IsRow (((((wz.setCell ⟨w.heap.size, 0, none⟩ u0).setCell ⟨w.heap.size, 1, none⟩ u1).setCell ⟨w.heap.size, 2, none⟩ u2).setCell ⟨w.heap.size, 3, none⟩ u3).setCell ⟨w.heap.size, 4, none⟩ u4) 4 (.slice a 1 c) 1 (aCells [exA]) ∧ NewA w.heap.size a) ∧ Below w.heap.size w (((((wz.setCell ⟨w.heap.size, 0, none⟩ u0).setCell ⟨w.heap.size, 1, none⟩ u1).setCell ⟨w.heap.size, 2, none⟩ u2).setCell ⟨w.heap.size, 3, none⟩ u3).setCell ⟨w.heap.size, 4, none⟩ u4)) := fun u0 u1 u2 u3 u4 => by
    refine ⟨⟨u9, z9, rfl, row_far (row_far (row_far (row_far (row_far HRz.out HO9.out.2 Hlt.out 0 _) HO9.out.2 Hlt.out 1 _) HO9.out.2 Hlt.out 2 _) HO9.out.2 Hlt.out 3 _) HO9.out.2 Hlt.out 4 _, HO9.out.2.le (Nat.le_of_lt Hlt.out)⟩, ?_⟩
    exact ((((HBz.out.setCell (p := ⟨w.heap.size, 0, none⟩) (Nat.le_refl _) u0).setCell (p := ⟨w.heap.size, 1, none⟩) (Nat.le_refl _) u1).setCell (p := ⟨w.heap.size, 2, none⟩) (Nat.le_refl _) u2).setCell (p := ⟨w.heap.size, 3, none⟩) (Nat.le_refl _) u3).setCell (p := ⟨w.heap.size, 4, none⟩) (Nat.le_refl _) u4
  clear hkz
  go_wp2_with fail
  try rw [rounds_succ]
  go_wp2_with fail
  try simp only [Exit.inBlock, Exit.then]
  try rw [Exit.noGoto_ret]
  refine bodyPost_ret (v := .agg (evA 2 1 7 ⟨#[78, 101, 119, 115]⟩ (.slice u9 1 z9))) ?_ rfl (HEnd.out _ _ _ _ _)
  rw [results_c1 rfl]; go_simp
end Go.Proofs.YtacpllmlpmllbaaGreatDoor
/- event.Parse at the example: its walk. -/
namespace Go.Proofs.YtacpllmlpmllbaaGreatDoor
open Go.RowKit Go.ChangeMaps

/-- What law06's awake wants of the world. -/
structure W6 (w : World) : Prop where
  t : UT w
  m : ML w
  e : V.VE w
  h : V.T16 w
  p : V.P10 w
theorem W6.below {w w' : World} (h : W6 w) (hb : Below w.heap.size w w') : W6 w' := ⟨Utf8Tabs_below h.t hb, ML_below h.m hb, h.e.below hb, V.T16_below h.h hb, V.P10_below h.p hb⟩
theorem ex_chk : chkE 2 1 7 ⟨#[78, 101, 119, 115]⟩ [exA] = true := by kernel_rfl
theorem ex_shw : ([exA].foldl (fun s x => s ++ atT x) (idT 2 1 7 ++ ⟨#[32]⟩ ++ ⟨#[78, 101, 119, 115]⟩)) = ⟨#[50, 46, 49, 46, 55, 32, 78, 101, 119, 115, 32, 116, 105, 116, 108, 101, 61, 34, 97, 32, 98, 34]⟩ := by kernel_rfl
theorem ex_nm : NmA [exA] := fun x hx => by rw [List.mem_singleton] at hx; subst hx; decide
theorem ex_at : ∀ x ∈ [exA], (atT x).size ≤ 10000000 := fun x hx => by
  rw [List.mem_singleton] at hx
  subst hx
  have : atT exA = ⟨#[32, 116, 105, 116, 108, 101, 61, 34, 97, 32, 98, 34]⟩ := by kernel_rfl
  rw [this]
  decide
theorem chk_ex (u : Value) (w : World) (hr : IsRow w 4 u 1 (aCells [exA])) (h : W6 w) : Calls Tryz.prog 11 #[.agg (evA 2 1 7 ⟨#[78, 101, 119, 115]⟩ u)] w fun e w' => e = .returned (.bool true) ∧ Below w.heap.size w w' := by
  have := evCheck_any 2 1 7 ⟨#[78, 101, 119, 115]⟩ u [exA] w hr (by decide) ex_nm (by decide) h.t h.m
  rw [ex_chk] at this
  exact this
theorem shw_ex (u : Value) (w : World) (hr : IsRow w 4 u 1 (aCells [exA])) (h : W6 w) : Calls Tryz.prog 17 #[.agg (evA 2 1 7 ⟨#[78, 101, 119, 115]⟩ u)] w fun e w' => e = .returned (.string ⟨#[50, 46, 49, 46, 55, 32, 78, 101, 119, 115, 32, 116, 105, 116, 108, 101, 61, 34, 97, 32, 98, 34]⟩) ∧ Below w.heap.size w w' := by
  have := evShow_any 2 1 7 ⟨#[78, 101, 119, 115]⟩ u [exA] w hr (by decide) ex_nm (by decide) ex_at h.t h.m h.h h.p ex_chk
  rw [ex_shw] at this
  exact this
set_option maxRecDepth 100000 in
set_option maxHeartbeats 4000000 in
theorem parse_ex (w : World) (hW : W6 w) :
    Calls Tryz.prog 32 #[.string ⟨#[50, 46, 49, 46, 55, 32, 78, 101, 119, 115, 32, 116, 105, 116, 108, 101, 61, 34, 97, 32, 98, 34]⟩] w fun e w' => (∃ a c, e = .returned (.tuple #[.agg (evA 2 1 7 ⟨#[78, 101, 119, 115]⟩ (.slice a 1 c)), .int .i64 0]) ∧ IsRow w' 4 (.slice a 1 c) 1 (aCells [exA])) ∧ Below w.heap.size w w' := by
  have HSc : Hid (∀ W, Below w.heap.size w W → Calls Tryz.prog 71 #[.string ⟨#[50, 46, 49, 46, 55, 32, 78, 101, 119, 115, 32, 116, 105, 116, 108, 101, 61, 34, 97, 32, 98, 34]⟩] W fun e w' => (∃ a c, e = .returned (.agg (evA 2 1 7 ⟨#[78, 101, 119, 115]⟩ (.slice a 1 c))) ∧ IsRow w' 4 (.slice a 1 c) 1 (aCells [exA]) ∧ NewA W.heap.size a) ∧ Below W.heap.size W w') := fun W h => scan_ex W (hW.below h).e (hW.below h).m (hW.below h).p
  have HCh : Hid (∀ a c W, Below w.heap.size w W → IsRow W 4 (.slice a 1 c) 1 (aCells [exA]) → Calls Tryz.prog 11 #[.agg (evA 2 1 7 ⟨#[78, 101, 119, 115]⟩ (.slice a 1 c))] W fun e w' => e = .returned (.bool true) ∧ Below W.heap.size W w') := fun a c W h hr => chk_ex _ W hr (hW.below h)
  have HSh : Hid (∀ a c W, Below w.heap.size w W → IsRow W 4 (.slice a 1 c) 1 (aCells [exA]) → Calls Tryz.prog 17 #[.agg (evA 2 1 7 ⟨#[78, 101, 119, 115]⟩ (.slice a 1 c))] W fun e w' => e = .returned (.string ⟨#[50, 46, 49, 46, 55, 32, 78, 101, 119, 115, 32, 116, 105, 116, 108, 101, 61, 34, 97, 32, 98, 34]⟩) ∧ Below W.heap.size W w') := fun a c W h hr => shw_ex _ W hr (hW.below h)
  clear hW
  obtain ⟨w1, hw1⟩ : ∃ w1, w1 = w.alloc (.cells (evA 0 0 0 ⟨#[]⟩ (.slice none 0 0)) 26) := ⟨_, rfl⟩
  have B1 : Hid (Below w.heap.size w w1) := by show Below _ _ _; rw [hw1]; exact al_b _ _
  have hn1 : w1.heap[w.heap.size]? = some (.cells (evA 0 0 0 ⟨#[]⟩ (.slice none 0 0)) 26 (0, 0)) := by rw [hw1]; exact new_at _ _
  have C1 : Hid (∀ W, Below w1.heap.size w1 W → W.heap[w.heap.size]? = some (.cells (evA 0 0 0 ⟨#[]⟩ (.slice none 0 0)) 26 (0, 0))) := fun W h => (h.block _ (Array.getElem?_eq_some_iff.1 hn1).1).trans hn1
  clear hn1
  go_enter Tryz.func32, Tryz.ntmps32
  go_wp2_with fail
  rw [← hw1]
  have Hlt : Hid (w.heap.size < w1.heap.size) := (Array.getElem?_eq_some_iff.1 (C1.out _ (Below.refl _ _))).1
  clear hw1
  refine (HSc.out _ B1.out).mono ?_
  rintro e w2 ⟨⟨a, c, rfl, hr, hN⟩, hb⟩
  have B2 : Hid (Below w1.heap.size w1 w2) := hb
  clear hb 
  have HR : Hid (∀ W, Below w2.heap.size w2 W → IsRow W 4 (.slice a 1 c) 1 (aCells [exA])) := fun W h => hr.below h
  have HN : Hid (NewA w1.heap.size a) := hN
  clear hr hN
  obtain ⟨w3, hw3⟩ : ∃ w3, w3 = w2.alloc (.cells (evA 2 1 7 ⟨#[78, 101, 119, 115]⟩ (.slice a 1 c)) 26) := ⟨_, rfl⟩
  have B3 : Hid (Below w2.heap.size w2 w3) := by show Below _ _ _; rw [hw3]; exact al_b _ _
  have hn3 : w3.heap[w2.heap.size]? = some (.cells (evA 2 1 7 ⟨#[78, 101, 119, 115]⟩ (.slice a 1 c)) 26 (0, 0)) := by rw [hw3]; exact new_at _ _
  have C3 : Hid (∀ W, Below w3.heap.size w3 W → W.heap[w2.heap.size]? = some (.cells (evA 2 1 7 ⟨#[78, 101, 119, 115]⟩ (.slice a 1 c)) 26 (0, 0))) := fun W h => (h.block _ (Array.getElem?_eq_some_iff.1 hn3).1).trans hn3
  clear hn3
  have hk := C3.out w3 (Below.refl _ _)
  have c3_0 : w3.cell? ⟨w2.heap.size, 0, none⟩ = some (.int .i64 2) := by rw [Lib.cell_of_heap hk]; rfl
  have c3_1 : w3.cell? ⟨w2.heap.size, 1, none⟩ = some (.int .i64 1) := by rw [Lib.cell_of_heap hk]; rfl
  have c3_2 : w3.cell? ⟨w2.heap.size, 2, none⟩ = some (.int .i64 7) := by rw [Lib.cell_of_heap hk]; rfl
  have c3_3 : w3.cell? ⟨w2.heap.size, 3, none⟩ = some (.string ⟨#[78, 101, 119, 115]⟩) := by rw [Lib.cell_of_heap hk]; rfl
  have c3_4 : w3.cell? ⟨w2.heap.size, 4, none⟩ = some (.slice a 1 c) := by rw [Lib.cell_of_heap hk]; rfl
  clear hk
  rw [hw3] at c3_0 c3_1 c3_2 c3_3 c3_4
  go_wp2_with fail
  rw [← hw3]
  clear hw3
  clear c3_0 c3_1 c3_2 c3_3 c3_4
  refine (HCh.out _ _ _ (bT (bT B1.out B2.out) B3.out) (HR.out _ B3.out)).mono ?_
  rintro e w4 ⟨rfl, hb⟩
  have B4 : Hid (Below w3.heap.size w3 w4) := hb
  clear hb 
  have hk := C3.out w4 B4.out
  have c3_0 : w4.cell? ⟨w2.heap.size, 0, none⟩ = some (.int .i64 2) := by rw [Lib.cell_of_heap hk]; rfl
  have c3_1 : w4.cell? ⟨w2.heap.size, 1, none⟩ = some (.int .i64 1) := by rw [Lib.cell_of_heap hk]; rfl
  have c3_2 : w4.cell? ⟨w2.heap.size, 2, none⟩ = some (.int .i64 7) := by rw [Lib.cell_of_heap hk]; rfl
  have c3_3 : w4.cell? ⟨w2.heap.size, 3, none⟩ = some (.string ⟨#[78, 101, 119, 115]⟩) := by rw [Lib.cell_of_heap hk]; rfl
  have c3_4 : w4.cell? ⟨w2.heap.size, 4, none⟩ = some (.slice a 1 c) := by rw [Lib.cell_of_heap hk]; rfl
  clear hk
  go_wp2_with fail
  clear c3_0 c3_1 c3_2 c3_3 c3_4
  refine (HSh.out _ _ _ (bT (bT (bT B1.out B2.out) B3.out) B4.out) (HR.out _ (bT B3.out B4.out))).mono ?_
  rintro e w5 ⟨rfl, hb⟩
  have B5 : Hid (Below w4.heap.size w4 w5) := hb
  clear hb 
  have hk := C3.out w5 (bT B4.out B5.out)
  have c3_0 : w5.cell? ⟨w2.heap.size, 0, none⟩ = some (.int .i64 2) := by rw [Lib.cell_of_heap hk]; rfl
  have c3_1 : w5.cell? ⟨w2.heap.size, 1, none⟩ = some (.int .i64 1) := by rw [Lib.cell_of_heap hk]; rfl
  have c3_2 : w5.cell? ⟨w2.heap.size, 2, none⟩ = some (.int .i64 7) := by rw [Lib.cell_of_heap hk]; rfl
  have c3_3 : w5.cell? ⟨w2.heap.size, 3, none⟩ = some (.string ⟨#[78, 101, 119, 115]⟩) := by rw [Lib.cell_of_heap hk]; rfl
  have c3_4 : w5.cell? ⟨w2.heap.size, 4, none⟩ = some (.slice a 1 c) := by rw [Lib.cell_of_heap hk]; rfl
  clear hk
  have hk := C1.out w5 (bT (bT (bT B2.out B3.out) B4.out) B5.out)
  have c1_0 : w5.cell? ⟨w.heap.size, 0, none⟩ = some (.int .i64 0) := by rw [Lib.cell_of_heap hk]; rfl
  have c1_1 : w5.cell? ⟨w.heap.size, 1, none⟩ = some (.int .i64 0) := by rw [Lib.cell_of_heap hk]; rfl
  have c1_2 : w5.cell? ⟨w.heap.size, 2, none⟩ = some (.int .i64 0) := by rw [Lib.cell_of_heap hk]; rfl
  have c1_3 : w5.cell? ⟨w.heap.size, 3, none⟩ = some (.string ⟨#[]⟩) := by rw [Lib.cell_of_heap hk]; rfl
  have c1_4 : w5.cell? ⟨w.heap.size, 4, none⟩ = some (.slice none 0 0) := by rw [Lib.cell_of_heap hk]; rfl
  have fz1 : ∀ j, w5.frozen? ⟨w.heap.size, j, none⟩ = false := fun j => Lib.frozen_of_heap hk j
  clear hk
  have HEnd : Hid (∀ u0 u1 u2 u3 u4, (∃ a' c', (.returned (.tuple #[.agg (evA 2 1 7 ⟨#[78, 101, 119, 115]⟩ (.slice a 1 c)), .int .i64 0]) : Ending) = .returned (.tuple #[.agg (evA 2 1 7 ⟨#[78, 101, 119, 115]⟩ (.slice a' 1 c')), .int .i64 0]) ∧ IsRow (((((w5.setCell ⟨w.heap.size, 0, none⟩ u0).setCell ⟨w.heap.size, 1, none⟩ u1).setCell ⟨w.heap.size, 2, none⟩ u2).setCell ⟨w.heap.size, 3, none⟩ u3).setCell ⟨w.heap.size, 4, none⟩ u4) 4 (.slice a' 1 c') 1 (aCells [exA])) ∧ Below w.heap.size w (((((w5.setCell ⟨w.heap.size, 0, none⟩ u0).setCell ⟨w.heap.size, 1, none⟩ u1).setCell ⟨w.heap.size, 2, none⟩ u2).setCell ⟨w.heap.size, 3, none⟩ u3).setCell ⟨w.heap.size, 4, none⟩ u4)) := fun u0 u1 u2 u3 u4 => ⟨⟨a, c, rfl, (row_far (row_far (row_far (row_far (row_far (HR.out w5 (bT (bT B3.out B4.out) B5.out)) HN.out Hlt.out 0 _) HN.out Hlt.out 1 _) HN.out Hlt.out 2 _) HN.out Hlt.out 3 _) HN.out Hlt.out 4 _)⟩, ((((((bT (bT (bT (bT B1.out B2.out) B3.out) B4.out) B5.out).setCell (p := ⟨w.heap.size, 0, none⟩) (Nat.le_refl _) u0).setCell (p := ⟨w.heap.size, 1, none⟩) (Nat.le_refl _) u1).setCell (p := ⟨w.heap.size, 2, none⟩) (Nat.le_refl _) u2).setCell (p := ⟨w.heap.size, 3, none⟩) (Nat.le_refl _) u3).setCell (p := ⟨w.heap.size, 4, none⟩) (Nat.le_refl _) u4)⟩
  go_wp2_with fail
  try simp only [Exit.inBlock, Exit.then]
  refine bodyPost_ret (v := .tuple #[.agg (evA 2 1 7 ⟨#[78, 101, 119, 115]⟩ (.slice a 1 c)), .int .i64 0]) ?_ rfl (HEnd.out _ _ _ _ _)
  rw [results_c2 rfl]; go_simp
end Go.Proofs.YtacpllmlpmllbaaGreatDoor
/- Slices of structs that came in, as rows. -/
namespace Go.Proofs.YtacpllmlpmllbaaGreatDoor
open Go.ChangeShapes Go.WideShapes Go.ChangeAt Go.WideMaps Go.WideElems Go.RowKit Go.Deep

theorem flatG_len {α : Type} (en : α → List Value) (sz : Nat) (hen : ∀ y, (en y).length = sz) (l : List α) : (l.flatMap en).length = l.length * sz := by
  induction l with
  | nil => simp
  | cons d D ih => rw [List.flatMap_cons, List.length_append, List.length_cons, ih, hen, Nat.succ_mul, Nat.add_comm]
theorem flatG_get {α : Type} (en : α → List Value) (sz : Nat) (hen : ∀ y, (en y).length = sz) : ∀ (l : List α) (k : Nat) (h : k < l.length) (i : Nat), i < sz → (l.flatMap en)[k * sz + i]? = (en l[k])[i]?
  | [], k, h, _, _ => absurd h (by simp)
  | d :: D, 0, _, i, hi => by
    rw [List.flatMap_cons, Nat.zero_mul, Nat.zero_add, List.getElem?_append_left (by rw [hen]; exact hi)]
    rfl
  | d :: D, k + 1, h, i, hi => by
    rw [List.flatMap_cons, List.getElem?_append_right (by rw [hen, Nat.succ_mul]; omega), hen, show (k + 1) * sz + i - sz = k * sz + i by rw [Nat.succ_mul]; omega, flatG_get en sz hen D k (by simpa using h) i hi]
    rfl
theorem addS_lit (b off j : Nat) : (⟨b, off, none⟩ : Addr).add j = ⟨b, off + j, none⟩ := by unfold Addr.add; split <;> simp_all
/-- A slice of structs of 'sz' cells each: read as a row. -/
theorem open_rows {α : Type} [Inhabited α] {H : Type} {enc : TypeId × Value → H} {w : World} {fuel : Nat} {v : Value} {x : DataW H × List MemPlace} (en : α → List Value) (sz bytes : Nat) {tS tE : TypeId}
    (hS : Tryz.prog.underlying tS = some (.slice tE)) (hC : Tryz.prog.cellsOf tE = sz) (hB : Tryz.prog.bytesOf tE = bytes) (hen : ∀ y, (en y).length = sz) (hsz : 0 < sz) (hby : 8 ≤ bytes)
    (op : ∀ (fuel : Nat) (cs : List Value) (y : DataW H × List MemPlace), DataW.trod enc Tryz.prog w 0 (fun _ => true) true fuel tE cs = some y → ∃ z : α, cs = en z)
    (h : DataW.trod enc Tryz.prog w 0 (fun _ => true) true fuel tS [v] = some x) (hz : ∀ n ∈ x.1.weights Tryz.prog tS, n ≤ reachBytes) :
    ∃ l : List α, IsRow w sz v l.length (l.flatMap en) ∧ l.length ≤ 140737488355328 := by
  rcases open_slice hS h with ⟨hv, _⟩ | ⟨a, len, cap, m, n, D, Pl, hv, hb, hl, hm, hmm, rfl, hx⟩
  · simp at hv
    subst hv
    exact ⟨[], ⟨by simp, .inl ⟨rfl, _, _, rfl⟩⟩, by simp⟩
  simp at hv
  subst hv
  simp at hmm
  subst hmm
  have key : ∀ i, i < len → ∃ y : α, w.cells? 0 (a.add (i * sz)) sz = some (en y) := by
    intro i hi
    obtain ⟨cs, hc, ht⟩ := hx i (by omega)
    rw [hC] at hc
    obtain ⟨y, rfl⟩ := op _ _ _ ht
    exact ⟨y, hc⟩
  obtain ⟨X, hX⟩ := choose_lt key
  have hlen : len * bytes ≤ reachBytes := by
    have := hz ((len + (m - len)) * bytes) (by simp only [DataW.weights, hS, hB]; simp)
    exact Nat.le_trans (Nat.mul_le_mul_right _ (by omega)) this
  have hlen8 : len * 8 ≤ reachBytes := Nat.le_trans (Nat.mul_le_mul_left _ hby) hlen
  refine ⟨(List.range len).map X, ⟨flatG_len en sz hen _, ?_⟩, ?_⟩
  · simp only [List.length_map, List.length_range]
    by_cases h0 : len = 0
    · subst h0
      exact .inl ⟨rfl, _, _, rfl⟩
    · right
      obtain ⟨b, off, spot⟩ := a
      have hspot : spot = none := by
        have := (World.cells?_some (hX 0 (by omega))).2.2 0 (by omega)
        obtain ⟨u, hu⟩ : ∃ u, (en (X 0))[0]? = some u := ⟨_, List.getElem?_eq_getElem (by rw [hen]; exact hsz)⟩
        rw [hu, Nat.zero_mul] at this
        simpa [Addr.add] using World.cell?_spot this
      subst hspot
      have hcell : ∀ i (hi : i < len) r, r < sz → w.cell? ⟨b, off + (i * sz + r), none⟩ = (en (X i))[r]? := by
        intro i hi r hr
        have := (World.cells?_some (hX i hi)).2.2 r hr
        rw [addS_lit, addS_lit] at this
        rw [← Nat.add_assoc]
        exact this
      refine ⟨b, off, m, rfl, ?_, hl, hm, ?_⟩
      · have := hcell 0 (by omega) 0 hsz
        obtain ⟨u, hu⟩ : ∃ u, (en (X 0))[0]? = some u := ⟨_, List.getElem?_eq_getElem (by rw [hen]; exact hsz)⟩
        rw [hu] at this
        exact block_lt_of_cell this
      · intro j u hu
        have hj : j < len * sz := by
          have := (List.getElem?_eq_some_iff.1 hu).1
          rw [flatG_len en sz hen] at this
          simpa using this
        have hq : j / sz < len := (Nat.div_lt_iff_lt_mul hsz).2 hj
        have hr : j % sz < sz := Nat.mod_lt _ hsz
        have hjj : j = j / sz * sz + j % sz := by rw [Nat.mul_comm]; exact (Nat.div_add_mod j sz).symm
        have hat := flatG_get en sz hen ((List.range len).map X) (j / sz) (by simpa using hq) (j % sz) hr
        simp only [List.getElem_map, List.getElem_range] at hat
        rw [← hjj] at hat
        rw [hat] at hu
        have := hcell (j / sz) hq (j % sz) hr
        rw [← hjj] at this
        rw [this]; exact hu
  · simp; unfold reachBytes at hlen8; omega
end Go.Proofs.YtacpllmlpmllbaaGreatDoor
/- The frame of a law over forests: the listed tables, the world's shape; fields that came in, slices of structs with slices in them. -/
namespace Go.Proofs.YtacpllmlpmllbaaGreatDoor
open Go.ChangeShapes Go.WideShapes Go.ChangeAt Go.WideMaps Go.WideElems Go.RowKit Go.Deep

theorem own : ownKnob Tryz.prog.godebug = none := by kernel_rfl
theorem laidOut : laidOutB Tryz.prog = true := by kernel_rfl
def laidT : List (String × DataW Unit) := [("unicode/utf8.acceptRanges", Rows.laid_unicode_utf8_acceptRanges), ("unicode/utf8.first", Rows.laid_unicode_utf8_first)]
theorem accept_eq : (Rows.laid_unicode_utf8_acceptRanges : DataW Unit) = Lib.acceptData := by kernel_rfl
theorem first_eq : Rows.laid_unicode_utf8_first = Lib.firstData := Pinned.utf8First_eq
theorem ml_of {W : World} (h : W.ShapedOpen Tryz.prog) : ML W :=
  cell_of_shapedOpen_int (P := Tryz.prog) (g := 2) (t := 3) (zero := #[.int .i64 0]) (k := .i64) h (of_decide_eq_true (by kernel_rfl)) (by kernel_rfl) rfl (by kernel_rfl) (by kernel_rfl) Tryz.underlying3

theorem frame_shaped {H : Type} {enc : TypeId × Value → H} {a : Assume} {C : Checked} {os : Os} {f : FuncId} {fn : Func} {s : ChangeSpec} {conds : List PathCond} {apart fresh handsOn again : Bool} {X : World → Array Value → Prop}
    (hX : ∀ (w w' : World) (args : Array Value), w.heap = w'.heap → X w args → X w' args)
    (own : ownKnob C.prog.godebug = none) (started : os.Started) (noInit : C.prog.inits.idxOf? f = none) (hfn : C.prog.funcs[f]? = some fn)
    (witness : ∃ (w : World) (tape : Tape) (i : Input), w.os = os ∧ (w.forCall tape i).Shaped C.prog ∧ i.vars = [] ∧ Input.okWide C.prog (w.forCall tape i) .any w.heap.size f i ∧
      ((s.pre enc C.prog fn conds apart (w.forCall tape i).memory i.args ∧ X (w.forCall tape i).memory i.args) ∧ sizedMet enc C.prog fn (OpenSpec.ofChange s) apart (w.forCall tape i).memory i.args) ∧ a.holds C.prog (lone (Frame.enter C.prog f i.args .normal) [] (w.forCall tape i)))
    (contract : ∀ (W : World) (base : Nat) (args : Array Value) (ds gs : List (DataW H)) (before : List MemPlace),
      (∀ (j : Nat) t v, fn.params[j]? = some t → args[j]? = some v → Value.okWide C.prog W .any base t v) →
      DataW.Whole enc C.prog fn.params.toList s.vars apart W args.toList ds gs before →
      (DataW.weightsEach C.prog (fn.params.toList ++ s.plain.varTypes C.prog) (ds ++ gs)).all (· ≤ reachBytes) = true → X W args → W.ShapedOpen C.prog →
      Calls C.prog f args W fun e W' => ∃ v, e = .returned v ∧ s.post enc C.prog fn apart fresh handsOn again W args v W') :
    ReturnsInHanded a C os f .any (fun w args => (s.pre enc C.prog fn conds apart w args ∧ X w args) ∧ sizedMet enc C.prog fn (OpenSpec.ofChange s) apart w args) (s.post enc C.prog fn apart fresh handsOn again) := by
  refine returnsInHanded_of_calls own started noInit witness fun w tape i _ hsh _ hok hpre _ => ?_
  obtain ⟨⟨⟨ds, gs, before, hw, _⟩, hx⟩, hz⟩ := hpre
  obtain ⟨_, _, _, fn2, hfn2, _, _, _, _, hval⟩ := hok
  cases Option.some.inj (hfn2.symm.trans hfn)
  have hw2 := DataW.Whole.of_heap (w' := w.forCall tape i) (by rfl) hw
  refine (contract _ w.heap.size i.args ds gs before hval hw2 (hz.weights hw) (hX _ _ _ (by rfl) hx) hsh).mono fun e W' h => ?_
  obtain ⟨v, rfl, hp⟩ := h
  exact ChangeSpec.post_blind hp
theorem all_met (os : Os) (args : Array Value) : laidMetH Tryz.prog laidT ((World.laidAll Tryz.prog os laidT).forCall (fun _ _ => 0) ⟨#[], args, []⟩).memory := by
  rw [MakeChecks.laidMetH_plain _ _ _ (by kernel_rfl)]
  exact laidMet_laidAll _ (by kernel_rfl) (by kernel_rfl)
theorem cI : Tryz.prog.cellsOf 3 = 1 := by kernel_rfl
theorem cS : Tryz.prog.cellsOf 9 = 1 := by kernel_rfl
instance : Inhabited Fd := ⟨⟨⟨#[]⟩, 0, false⟩⟩
theorem listS3 {α : Type} {l : List α} (h : l.length = 3) : ∃ c0 c1 c2, l = [c0, c1, c2] := by
  match l, h with
  | [c0, c1, c2], _ => exact ⟨c0, c1, c2, rfl⟩
theorem cID : Tryz.prog.cellsOf 23 = 3 := by kernel_rfl
theorem open_id {H : Type} {enc : TypeId × Value → H} {W : World} (fuel : Nat) (cs : List Value) (x : DataW H × List MemPlace) (h : DataW.trod enc Tryz.prog W 0 (fun _ => true) true fuel 23 cs = some x) : ∃ a b c : Int, cs = [.int .i64 a, .int .i64 b, .int .i64 c] := by
  obtain ⟨xs, n, _, rfl, hl, hlen, hf⟩ := DataW.trod_struct Tryz.underlying23 h
  rw [cID] at hl
  obtain ⟨c0, c1, c2, rfl⟩ := listS3 hl
  obtain ⟨y0, y1, y2, rfl⟩ := listS3 (l := xs) hlen
  have i0 := hf 0 _ rfl
  have i1 := hf 1 _ rfl
  have i2 := hf 2 _ rfl
  simp [cI] at i0 i1 i2
  obtain ⟨n0, e0, -, -⟩ := DataW.trod_int Tryz.underlying3 i0
  obtain ⟨n1, e1, -, -⟩ := DataW.trod_int Tryz.underlying3 i1
  obtain ⟨n2, e2, -, -⟩ := DataW.trod_int Tryz.underlying3 i2
  simp at e0 e1 e2
  subst e0 e1 e2
  exact ⟨n0, n1, n2, rfl⟩
end Go.Proofs.YtacpllmlpmllbaaGreatDoor
/- Types that came in; three names that came in. -/
namespace Go.Proofs.YtacpllmlpmllbaaGreatDoor
open Go.ChangeShapes Go.WideShapes Go.ChangeAt Go.WideMaps Go.WideElems Go.RowKit Go.Deep

instance : Inhabited LT := ⟨⟨⟨⟨#[]⟩, ⟨#[]⟩, [], [], [], 0, 0, 0⟩, none, 0, none, 0, none, 0⟩⟩
end Go.Proofs.YtacpllmlpmllbaaGreatDoor
/- Attributes, an event that came in. -/
namespace Go.Proofs.YtacpllmlpmllbaaGreatDoor
open Go.ChangeShapes Go.WideShapes Go.ChangeAt Go.WideMaps Go.WideElems Go.RowKit Go.Deep

theorem cA : Tryz.prog.cellsOf 78 = 4 := by kernel_rfl
theorem cV : Tryz.prog.cellsOf 76 = 3 := by kernel_rfl
theorem cEv : Tryz.prog.cellsOf 26 = 5 := by kernel_rfl
theorem cSlA : Tryz.prog.cellsOf 24 = 1 := by kernel_rfl
theorem listE2 {α : Type} {l : List α} (h : l.length = 2) : ∃ c0 c1, l = [c0, c1] := by
  match l, h with
  | [c0, c1], _ => exact ⟨c0, c1, rfl⟩
theorem listE4 {α : Type} {l : List α} (h : l.length = 4) : ∃ c0 c1 c2 c3, l = [c0, c1, c2, c3] := by
  match l, h with
  | [c0, c1, c2, c3], _ => exact ⟨c0, c1, c2, c3, rfl⟩
theorem listE5 {α : Type} {l : List α} (h : l.length = 5) : ∃ c0 c1 c2 c3 c4, l = [c0, c1, c2, c3, c4] := by
  match l, h with
  | [c0, c1, c2, c3, c4], _ => exact ⟨c0, c1, c2, c3, c4, rfl⟩
theorem open_vv {H : Type} {enc : TypeId × Value → H} {W : World} (fuel : Nat) (cs : List Value) (x : DataW H × List MemPlace) (h : DataW.trod enc Tryz.prog W 0 (fun _ => true) true fuel 76 cs = some x) : ∃ (k n : Int) (s : ByteArray), cs = [.int .i64 k, .int .i64 n, .string s] := by
  obtain ⟨xs, n, _, rfl, hl, hlen, hf⟩ := DataW.trod_struct Tryz.underlying76 h
  rw [cV] at hl
  obtain ⟨c0, c1, c2, rfl⟩ := listS3 hl
  obtain ⟨y0, y1, y2, rfl⟩ := listS3 (l := xs) hlen
  have i0 := hf 0 _ rfl
  have i1 := hf 1 _ rfl
  have i2 := hf 2 _ rfl
  simp [cI, cS] at i0 i1 i2
  obtain ⟨n0, e0, -, -⟩ := DataW.trod_int Tryz.underlying3 i0
  obtain ⟨n1, e1, -, -⟩ := DataW.trod_int Tryz.underlying3 i1
  obtain ⟨s, e2, -, -⟩ := DataW.trod_string Tryz.underlying9 i2
  simp at e0 e1 e2
  subst e0 e1 e2
  exact ⟨n0, n1, s, rfl⟩
theorem open_at {H : Type} {enc : TypeId × Value → H} {W : World} (fuel : Nat) (cs : List Value) (x : DataW H × List MemPlace) (h : DataW.trod enc Tryz.prog W 0 (fun _ => true) true fuel 78 cs = some x) : ∃ z : At, cs = enA z := by
  obtain ⟨xs, n, _, rfl, hl, hlen, hf⟩ := DataW.trod_struct Tryz.underlying78 h
  rw [cA] at hl
  obtain ⟨c0, c1, c2, c3, rfl⟩ := listE4 hl
  obtain ⟨y0, y1, rfl⟩ := listE2 (l := xs) hlen
  have i0 := hf 0 _ rfl
  have i1 := hf 1 _ rfl
  simp [cS, cV] at i0 i1
  obtain ⟨s0, e0, -, -⟩ := DataW.trod_string Tryz.underlying9 i0
  obtain ⟨k, n1, s, e1⟩ := open_vv _ _ _ i1
  simp at e0 e1
  obtain ⟨rfl, rfl, rfl⟩ := e1
  subst e0
  exact ⟨⟨s0, k, n1, s⟩, rfl⟩
instance : Inhabited At := ⟨⟨⟨#[]⟩, 0, 0, ⟨#[]⟩⟩⟩
theorem open_ats {H : Type} {enc : TypeId × Value → H} {w : World} {fuel : Nat} {v : Value} {x : DataW H × List MemPlace} (h : DataW.trod enc Tryz.prog w 0 (fun _ => true) true fuel 24 [v] = some x) (hz : ∀ n ∈ x.1.weights Tryz.prog 24, n ≤ reachBytes) :
    ∃ l : List At, IsRow w 4 v l.length (aCells l) ∧ l.length ≤ 140737488355328 :=
  open_rows enA 4 48 Tryz.underlying24 cA (by kernel_rfl) (fun _ => rfl) (by omega) (by omega) open_at h hz
set_option maxRecDepth 100000 in
theorem open_event {H : Type} {enc : TypeId × Value → H} {W : World} {b1 : Nat} {v : Value} {d : DataW H} {p : List MemPlace} (hv : Value.okWide Tryz.prog W .any b1 26 v) (h : DataW.Trod enc Tryz.prog W 0 (fun _ => true) true 26 v d p) (hz : ∀ n ∈ d.weights Tryz.prog 26, n ≤ reachBytes) :
    ∃ (a b c : Int) (k : ByteArray) (u : Value) (l : List At), v = .agg (evA a b c k u) ∧ IsRow W 4 u l.length (aCells l) ∧ l.length ≤ 140737488355328 := by
  obtain ⟨cs, rfl, hsz⟩ := okWide_struct Tryz.underlying26 hv
  obtain ⟨fuel, hf⟩ := h
  obtain ⟨xs, n, _, hd, hl, hlen, hf⟩ := DataW.trod_struct Tryz.underlying26 hf
  rw [cEv] at hl
  obtain ⟨c0, c1, c2, c3, c4, hcs⟩ := listE5 hl
  obtain ⟨y0, y1, y2, rfl⟩ := listS3 (l := xs) hlen
  rw [hcs] at hf
  have i0 := hf 0 _ rfl
  have i1 := hf 1 _ rfl
  have i2 := hf 2 _ rfl
  simp [cID, cS, cSlA] at i0 i1 i2
  obtain ⟨a, b, c, e0⟩ := open_id _ _ _ i0
  obtain ⟨k, e1, -, -⟩ := DataW.trod_string Tryz.underlying9 i1
  simp at e0 e1
  obtain ⟨rfl, rfl, rfl⟩ := e0
  subst e1
  obtain ⟨hd1, -⟩ := Prod.mk.inj hd
  subst hd1
  obtain ⟨l, hr, hb⟩ := open_ats i2 (fun m hm => hz m (by
    simp only [DataW.weights, Tryz.underlying26, List.map_cons, List.map_nil, DataW.weightsEach, List.mem_append]
    exact .inr (.inr (.inl hm))))
  refine ⟨a, b, c, k, c4, l, ?_, hr, hb⟩
  have : cs = evA a b c k c4 := by
    have e : (Value.agg cs).cells.toList = cs.toList := rfl
    rw [e] at hcs
    cases cs
    simpa using hcs
  rw [this]
end Go.Proofs.YtacpllmlpmllbaaGreatDoor
/- What the listed variables give; and a world that meets the condition. -/
namespace Go.Proofs.YtacpllmlpmllbaaGreatDoor.V
open Go.ChangeShapes Go.WideShapes Go.ChangeAt Go.WideMaps Go.WideElems Go.RowKit

theorem own : ownKnob Tryz.prog.godebug = none := by kernel_rfl
theorem laidOut : laidOutB Tryz.prog = true := by kernel_rfl
def laidV : List (String × DataW Unit) := [("math/bits.deBruijn32tab", Rows.laid_math_bits_deBruijn32tab), ("math/bits.deBruijn64tab", Rows.laid_math_bits_deBruijn64tab), ("internal/strconv.uint64pow10", Rows.laid_internal_strconv_uint64pow10), ("unicode/utf8.acceptRanges", Rows.laid_unicode_utf8_acceptRanges), ("strconv.ErrRange", Rows.laid_strconv_ErrRange), ("strconv.ErrSyntax", Rows.laid_strconv_ErrSyntax), ("unicode/utf8.first", Rows.laid_unicode_utf8_first)]
theorem accept_eq : (Rows.laid_unicode_utf8_acceptRanges : DataW Unit) = Lib.acceptData := by kernel_rfl
theorem first_eq : Rows.laid_unicode_utf8_first = Lib.firstData := Pinned.utf8First_eq
def tab64 : List Int := [0, 1, 56, 2, 57, 49, 28, 3, 61, 58, 42, 50, 38, 29, 17, 4, 62, 47, 59, 36, 45, 43, 51, 22, 53, 39, 33, 30, 24, 18, 12, 5, 63, 55, 48, 27, 60, 41, 37, 16, 46, 35, 44, 21, 52, 32, 23, 11, 54, 26, 40, 15, 34, 20, 31, 10, 25, 14, 19, 9, 13, 8, 7, 6]
theorem g64 : Tryz.prog.globalNamed "math/bits.deBruijn64tab" = some 4 := by kernel_rfl
theorem t64 : (Tryz.prog.globals[4]?).map (·.type) = some 247 := by kernel_rfl
theorem ml_of {W : World} (h : W.ShapedOpen Tryz.prog) : ML W :=
  cell_of_shapedOpen_int (P := Tryz.prog) (g := 2) (t := 3) (zero := #[.int .i64 0]) (k := .i64) h (of_decide_eq_true (by kernel_rfl)) (by kernel_rfl) rfl (by kernel_rfl) (by kernel_rfl) Tryz.underlying3
theorem vt_of {W : World} (h : laidMetH Tryz.prog laidV W) (hsh : W.ShapedOpen Tryz.prog) : VT W := by
  rw [MakeChecks.laidMetH_plain _ _ _ (by kernel_rfl)] at h
  have h2 := laidMet.tail h
  have h3 : Lib.TabIs Tryz.prog W "math/bits.deBruijn64tab" .u8 tab64 := Lib.tabIs_of_head g64 t64 Tryz.underlying247 Tryz.underlying5 (by kernel_rfl) (by kernel_rfl) h2
  refine ⟨?_, h3.cell g64 15 (by decide), ml_of hsh⟩
  exact utf8Tabs_of_readsT (U8Types.of196 Tryz.lays196) ⟨by kernel_rfl, by kernel_rfl, by kernel_rfl, by kernel_rfl, by kernel_rfl, by kernel_rfl, by kernel_rfl⟩ (first_eq ▸ Lib.laidMet.reads h (.tail _ (.tail _ (.tail _ (.tail _ (.tail _ (.tail _ (.head _)))))))) (accept_eq ▸ Lib.laidMet.reads h (.tail _ (.tail _ (.tail _ (.head _)))))
theorem all_met (os : Os) (args : Array Value) : laidMetH Tryz.prog laidV ((World.laidAll Tryz.prog os laidV).forCall (fun _ _ => 0) ⟨#[], args, []⟩).memory := by
  rw [MakeChecks.laidMetH_plain _ _ _ (by kernel_rfl)]
  exact laidMet_laidAll _ (by kernel_rfl) (by kernel_rfl)
end Go.Proofs.YtacpllmlpmllbaaGreatDoor.V
/- The frame of a law over values: the listed tables and the world's shape; a value opened and shut. -/
namespace Go.Proofs.YtacpllmlpmllbaaGreatDoor.V
open Go.ChangeShapes Go.WideShapes Go.ChangeAt Go.WideMaps Go.WideElems Go.RowKit Go.Joins

theorem frame_shaped {H : Type} {enc : TypeId × Value → H} {a : Assume} {C : Checked} {os : Os} {f : FuncId} {fn : Func} {s : ChangeSpec} {conds : List PathCond} {apart fresh handsOn again : Bool} {X : World → Array Value → Prop}
    (hX : ∀ (w w' : World) (args : Array Value), w.heap = w'.heap → X w args → X w' args)
    (own : ownKnob C.prog.godebug = none) (started : os.Started) (noInit : C.prog.inits.idxOf? f = none) (hfn : C.prog.funcs[f]? = some fn)
    (witness : ∃ (w : World) (tape : Tape) (i : Input), w.os = os ∧ (w.forCall tape i).Shaped C.prog ∧ i.vars = [] ∧ Input.okWide C.prog (w.forCall tape i) .any w.heap.size f i ∧
      ((s.pre enc C.prog fn conds apart (w.forCall tape i).memory i.args ∧ X (w.forCall tape i).memory i.args) ∧ sizedMet enc C.prog fn (OpenSpec.ofChange s) apart (w.forCall tape i).memory i.args) ∧ a.holds C.prog (lone (Frame.enter C.prog f i.args .normal) [] (w.forCall tape i)))
    (contract : ∀ (W : World) (base : Nat) (args : Array Value) (ds gs : List (DataW H)) (before : List MemPlace),
      (∀ (j : Nat) t v, fn.params[j]? = some t → args[j]? = some v → Value.okWide C.prog W .any base t v) →
      DataW.Whole enc C.prog fn.params.toList s.vars apart W args.toList ds gs before →
      (DataW.weightsEach C.prog (fn.params.toList ++ s.plain.varTypes C.prog) (ds ++ gs)).all (· ≤ reachBytes) = true → X W args → W.ShapedOpen C.prog →
      Calls C.prog f args W fun e W' => ∃ v, e = .returned v ∧ s.post enc C.prog fn apart fresh handsOn again W args v W') :
    ReturnsInHanded a C os f .any (fun w args => (s.pre enc C.prog fn conds apart w args ∧ X w args) ∧ sizedMet enc C.prog fn (OpenSpec.ofChange s) apart w args) (s.post enc C.prog fn apart fresh handsOn again) := by
  refine returnsInHanded_of_calls own started noInit witness fun w tape i _ hsh _ hok hpre _ => ?_
  obtain ⟨⟨⟨ds, gs, before, hw, _⟩, hx⟩, hz⟩ := hpre
  obtain ⟨_, _, _, fn2, hfn2, _, _, _, _, hval⟩ := hok
  cases Option.some.inj (hfn2.symm.trans hfn)
  have hw2 := DataW.Whole.of_heap (w' := w.forCall tape i) (by rfl) hw
  refine (contract _ w.heap.size i.args ds gs before hval hw2 (hz.weights hw) (hX _ _ _ (by rfl) hx) hsh).mono fun e W' h => ?_
  obtain ⟨v, rfl, hp⟩ := h
  exact ChangeSpec.post_blind hp

end Go.Proofs.YtacpllmlpmllbaaGreatDoor.V
