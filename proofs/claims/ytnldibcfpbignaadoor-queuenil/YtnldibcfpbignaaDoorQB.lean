/- queue's New, Len, Room, Over, mayBe, copyOf, and what they call, at what the laws offer: walks. -/
import Derived.Test.YtnldibcfpbignaaDoorQA
import Derived.Test.YtnldibcfpbignaaDoorNB
namespace Go.Proofs.YtnldibcfpbignaaDoor
open Go.RowKit Go.ChangeMaps

theorem al_b (w : World) (o : Obj) : Below w.heap.size w (w.alloc o) := (Below.refl _ _).alloc (Nat.le_refl _) _
theorem wrapI {z : Int} (h1 : -9223372036854775808 ≤ z) (h2 : z ≤ 9223372036854775807) : IntKind.i64.wrap z = z := by
  simp only [IntKind.wrap, IntKind.signed, IntKind.bits]
  simp
  omega
theorem results_cellK {fn : Func} {p : Tmp} {ty : TypeId} (h : fn.results = #[.cell p ty]) (tmps : Array Value) (P : Program) (w : World) :
    (results fn tmps).run P w = ((asAddr (tmps.getD p undef)).run P w).andThen fun a w₁ => (loadVar ty a).run P w₁ := by
  simp only [results, h]
  simp [Sem.run_bind, Result.andThen]
abbrev tB : ByteArray := ⟨#[116]⟩
/-- What the laws offer. -/
abbrev gk (s q : Int) : Gv := ⟨s, tB, 1, 1, q, tB, none, 0, 0⟩
abbrev evV (q : Int) : Value := .agg #[.int .i64 1, .int .i64 1, .int .i64 q, .string tB, .slice none 0 0]
abbrev nilQ : Value := .pointer none
abbrev qP (g : Nat) : Value := .pointer (some ⟨g, 0, none⟩)
theorem tcheck (w : World) : Calls Tryd.prog 38 #[.string tB] w fun e w' => e = .returned (.int .i64 0) ∧ Below w.heap.size w w' := by
  have h := check_any tB w (by decide)
  have e0 : checkL tB.data.toList = 0 := by decide +kernel
  rw [e0] at h
  exact h
theorem fcounts_ok (n : Int) (h1 : 1 ≤ n) (h2 : n ≤ 1099511627775) (w : World) : Calls Tryd.prog 59 #[.int .i64 n] w fun e w' => e = .returned (.bool true) ∧ w' = w := by
  have d1 : decide ((1 : Int) ≤ n) = true := decide_eq_true h1
  have d2 : decide (n ≤ (1099511627775 : Int)) = true := decide_eq_true h2
  go_enter Tryd.func59, Tryd.ntmps59
  go_wp2
  go_ret
  exact ⟨rfl, rfl⟩
theorem isID_ok (q : Int) (h1 : 1 ≤ q) (h2 : q ≤ 1099511627775) (w : World) : Calls Tryd.prog 51 #[.agg #[.int .i64 1, .int .i64 1, .int .i64 q]] w fun e w' => e = .returned (.bool true) ∧ Below w.heap.size w w' := by
  have H1 : Hid (∀ w, Calls Tryd.prog 59 #[.int .i64 1] w fun e w' => e = .returned (.bool true) ∧ w' = w) := fun w => fcounts_ok 1 (by omega) (by omega) w
  have H2 : Hid (∀ w, Calls Tryd.prog 59 #[.int .i64 q] w fun e w' => e = .returned (.bool true) ∧ w' = w) := fun w => fcounts_ok q h1 h2 w
  have HB : Hid (Below w.heap.size w (w.alloc (.cells #[.int .i64 1, .int .i64 1, .int .i64 q] 33))) := al_b w _
  clear h1 h2
  go_enter Tryd.func51, Tryd.ntmps51
  go_wp2_with fail
  refine (H1.out _).mono ?_
  rintro e w' ⟨rfl, rfl⟩
  go_wp2_with fail
  refine (H2.out _).mono ?_
  rintro e w' ⟨rfl, rfl⟩
  go_wp2
  go_ret
  exact ⟨rfl, HB.out⟩
theorem attrs_nil (w : World) : Calls Tryd.prog 52 #[.slice none 0 0] w fun e w' => e = .returned (.bool true) ∧ w' = w := by
  go_enter Tryd.func52, Tryd.ntmps52
  go_wp2_with fail
  refine wp_loop_rounds 1 ?_
  rw [rounds_succ]
  go_wp2
  first | go_ret3 | go_ret
  exact ⟨rfl, rfl⟩
theorem evCheck_ok (q : Int) (h1 : 1 ≤ q) (h2 : q ≤ 1099511627775) (w : World) : Calls Tryd.prog 39 #[evV q] w fun e w' => e = .returned (.bool true) ∧ Below w.heap.size w w' := by
  have H1 : Hid (∀ w, Calls Tryd.prog 51 #[.agg #[.int .i64 1, .int .i64 1, .int .i64 q]] w fun e w' => e = .returned (.bool true) ∧ Below w.heap.size w w') := fun w => isID_ok q h1 h2 w
  have H2 : Hid (∀ w, Calls Tryd.prog 38 #[.string tB] w fun e w' => e = .returned (.int .i64 0) ∧ Below w.heap.size w w') := tcheck
  have H3 : Hid (∀ w, Calls Tryd.prog 52 #[.slice none 0 0] w fun e w' => e = .returned (.bool true) ∧ w' = w) := attrs_nil
  clear h1 h2
  go_enter Tryd.func39, Tryd.ntmps39
  go_wp2_with fail
  refine (H1.out _).mono ?_
  rintro e w1 ⟨rfl, hb⟩
  obtain ⟨c1, -, hB1, hs1⟩ := part_cells0 hb
  have z3 : w1.cell? ⟨w.heap.size, 3, none⟩ = some (.string tB) := c1 3
  have z4 : w1.cell? ⟨w.heap.size, 4, none⟩ = some (.slice none 0 0) := c1 4
  have HB1 : Hid (Below w.heap.size w w1) := hB1
  clear c1 hb hB1
  go_wp2_with fail
  refine (H2.out _).mono ?_
  rintro e w2 ⟨rfl, hb⟩
  have z4' : w2.cell? ⟨w.heap.size, 4, none⟩ = some (.slice none 0 0) := (hb.cell (p := ⟨w.heap.size, 4, none⟩) hs1).trans z4
  have HB2 : Hid (Below w.heap.size w w2) := HB1.out.trans (hb.mono HB1.out.size)
  clear hb z3 z4
  go_wp2_with fail
  refine (H3.out _).mono ?_
  rintro e w3 ⟨rfl, rfl⟩
  go_wp2
  go_ret
  exact ⟨rfl, HB2.out⟩
theorem mayBe_ok (s q : Int) (hs : 1 ≤ s) (h1 : 1 ≤ q) (h2 : q ≤ 1099511627775) (w : World) : Calls Tryd.prog 27 #[gV (gk s q)] w fun e w' => e = .returned (.bool true) ∧ Below w.heap.size w w' := by
  have H1 : Hid (∀ w, Calls Tryd.prog 39 #[evV q] w fun e w' => e = .returned (.bool true) ∧ Below w.heap.size w w') := fun w => evCheck_ok q h1 h2 w
  have H2 : Hid (∀ w, Calls Tryd.prog 38 #[.string tB] w fun e w' => e = .returned (.int .i64 0) ∧ Below w.heap.size w w') := tcheck
  have d1 : decide ((1 : Int) ≤ s) = true := decide_eq_true hs
  clear h1 h2
  go_enter Tryd.func27, Tryd.ntmps27
  go_wp2_with fail
  refine (H2.out _).mono ?_
  rintro e w1 ⟨rfl, hb⟩
  obtain ⟨c1, -, hB1, hs1⟩ := part_cells0 hb
  have z2 : w1.cell? ⟨w.heap.size, 2, none⟩ = some (.int .i64 1) := c1 2
  have z3 : w1.cell? ⟨w.heap.size, 3, none⟩ = some (.int .i64 1) := c1 3
  have z4 : w1.cell? ⟨w.heap.size, 4, none⟩ = some (.int .i64 q) := c1 4
  have z5 : w1.cell? ⟨w.heap.size, 5, none⟩ = some (.string tB) := c1 5
  have z6 : w1.cell? ⟨w.heap.size, 6, none⟩ = some (.slice none 0 0) := c1 6
  have HB1 : Hid (Below w.heap.size w w1) := hB1
  clear c1 hb hB1
  go_wp2_with fail
  refine (H1.out _).mono ?_
  rintro e w2 ⟨rfl, hb⟩
  have HB2 : Hid (Below w.heap.size w w2) := HB1.out.trans (hb.mono HB1.out.size)
  clear hb
  go_wp2
  go_ret
  exact ⟨rfl, HB2.out⟩
theorem cloneA_nil (w : World) : Calls Tryd.prog 40 #[.slice none 0 0] w fun e w' => e = .returned (.slice none 0 0) ∧ w' = w := by
  have heq : ∀ w, (binOp BinOp.eql 34 (.slice none 0 0) (.slice none 0 0)).run Tryd.prog w = .ok (.bool true) w := fun w => by kernel_rfl
  go_enter Tryd.func40, Tryd.ntmps40
  go_wp2
  go_ret
  exact ⟨rfl, rfl⟩
theorem copyOf_ok (s q : Int) (w : World) : Calls Tryd.prog 28 #[gV (gk s q)] w fun e w' => e = .returned (gV (gk s q)) ∧ Below w.heap.size w w' := by
  have H1 : Hid (∀ w, Calls Tryd.prog 40 #[.slice none 0 0] w fun e w' => e = .returned (.slice none 0 0) ∧ w' = w) := cloneA_nil
  go_enter Tryd.func28, Tryd.ntmps28
  go_wp2_with fail
  refine (H1.out _).mono ?_
  rintro e w' ⟨rfl, rfl⟩
  go_wp2
  refine bodyPost_ret (v := gV (gk s q)) ?_ rfl ⟨rfl, (al_b _ _).trans ((al_b _ _).mono (by simp))⟩
  rw [results_cellK rfl]; go_simp
theorem oneV_ok (q : Int) (w : World) : Calls Tryd.prog 23 #[.int .i64 q] w fun e w' => e = .returned (evV q) ∧ Below w.heap.size w w' := by
  go_enter Tryd.func23, Tryd.ntmps23
  go_wp2
  refine bodyPost_ret (v := evV q) ?_ rfl ⟨rfl, al_b _ _⟩
  rw [results_cellK rfl]; go_simp
end Go.Proofs.YtnldibcfpbignaaDoor
