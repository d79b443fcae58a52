/- value.Any; ValueAny: for every value the law returns true. -/
import Derived.Test.YtbnecokbbmlekaaDoorVT
import Derived.Lib.ConvBytes
namespace Go.Proofs.YtbnecokbbmlekaaDoor
open Go.RowKit

theorem ta_int_string (n : Int) (W : World) : (Instr.typeAssert (.iface 3 (.int .i64 n)) 20 9 true).run Tryd.prog W = .ok (.tuple #[.string ⟨#[]⟩, .bool false]) W := by kernel_rfl
theorem ta_int_bool (n : Int) (W : World) : (Instr.typeAssert (.iface 3 (.int .i64 n)) 20 4 true).run Tryd.prog W = .ok (.tuple #[.bool false, .bool false]) W := by kernel_rfl
theorem ta_int_bytes (n : Int) (W : World) : (Instr.typeAssert (.iface 3 (.int .i64 n)) 20 34 true).run Tryd.prog W = .ok (.tuple #[.slice none 0 0, .bool false]) W := by kernel_rfl
theorem ta_string_bool (s : ByteArray) (W : World) : (Instr.typeAssert (.iface 9 (.string s)) 20 4 true).run Tryd.prog W = .ok (.tuple #[.bool false, .bool false]) W := by kernel_rfl
theorem ta_string_bytes (s : ByteArray) (W : World) : (Instr.typeAssert (.iface 9 (.string s)) 20 34 true).run Tryd.prog W = .ok (.tuple #[.slice none 0 0, .bool false]) W := by kernel_rfl
theorem ta_bool_bytes (b : Bool) (W : World) : (Instr.typeAssert (.iface 4 (.bool b)) 20 34 true).run Tryd.prog W = .ok (.tuple #[.slice none 0 0, .bool false]) W := by kernel_rfl
theorem ta_nil_int (W : World) : (Instr.typeAssert .nilIface 20 3 true).run Tryd.prog W = .ok (.tuple #[.int .i64 0, .bool false]) W := by kernel_rfl
theorem ta_nil_string (W : World) : (Instr.typeAssert .nilIface 20 9 true).run Tryd.prog W = .ok (.tuple #[.string ⟨#[]⟩, .bool false]) W := by kernel_rfl
theorem ta_nil_bool (W : World) : (Instr.typeAssert .nilIface 20 4 true).run Tryd.prog W = .ok (.tuple #[.bool false, .bool false]) W := by kernel_rfl
theorem ta_nil_bytes (W : World) : (Instr.typeAssert .nilIface 20 34 true).run Tryd.prog W = .ok (.tuple #[.slice none 0 0, .bool false]) W := by kernel_rfl

set_option maxRecDepth 100000 in
theorem valueOf_nil (w : World) :
    Calls Tryd.prog 15 #[.nilIface] w fun e w' => e = .returned v0 ∧ Below w.heap.size w w' := by
  have k1 := ta_nil_int
  have k2 := ta_nil_string
  have k3 := ta_nil_bool
  have k4 := ta_nil_bytes
  go_enter Tryd.func15, Tryd.ntmps15
  go_wp2
  try simp only [Exit.inBlock, Exit.then]
  exact bodyPost_ret (results_v1 rfl _ _ w.heap.size rfl (Three.new w 0 0 ⟨#[]⟩)) rfl ⟨rfl, (Below.refl _ _).alloc (Nat.le_refl _) _⟩
theorem vc_below (w : World) (k n : Int) (s : ByteArray) : Below w.heap.size w (w.alloc (vcells k n s)) := (Below.refl _ _).alloc (Nat.le_refl _) _
set_option maxRecDepth 100000 in
theorem any_no (k n : Int) (s : ByteArray) (w : World) (hs : s.size ≤ 140737488355328) (hU : UT w) (hc : chkV k n s = false) :
    Calls Tryd.prog 8 #[vv k n s] w fun e w' => e = .returned .nilIface ∧ Below w.heap.size w w' := by
  go_enter Tryd.func8, Tryd.ntmps8
  go_wp2_with fail
  refine (check_any k n s _ hs (Utf8Tabs_below hU (vc_below w k n s))).mono ?_
  rintro e w2 ⟨rfl, hb2⟩
  rw [hc]
  have hB2 := (vc_below w k n s).trans (hb2.mono (by simp))
  clear hb2
  go_wp2
  go_ret
  exact ⟨rfl, hB2⟩
set_option maxRecDepth 100000 in
theorem any_int (n : Int) (s : ByteArray) (w : World) (hs : s.size ≤ 140737488355328) (hU : UT w) (hc : chkV 1 n s = true) :
    Calls Tryd.prog 8 #[vv 1 n s] w fun e w' => e = .returned (.iface 3 (.int .i64 n)) ∧ Below w.heap.size w w' := by
  go_enter Tryd.func8, Tryd.ntmps8
  go_wp2_with fail
  refine (check_any 1 n s _ hs (Utf8Tabs_below hU (vc_below w 1 n s))).mono ?_
  rintro e w2 ⟨rfl, hb2⟩
  rw [hc]
  obtain ⟨c0, c1, c2⟩ := (Three.new w 1 n s).below hb2
  have hB2 := (vc_below w 1 n s).trans (hb2.mono (by simp))
  clear hb2
  go_wp2
  go_ret
  exact ⟨rfl, hB2⟩
set_option maxRecDepth 100000 in
theorem any_text (n : Int) (s : ByteArray) (w : World) (hs : s.size ≤ 140737488355328) (hU : UT w) (hc : chkV 2 n s = true) :
    Calls Tryd.prog 8 #[vv 2 n s] w fun e w' => e = .returned (.iface 9 (.string s)) ∧ Below w.heap.size w w' := by
  go_enter Tryd.func8, Tryd.ntmps8
  go_wp2_with fail
  refine (check_any 2 n s _ hs (Utf8Tabs_below hU (vc_below w 2 n s))).mono ?_
  rintro e w2 ⟨rfl, hb2⟩
  rw [hc]
  obtain ⟨c0, c1, c2⟩ := (Three.new w 2 n s).below hb2
  have hB2 := (vc_below w 2 n s).trans (hb2.mono (by simp))
  clear hb2
  go_wp2
  go_ret
  exact ⟨rfl, hB2⟩
set_option maxRecDepth 100000 in
theorem any_bool (n : Int) (s : ByteArray) (w : World) (hs : s.size ≤ 140737488355328) (hU : UT w) (hc : chkV 3 n s = true) :
    Calls Tryd.prog 8 #[vv 3 n s] w fun e w' => e = .returned (.iface 4 (.bool (n == 1))) ∧ Below w.heap.size w w' := by
  go_enter Tryd.func8, Tryd.ntmps8
  go_wp2_with fail
  refine (check_any 3 n s _ hs (Utf8Tabs_below hU (vc_below w 3 n s))).mono ?_
  rintro e w2 ⟨rfl, hb2⟩
  rw [hc]
  obtain ⟨c0, c1, c2⟩ := (Three.new w 3 n s).below hb2
  have hB2 := (vc_below w 3 n s).trans (hb2.mono (by simp))
  clear hb2
  go_wp2
  go_ret
  exact ⟨rfl, hB2⟩
/-- A row of bytes, whatever its room. -/
def RowC (w : World) (v : Value) (xs : List Int) : Prop :=
  (xs = [] ∧ ∃ a cap, v = .slice a 0 cap) ∨ ∃ b off cap, v = .slice (some ⟨b, off, none⟩) xs.length cap ∧ b < w.heap.size ∧ ∀ j u, (bcells xs)[j]? = some u → w.cell? ⟨b, off + j, none⟩ = some u
theorem RowC.below {w w' : World} {v : Value} {xs : List Int} (h : RowC w v xs) (hb : Below w.heap.size w w') : RowC w' v xs := by
  rcases h with h | ⟨b, off, cap, rfl, hlt, hcell⟩
  · exact .inl h
  · exact .inr ⟨b, off, cap, rfl, Nat.lt_of_lt_of_le hlt hb.size, fun j u hu => (hb.cell (p := ⟨b, off + j, none⟩) hlt).trans (hcell j u hu)⟩
theorem RowC.form {w : World} {v : Value} {xs : List Int} (h : RowC w v xs) : ∃ a cap, v = .slice a xs.length cap := by
  rcases h with ⟨rfl, a, cap, rfl⟩ | ⟨b, off, cap, rfl, _⟩
  · exact ⟨a, cap, rfl⟩
  · exact ⟨_, _, rfl⟩
theorem conv_rowC {w : World} {v : Value} {xs : List Int} (h : RowC w v xs) : (convert 34 9 v).run Tryd.prog w = .ok (.string (strOfNums xs)) w := by
  rcases h with ⟨rfl, a, cap, rfl⟩ | ⟨b, off, cap, rfl, hb, hcell⟩
  · exact run_convert_bytes_zero (P := Tryd.prog) w 34 5 Tryd.underlying34 Tryd.underlying5 a cap 9 Tryd.underlying9
  · refine run_convert_bytes_arg (P := Tryd.prog) w 34 5 Tryd.underlying34 Tryd.underlying5 b off xs.length cap xs rfl ?_ 9 Tryd.underlying9
    intro i hi
    rw [hcell i (.int .u8 (xs.getD i 0)) (by simp [bcells, hi])]
set_option maxRecDepth 100000 in
theorem valueOf_bytesC (v : Value) (xs : List Int) (w : World) (h : RowC w v xs) :
    Calls Tryd.prog 15 #[.iface 34 v] w fun e w' => e = .returned (vv 4 0 (strOfNums xs)) ∧ Below w.heap.size w w' := by
  have hcv := conv_rowC (h.below (wv_below w))
  obtain ⟨a, cap, rfl⟩ := h.form
  have k1 := ta_bytes_int a xs.length cap
  have k2 := ta_bytes_string a xs.length cap
  have k3 := ta_bytes_bool a xs.length cap
  have k4 := ta_bytes_bytes a xs.length cap
  go_enter Tryd.func15, Tryd.ntmps15
  go_wp2
  try simp only [Exit.inBlock, Exit.then]
  exact bodyPost_ret (results_v1 rfl _ _ w.heap.size rfl (Three.new w 4 0 (strOfNums xs))) rfl ⟨rfl, (Below.refl _ _).alloc (Nat.le_refl _) _⟩
/-- The bytes of a text, as numbers. -/
def numsOf (s : ByteArray) : List Int := s.data.toList.map fun b => (b.toNat : Int)
theorem numsOf_str (s : ByteArray) : strOfNums (numsOf s) = s := ba_eq (by
  rw [strOfNums_data]
  unfold numsOf
  rw [List.map_map]
  have e : ((fun n : Int => UInt8.ofNat n.toNat) ∘ fun b : UInt8 => (b.toNat : Int)) = id := funext fun b => by simp
  rw [e, List.map_id])
theorem numsOf_len (s : ByteArray) : (numsOf s).length = s.size := by
  unfold numsOf
  rw [List.length_map, Array.length_toList]
  rfl
theorem bytesWorld_below (w : World) (e : TypeId) (s : ByteArray) : Below w.heap.size w (Lib.bytesWorld w e s) := by
  refine ⟨?_, ?_, ?_, by rw [Lib.bytesWorld_size]; omega, fun j hj => Lib.bytesWorld_at_old w e s j hj⟩
  all_goals (unfold Lib.bytesWorld World.freeze; split <;> rfl)
theorem bytes_row (w : World) (s : ByteArray) : RowC (Lib.bytesWorld w 5 s) (.slice (some ⟨w.heap.size, 0, none⟩) s.size (grownCap w s.size 0 5)) (numsOf s) := by
  right
  refine ⟨w.heap.size, 0, _, by rw [numsOf_len], (Array.getElem?_eq_some_iff.1 (Lib.bytesWorld_at_new w 5 s)).1, ?_⟩
  intro j u hu
  have hj : j < s.size := by
    have := (List.getElem?_eq_some_iff.1 hu).1
    rw [← numsOf_len]
    simpa [bcells] using this
  rw [Nat.zero_add, Lib.bytesWorld_cell w 5 s j hj]
  have hj' : j < s.data.toList.length := by rw [Array.length_toList]; exact hj
  rw [← hu]
  simp [bcells, numsOf, List.getD, hj]
set_option maxRecDepth 100000 in
theorem any_bytes (n : Int) (s : ByteArray) (w : World) (hs : s.size ≤ 140737488355328) (hU : UT w) (hc : chkV 4 n s = true) :
    Calls Tryd.prog 8 #[vv 4 n s] w fun e w' => (∃ v, e = .returned (.iface 34 v) ∧ RowC w' v (numsOf s)) ∧ Below w.heap.size w w' := by
  go_enter Tryd.func8, Tryd.ntmps8
  go_wp2_with fail
  refine (check_any 4 n s _ hs (Utf8Tabs_below hU (vc_below w 4 n s))).mono ?_
  rintro e w2 ⟨rfl, hb2⟩
  rw [hc]
  obtain ⟨c0, c1, c2⟩ := (Three.new w 4 n s).below hb2
  have hB2 := (vc_below w 4 n s).trans (hb2.mono (by simp))
  have hcv := Lib.run_convert_string_bytes (P := Tryd.prog) w2 9 34 5 s Tryd.underlying9 Tryd.underlying34 Tryd.underlying5
  have hr := bytes_row w2 s
  have hB3 := hB2.trans ((bytesWorld_below w2 5 s).mono hB2.size)
  generalize Lib.bytesWorld w2 5 s = w3 at *
  generalize grownCap w2 s.size 0 5 = cp at *
  clear hb2
  go_wp2
  go_ret
  exact ⟨⟨_, rfl, hr⟩, hB3⟩
end Go.Proofs.YtbnecokbbmlekaaDoor
