/- value.valueOf and From: walks. -/
import Derived.Test.YtbnecokbbmlekaaDoorVN
import Derived.Test.YtbnecokbbmlekaaDoorU3
import Derived.Shelf.Bytes.SlSmallAll
namespace Go.Proofs.YtbnecokbbmlekaaDoor
open Go.RowKit

theorem results_v1 {fn : Func} {p : Tmp} (h : fn.results = #[.cell p 23]) (tmps : Array Value) (W : World) (b : Nat) (hp : tmps.getD p undef = .pointer (some ⟨b, 0, none⟩)) {k n : Int} {s : ByteArray} (h3 : Three b W (.int .i64 k) (.int .i64 n) (.string s)) :
    (results fn tmps).run Tryd.prog W = .ok (vv k n s) W := by
  have e1 : (results fn tmps).run Tryd.prog W = ((asAddr (tmps.getD p undef)).run Tryd.prog W).andThen fun a w₁ => (loadVar 23 a).run Tryd.prog w₁ := by
    simp only [results, h]
    simp [Sem.run_bind, Result.andThen]
  rw [e1, hp]
  have e : (asAddr (.pointer (some ⟨b, 0, none⟩))).run Tryd.prog W = .ok ⟨b, 0, none⟩ W := rfl
  rw [e]
  simp only [Result.andThen]
  rw [load_vv W b k n s h3.c0 h3.c1 h3.c2]
theorem Three.new (w : World) (k n : Int) (s : ByteArray) : Three w.heap.size (w.alloc (vcells k n s)) (.int .i64 k) (.int .i64 n) (.string s) := ⟨vc_new w k n s 0, vc_new w k n s 1, vc_new w k n s 2⟩

theorem ta_int_int (n : Int) (W : World) : (Instr.typeAssert (.iface 3 (.int .i64 n)) 20 3 true).run Tryd.prog W = .ok (.tuple #[.int .i64 n, .bool true]) W := by kernel_rfl
theorem ta_string_int (s : ByteArray) (W : World) : (Instr.typeAssert (.iface 9 (.string s)) 20 3 true).run Tryd.prog W = .ok (.tuple #[.int .i64 0, .bool false]) W := by kernel_rfl
theorem ta_string_string (s : ByteArray) (W : World) : (Instr.typeAssert (.iface 9 (.string s)) 20 9 true).run Tryd.prog W = .ok (.tuple #[.string s, .bool true]) W := by kernel_rfl
theorem ta_bool_int (b : Bool) (W : World) : (Instr.typeAssert (.iface 4 (.bool b)) 20 3 true).run Tryd.prog W = .ok (.tuple #[.int .i64 0, .bool false]) W := by kernel_rfl
theorem ta_bool_string (b : Bool) (W : World) : (Instr.typeAssert (.iface 4 (.bool b)) 20 9 true).run Tryd.prog W = .ok (.tuple #[.string ⟨#[]⟩, .bool false]) W := by kernel_rfl
theorem ta_bool_bool (b : Bool) (W : World) : (Instr.typeAssert (.iface 4 (.bool b)) 20 4 true).run Tryd.prog W = .ok (.tuple #[.bool b, .bool true]) W := by kernel_rfl
theorem ta_bytes_int (a : Option Addr) (l c : Nat) (W : World) : (Instr.typeAssert (.iface 34 (.slice a l c)) 20 3 true).run Tryd.prog W = .ok (.tuple #[.int .i64 0, .bool false]) W := by kernel_rfl
theorem ta_bytes_string (a : Option Addr) (l c : Nat) (W : World) : (Instr.typeAssert (.iface 34 (.slice a l c)) 20 9 true).run Tryd.prog W = .ok (.tuple #[.string ⟨#[]⟩, .bool false]) W := by kernel_rfl
theorem ta_bytes_bool (a : Option Addr) (l c : Nat) (W : World) : (Instr.typeAssert (.iface 34 (.slice a l c)) 20 4 true).run Tryd.prog W = .ok (.tuple #[.bool false, .bool false]) W := by kernel_rfl
theorem ta_bytes_bytes (a : Option Addr) (l c : Nat) (W : World) : (Instr.typeAssert (.iface 34 (.slice a l c)) 20 34 true).run Tryd.prog W = .ok (.tuple #[.slice a l c, .bool true]) W := by kernel_rfl
theorem ta_u8_int (x : Int) (W : World) : (Instr.typeAssert (.iface 5 (.int .u8 x)) 20 3 true).run Tryd.prog W = .ok (.tuple #[.int .i64 0, .bool false]) W := by kernel_rfl
theorem ta_u8_string (x : Int) (W : World) : (Instr.typeAssert (.iface 5 (.int .u8 x)) 20 9 true).run Tryd.prog W = .ok (.tuple #[.string ⟨#[]⟩, .bool false]) W := by kernel_rfl
theorem ta_u8_bool (x : Int) (W : World) : (Instr.typeAssert (.iface 5 (.int .u8 x)) 20 4 true).run Tryd.prog W = .ok (.tuple #[.bool false, .bool false]) W := by kernel_rfl
theorem ta_u8_bytes (x : Int) (W : World) : (Instr.typeAssert (.iface 5 (.int .u8 x)) 20 34 true).run Tryd.prog W = .ok (.tuple #[.slice none 0 0, .bool false]) W := by kernel_rfl

/-- Bytes as cells. -/
def bcells (xs : List Int) : List Value := xs.map (Value.int .u8)
theorem conv_row {w : World} {v : Value} {xs : List Int} (h : IsRow w 1 v xs.length (bcells xs)) : (convert 34 9 v).run Tryd.prog w = .ok (.string (strOfNums xs)) w := by
  rcases h.2 with ⟨h0, a, cap, rfl⟩ | ⟨b, off, cap, rfl, hb, hc, hm, hcell⟩
  · have hl : xs = [] := List.eq_nil_of_length_eq_zero h0
    subst hl
    exact run_convert_bytes_zero (P := Tryd.prog) w 34 5 Tryd.underlying34 Tryd.underlying5 a cap 9 Tryd.underlying9
  · refine run_convert_bytes_arg (P := Tryd.prog) w 34 5 Tryd.underlying34 Tryd.underlying5 b off xs.length cap xs rfl ?_ 9 Tryd.underlying9
    intro i hi
    rw [hcell i (.int .u8 (xs.getD i 0)) (by simp [bcells, hi])]

set_option maxRecDepth 100000 in
theorem valueOf_int (n : Int) (w : World) :
    Calls Tryd.prog 15 #[.iface 3 (.int .i64 n)] w fun e w' => e = .returned (vv 1 n ⟨#[]⟩) ∧ Below w.heap.size w w' := by
  have k1 := ta_int_int n
  go_enter Tryd.func15, Tryd.ntmps15
  go_wp2
  try simp only [Exit.inBlock, Exit.then]
  exact bodyPost_ret (results_v1 rfl _ _ w.heap.size rfl (Three.new w 1 n ⟨#[]⟩)) rfl ⟨rfl, (Below.refl _ _).alloc (Nat.le_refl _) _⟩
set_option maxRecDepth 100000 in
theorem valueOf_string (s : ByteArray) (w : World) :
    Calls Tryd.prog 15 #[.iface 9 (.string s)] w fun e w' => e = .returned (vv 2 0 s) ∧ Below w.heap.size w w' := by
  have k1 := ta_string_int s
  have k2 := ta_string_string s
  go_enter Tryd.func15, Tryd.ntmps15
  go_wp2
  try simp only [Exit.inBlock, Exit.then]
  exact bodyPost_ret (results_v1 rfl _ _ w.heap.size rfl (Three.new w 2 0 s)) rfl ⟨rfl, (Below.refl _ _).alloc (Nat.le_refl _) _⟩
def b2n (b : Bool) : Int := if b then 1 else 0
set_option maxRecDepth 100000 in
theorem boolOf_any (b : Bool) (w : World) :
    Calls Tryd.prog 27 #[.bool b] w fun e w' => e = .returned (vv 3 (b2n b) ⟨#[]⟩) ∧ Below w.heap.size w w' := by
  cases b
  · go_enter Tryd.func27, Tryd.ntmps27
    go_wp2
    try simp only [Exit.inBlock, Exit.then]
    exact bodyPost_ret (results_v1 rfl _ _ w.heap.size rfl ((Three.new w 3 0 ⟨#[]⟩).alloc _)) rfl ⟨rfl, ((Below.refl _ _).alloc (Nat.le_refl _) _).alloc (by simp) _⟩
  · go_enter Tryd.func27, Tryd.ntmps27
    go_wp2
    try simp only [Exit.inBlock, Exit.then]
    exact bodyPost_ret (results_v1 rfl _ _ w.heap.size rfl ((Three.new w 3 1 ⟨#[]⟩).alloc _)) rfl ⟨rfl, ((Below.refl _ _).alloc (Nat.le_refl _) _).alloc (by simp) _⟩
set_option maxRecDepth 100000 in
theorem valueOf_bool (b : Bool) (w : World) :
    Calls Tryd.prog 15 #[.iface 4 (.bool b)] w fun e w' => e = .returned (vv 3 (b2n b) ⟨#[]⟩) ∧ Below w.heap.size w w' := by
  have k1 := ta_bool_int b
  have k2 := ta_bool_string b
  have k3 := ta_bool_bool b
  go_enter Tryd.func15, Tryd.ntmps15
  go_wp2_with fail
  refine (boolOf_any b _).mono ?_
  rintro e w2 ⟨rfl, hb2⟩
  have HZ : Hid (Three w.heap.size w2 (.int .i64 0) (.int .i64 0) (.string ⟨#[]⟩)) := ((Zero.new w).below hb2 (by simp)).three
  obtain ⟨c0, c1, c2, f0, f1, f2⟩ := (Zero.new w).below hb2 (by simp)
  have hB2 := (wv_below w).trans (hb2.mono (by simp))
  clear hb2
  go_wp2
  try simp only [Exit.inBlock, Exit.then]
  exact bodyPost_ret (results_v1 rfl _ _ w.heap.size rfl (HZ.out.set _ _ _)) rfl ⟨rfl, set3_below hB2 _ _ _⟩
set_option maxRecDepth 100000 in
theorem valueOf_bytes (v : Value) (xs : List Int) (w : World) (h : IsRow w 1 v xs.length (bcells xs)) :
    Calls Tryd.prog 15 #[.iface 34 v] w fun e w' => e = .returned (vv 4 0 (strOfNums xs)) ∧ Below w.heap.size w w' := by
  have hcv := conv_row (h.below (wv_below w))
  obtain ⟨a, cap, rfl⟩ := h.form
  have k1 := ta_bytes_int a xs.length cap
  have k2 := ta_bytes_string a xs.length cap
  have k3 := ta_bytes_bool a xs.length cap
  have k4 := ta_bytes_bytes a xs.length cap
  go_enter Tryd.func15, Tryd.ntmps15
  go_wp2
  try simp only [Exit.inBlock, Exit.then]
  exact bodyPost_ret (results_v1 rfl _ _ w.heap.size rfl (Three.new w 4 0 (strOfNums xs))) rfl ⟨rfl, (Below.refl _ _).alloc (Nat.le_refl _) _⟩
set_option maxRecDepth 100000 in
theorem valueOf_u8 (x : Int) (w : World) :
    Calls Tryd.prog 15 #[.iface 5 (.int .u8 x)] w fun e w' => e = .returned v0 ∧ Below w.heap.size w w' := by
  have k1 := ta_u8_int x
  have k2 := ta_u8_string x
  have k3 := ta_u8_bool x
  have k4 := ta_u8_bytes x
  go_enter Tryd.func15, Tryd.ntmps15
  go_wp2
  try simp only [Exit.inBlock, Exit.then]
  exact bodyPost_ret (results_v1 rfl _ _ w.heap.size rfl (Three.new w 0 0 ⟨#[]⟩)) rfl ⟨rfl, (Below.refl _ _).alloc (Nat.le_refl _) _⟩

/-- What From answers of a value that was found. -/
def fromV (k n : Int) (s : ByteArray) : Value := if k = 0 then .tuple #[v0, .int .i64 8] else if chkV k n s = true then .tuple #[vv k n s, .int .i64 0] else .tuple #[v0, .int .i64 1]
set_option maxRecDepth 100000 in
set_option maxHeartbeats 2000000 in
theorem from_any (x : Value) (k n : Int) (s : ByteArray) (w : World) (hs : s.size ≤ 140737488355328) (hU : UT w) (hx : ∀ w1, Below w.heap.size w w1 → Calls Tryd.prog 15 #[x] w1 fun e w' => e = .returned (vv k n s) ∧ Below w1.heap.size w1 w') :
    Calls Tryd.prog 9 #[x] w fun e w' => e = .returned (fromV k n s) ∧ Below w.heap.size w w' := by
  have HX : Hid (Calls Tryd.prog 15 #[x] (wv w) fun e w' => e = .returned (vv k n s) ∧ Below (wv w).heap.size (wv w) w') := hx (wv w) (wv_below w)
  clear hx
  by_cases h0 : k = 0
  · have HF : Hid (Value.tuple #[v0, .int .i64 8] = fromV k n s) := by show _ = _; rw [fromV, if_pos h0]
    have h0' : (k == 0) = true := by rw [beq_iff_eq]; exact h0
    clear h0
    go_enter Tryd.func9, Tryd.ntmps9
    go_wp2_with fail
    refine (Calls.mono HX.out) ?_
    rintro e w2 ⟨rfl, hb2⟩
    have HZ : Hid (Three w.heap.size w2 (.int .i64 0) (.int .i64 0) (.string ⟨#[]⟩)) := ((Zero.new w).below hb2 (by simp)).three
    obtain ⟨c0, c1, c2, f0, f1, f2⟩ := (Zero.new w).below hb2 (by simp)
    have hlt : w.heap.size < w2.heap.size := by have := hb2.size; simp at this; omega
    have hne : w2.heap.size ≠ w.heap.size := by omega
    have hB2 := (wv_below w).trans (hb2.mono (by simp))
    clear hb2 HX
    go_wp2
    try simp only [Exit.inBlock, Exit.then]
    refine bodyPost_ret (results_v2 rfl _ _ w.heap.size rfl ((HZ.out.set _ _ _).alloc _)) rfl ⟨by rw [← HF.out]; rfl, (set3_below hB2 _ _ _).alloc ?_ _⟩
    have := hB2.size
    simpa using this
  have h0' : (k == 0) = false := by rw [beq_eq_false_iff_ne]; exact h0
  by_cases hc : chkV k n s = true
  · have HF : Hid (Value.tuple #[vv k n s, .int .i64 0] = fromV k n s) := by show _ = _; rw [fromV, if_neg h0, if_pos hc]
    clear h0
    go_enter Tryd.func9, Tryd.ntmps9
    go_wp2_with fail
    refine (Calls.mono HX.out) ?_
    rintro e w2 ⟨rfl, hb2⟩
    have hz2 := (Zero.new w).below hb2 (by simp)
    have hlt : w.heap.size < w2.heap.size := by have := hb2.size; simp at this; omega
    have hne : w2.heap.size ≠ w.heap.size := by omega
    have hB2 := (wv_below w).trans (hb2.mono (by simp))
    clear hb2 HX
    have hA := (Below.refl w2.heap.size w2).alloc (Nat.le_refl _) (vcells k n s)
    go_wp2_with fail
    refine (check_any k n s _ hs (Utf8Tabs_below (Utf8Tabs_below hU hB2) hA)).mono ?_
    rintro e w3 ⟨rfl, hb3⟩
    rw [hc]
    obtain ⟨cc, ff, hb3', hlt3⟩ := part_cells0 hb3
    have d0 := cc 0
    have d1 := cc 1
    have d2 := cc 2
    simp at d0 d1 d2
    have hz3 := hz2.below hb3' hlt
    have HZ : Hid (Three w.heap.size w3 (.int .i64 0) (.int .i64 0) (.string ⟨#[]⟩)) := hz3.three
    obtain ⟨c0, c1, c2, f0, f1, f2⟩ := hz3
    have hB3 := hB2.trans (hb3'.mono (by omega))
    clear hb3 hb3' cc ff hA hB2
    go_wp2
    try simp only [Exit.inBlock, Exit.then]
    exact bodyPost_ret (results_v2 rfl _ _ w.heap.size rfl (HZ.out.set _ _ _)) rfl ⟨by rw [← HF.out]; rfl, set3_below hB3 _ _ _⟩
  · have hc' : chkV k n s = false := by simpa using hc
    have HF : Hid (Value.tuple #[v0, .int .i64 1] = fromV k n s) := by show _ = _; rw [fromV, if_neg h0, if_neg hc]
    clear h0
    go_enter Tryd.func9, Tryd.ntmps9
    go_wp2_with fail
    refine (Calls.mono HX.out) ?_
    rintro e w2 ⟨rfl, hb2⟩
    have hz2 := (Zero.new w).below hb2 (by simp)
    have hlt : w.heap.size < w2.heap.size := by have := hb2.size; simp at this; omega
    have hne : w2.heap.size ≠ w.heap.size := by omega
    have hB2 := (wv_below w).trans (hb2.mono (by simp))
    clear hb2 HX
    have hA := (Below.refl w2.heap.size w2).alloc (Nat.le_refl _) (vcells k n s)
    go_wp2_with fail
    refine (check_any k n s _ hs (Utf8Tabs_below (Utf8Tabs_below hU hB2) hA)).mono ?_
    rintro e w3 ⟨rfl, hb3⟩
    rw [hc']
    obtain ⟨cc, ff, hb3', hlt3⟩ := part_cells0 hb3
    have hz3 := hz2.below hb3' hlt
    have HZ : Hid (Three w.heap.size w3 (.int .i64 0) (.int .i64 0) (.string ⟨#[]⟩)) := hz3.three
    obtain ⟨c0, c1, c2, f0, f1, f2⟩ := hz3
    have hB3 := hB2.trans (hb3'.mono (by omega))
    clear hb3 hb3' cc ff hA hB2
    go_wp2
    try simp only [Exit.inBlock, Exit.then]
    exact bodyPost_ret (results_v2 rfl _ _ w.heap.size rfl (HZ.out.set _ _ _)) rfl ⟨by rw [← HF.out]; rfl, set3_below hB3 _ _ _⟩
end Go.Proofs.YtbnecokbbmlekaaDoor
