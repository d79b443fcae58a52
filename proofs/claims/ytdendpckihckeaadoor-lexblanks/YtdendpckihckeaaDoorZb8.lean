/- value.scanText at the example, Scan and Parse at the four examples; the law's awake: walks. -/
import Derived.Test.YtdendpckihckeaaDoorZb7
import Derived.Test.YtdendpckihckeaaDoorZb3
import Derived.Test.YtdendpckihckeaaDoorZb6
namespace Go.Proofs.YtdendpckihckeaaDoor
open Go.RowKit

/-- The result's cells, not yet set. -/
structure Zero (b : Nat) (w : World) : Prop where
  c0 : w.cell? ⟨b, 0, none⟩ = some (.int .i64 0)
  c1 : w.cell? ⟨b, 1, none⟩ = some (.int .i64 0)
  c2 : w.cell? ⟨b, 2, none⟩ = some (.string ⟨#[]⟩)
  f0 : w.frozen? ⟨b, 0, none⟩ = false
  f1 : w.frozen? ⟨b, 1, none⟩ = false
  f2 : w.frozen? ⟨b, 2, none⟩ = false
theorem Zero.below {b B : Nat} {w w' : World} (h : Zero b w) (hb : Below B w w') (hlt : b < B) : Zero b w' :=
  ⟨(hb.cell (p := ⟨b, 0, none⟩) hlt).trans h.c0, (hb.cell (p := ⟨b, 1, none⟩) hlt).trans h.c1, (hb.cell (p := ⟨b, 2, none⟩) hlt).trans h.c2, (hb.frozen (p := ⟨b, 0, none⟩) hlt).trans h.f0, (hb.frozen (p := ⟨b, 1, none⟩) hlt).trans h.f1, (hb.frozen (p := ⟨b, 2, none⟩) hlt).trans h.f2⟩
theorem Zero.new (w : World) : Zero w.heap.size (w.alloc (.cells #[.int .i64 0, .int .i64 0, .string ⟨#[]⟩] 33)) :=
  ⟨by simp, by simp, by simp, by simp, by simp, by simp⟩
abbrev wv (w : World) : World := w.alloc (.cells #[.int .i64 0, .int .i64 0, .string ⟨#[]⟩] 33)
theorem wv_below (w : World) : Below w.heap.size w (wv w) := (Below.refl _ _).alloc (Nat.le_refl _) _
theorem wv_size (w : World) : (wv w).heap.size = w.heap.size + 1 := by simp
theorem load_vv (W : World) (b : Nat) (k n : Int) (s : ByteArray) (c0 : W.cell? ⟨b, 0, none⟩ = some (.int .i64 k)) (c1 : W.cell? ⟨b, 1, none⟩ = some (.int .i64 n)) (c2 : W.cell? ⟨b, 2, none⟩ = some (.string s)) : (loadVar 33 ⟨b, 0, none⟩).run Tryd.prog W = .ok (vv k n s) W := by
  go_simp
abbrev set3 (W : World) (b : Nat) (x y z : Value) : World := ((W.setCell ⟨b, 0, none⟩ x).setCell ⟨b, 1, none⟩ y).setCell ⟨b, 2, none⟩ z
structure Three (b : Nat) (W : World) (x y z : Value) : Prop where
  c0 : W.cell? ⟨b, 0, none⟩ = some x
  c1 : W.cell? ⟨b, 1, none⟩ = some y
  c2 : W.cell? ⟨b, 2, none⟩ = some z
theorem Three.set {b : Nat} {W : World} {x y z : Value} (h : Three b W x y z) (x' y' z' : Value) : Three b (set3 W b x' y' z') x' y' z' := by
  have a1 : (W.setCell ⟨b, 0, none⟩ x').cell? ⟨b, 1, none⟩ = some y := (World.cell?_setCell_other _ _ _ _ (by simp)).trans h.c1
  have a2 : ((W.setCell ⟨b, 0, none⟩ x').setCell ⟨b, 1, none⟩ y').cell? ⟨b, 2, none⟩ = some z := (World.cell?_setCell_other _ _ _ _ (by simp)).trans ((World.cell?_setCell_other _ _ _ _ (by simp)).trans h.c2)
  refine ⟨?_, ?_, ?_⟩
  · rw [World.cell?_setCell_other _ _ _ _ (by simp), World.cell?_setCell_other _ _ _ _ (by simp), World.cell?_setCell_same _ _ _ h.c0]
  · rw [World.cell?_setCell_other _ _ _ _ (by simp), World.cell?_setCell_same _ _ _ a1]
  · rw [World.cell?_setCell_same _ _ _ a2]
theorem Three.alloc {b : Nat} {W : World} {x y z : Value} (h : Three b W x y z) (o : Obj) : Three b (W.alloc o) x y z := by
  have hA := (Below.refl W.heap.size W).alloc (Nat.le_refl _) o
  have hlt : b < W.heap.size := World.block_lt_of_cell? _ _ h.c0
  exact ⟨(hA.cell (p := ⟨b, 0, none⟩) hlt).trans h.c0, (hA.cell (p := ⟨b, 1, none⟩) hlt).trans h.c1, (hA.cell (p := ⟨b, 2, none⟩) hlt).trans h.c2⟩
theorem Zero.three {b : Nat} {w : World} (h : Zero b w) : Three b w (.int .i64 0) (.int .i64 0) (.string ⟨#[]⟩) := ⟨h.c0, h.c1, h.c2⟩
theorem results_v3 {fn : Func} {p u v : Tmp} (h : fn.results = #[.cell p 33, .tmp u, .tmp v]) (tmps : Array Value) (W : World) (b : Nat) (hp : tmps.getD p undef = .pointer (some ⟨b, 0, none⟩)) {k n : Int} {s : ByteArray} (h3 : Three b W (.int .i64 k) (.int .i64 n) (.string s)) :
    (results fn tmps).run Tryd.prog W = .ok (.tuple #[vv k n s, tmps.getD u undef, tmps.getD v undef]) W := by
  rw [results_cell3 h, hp]
  have e : (asAddr (.pointer (some ⟨b, 0, none⟩))).run Tryd.prog W = .ok ⟨b, 0, none⟩ W := rfl
  rw [e]
  simp only [Result.andThen]
  rw [load_vv W b k n s h3.c0 h3.c1 h3.c2]
theorem results_v2 {fn : Func} {p u : Tmp} (h : fn.results = #[.cell p 33, .tmp u]) (tmps : Array Value) (W : World) (b : Nat) (hp : tmps.getD p undef = .pointer (some ⟨b, 0, none⟩)) {k n : Int} {s : ByteArray} (h3 : Three b W (.int .i64 k) (.int .i64 n) (.string s)) :
    (results fn tmps).run Tryd.prog W = .ok (.tuple #[vv k n s, tmps.getD u undef]) W := by
  rw [results_cell_tmp h, hp]
  have e : (asAddr (.pointer (some ⟨b, 0, none⟩))).run Tryd.prog W = .ok ⟨b, 0, none⟩ W := rfl
  rw [e]
  simp only [Result.andThen]
  rw [load_vv W b k n s h3.c0 h3.c1 h3.c2]
/-- The result's three cells set. -/
theorem set3_below {w0 w : World} {b : Nat} (h : Below b w0 w) (x y z : Value) : Below b w0 (((w.setCell ⟨b, 0, none⟩ x).setCell ⟨b, 1, none⟩ y).setCell ⟨b, 2, none⟩ z) :=
  ((h.setCell (p := ⟨b, 0, none⟩) (Nat.le_refl _) _).setCell (p := ⟨b, 1, none⟩) (Nat.le_refl _) _).setCell (p := ⟨b, 2, none⟩) (Nat.le_refl _) _

def lenOf : Value → Nat
  | .string s => s.size
  | _ => 0
/-- What holds of scanText's loop at every round, at the example. -/
def TxRel (w : World) (t : Value) (wr : World) : Prop :=
  (t = .string ⟨#[97]⟩ ∧ IsB (w.heap.size + 1) (w.heap.size + 1) [] wr ∨ t = .string ⟨#[]⟩) ∧ Zero w.heap.size wr ∧ Below w.heap.size w wr ∧ w.heap.size + 1 < wr.heap.size
set_option maxRecDepth 100000 in
set_option maxHeartbeats 2000000 in
theorem scanText_1 (w : World) (hT : T16 w) (hU : UT w) :
    Calls Tryd.prog 21 #[.string ⟨#[97]⟩] w fun e w' => e = .returned (.tuple #[v0, .string ⟨#[]⟩, .int .i64 3]) ∧ Below w.heap.size w w' := by
  have hI := Lib.IsBuilderF.of (Lib.fresh_isBuilder 63 5 (wv w))
  rw [wv_size] at hI
  have hp97 : Lib.hasPrefix (⟨#[97]⟩ : ByteArray).data.toList (⟨#[34]⟩ : ByteArray).data.toList = false := by decide
  have hp0 : Lib.hasPrefix (⟨#[]⟩ : ByteArray).data.toList (⟨#[34]⟩ : ByteArray).data.toList = false := by decide
  have hx : (⟨#[97]⟩ : ByteArray).extract 1 1 = ⟨#[]⟩ := by decide
  go_enter Tryd.func21, Tryd.ntmps21
  go_wp2_with fail
  go_loopw [0] (fun t wr => TxRel w t wr) (fun t _ => lenOf t)
  case atStart => exact ⟨.inl ⟨rfl, hI⟩, (Zero.new w).below ((Below.refl _ (wv w)).alloc (Nat.le_refl _) _) (by simp), (wv_below w).alloc (by simp) _, by simp⟩
  case round =>
    obtain ⟨hs, hz, hb, hsz⟩ := hrel
    rcases hs with ⟨rfl, hI⟩ | rfl
    · go_wp2_with fail
      refine (Tryd.strings_HasPrefix _ _ _).mono ?_
      rintro e w1 ⟨rfl, rfl⟩
      rw [hp97]
      go_wp2_with fail
      refine (scanRune_a _ (T16_below hT hb) (Utf8Tabs_below hU hb)).mono ?_
      rintro e w2 ⟨rfl, hb2⟩
      have hI2 := IsB_below hI hb2
      have hz2 := hz.below hb2 (by omega)
      have hB2 := hb.trans (hb2.mono (by omega))
      have hs2 := hb2.size
      clear hb2 hI hz hb
      go_wp2_with fail
      refine (writeRune_ascii (w.heap.size + 1) (w.heap.size + 1) [] 97 _ (by decide) hI2 (by decide) (by omega)).mono ?_
      rintro e w3 ⟨rfl, hI3, hb3, ok3⟩
      have hz3 := hz2.below hb3 (by omega)
      have hB3 := hB2.trans (hb3.mono (by omega))
      have hs3 := hb3.size
      clear hb3 hI2 hz2 hB2 hI3 ok3
      go_wp2
      go_roundw
      case rel => exact ⟨.inr rfl, hz3, hB3, by omega⟩
      case measure => decide
    · go_wp2_with fail
      refine (Tryd.strings_HasPrefix _ _ _).mono ?_
      rintro e w1 ⟨rfl, rfl⟩
      rw [hp0]
      go_wp2_with fail
      refine (scanRune_e _ (T16_below hT hb) (Utf8Tabs_below hU hb)).mono ?_
      rintro e w2 ⟨rfl, hb2⟩
      obtain ⟨c0, c1, c2, f0, f1, f2⟩ := hz.below hb2 (by omega)
      have hB2 := hb.trans (hb2.mono (by omega))
      clear hb2 hz hb
      go_wp2
      try simp only [Exit.inBlock, Exit.then]
      refine bodyPost_ret (v := .tuple #[v0, .string ⟨#[]⟩, .int .i64 3]) ?_ rfl ⟨rfl, set3_below hB2 _ _ _⟩
      rw [results_cell3 rfl]; go_simp

theorem scan_x (w : World) (hM : ML w) :
    Calls Tryd.prog 15 #[.string ⟨#[120, 39, 48, 48, 102, 102, 39]⟩] w fun e w' => e = .returned (.tuple #[vv 4 0 ⟨#[0, 255]⟩, .string ⟨#[]⟩, .int .i64 0]) ∧ Below w.heap.size w w' := by
  have hp1 : Lib.hasPrefix (⟨#[120, 39, 48, 48, 102, 102, 39]⟩ : ByteArray).data.toList (⟨#[34]⟩ : ByteArray).data.toList = false := by decide
  have hp2 : Lib.hasPrefix (⟨#[120, 39, 48, 48, 102, 102, 39]⟩ : ByteArray).data.toList (⟨#[120, 39]⟩ : ByteArray).data.toList = true := by decide
  have hx : (⟨#[120, 39, 48, 48, 102, 102, 39]⟩ : ByteArray).extract 2 7 = ⟨#[48, 48, 102, 102, 39]⟩ := by decide
  go_enter Tryd.func15, Tryd.ntmps15
  go_wp2_with fail
  refine (Tryd.strings_HasPrefix _ _ _).mono ?_
  rintro e w1 ⟨rfl, rfl⟩
  rw [hp1]
  go_wp2_with fail
  refine (Tryd.strings_HasPrefix _ _ _).mono ?_
  rintro e w1 ⟨rfl, rfl⟩
  rw [hp2]
  go_wp2_with fail
  refine (scanBytes_1 _ (ML_below hM (wv_below w))).mono ?_
  rintro e w2 ⟨rfl, hb2⟩
  have HZ : Hid (Three w.heap.size w2 (.int .i64 0) (.int .i64 0) (.string ⟨#[]⟩)) := ((Zero.new w).below hb2 (by simp)).three
  obtain ⟨c0, c1, c2, f0, f1, f2⟩ := (Zero.new w).below hb2 (by simp)
  have hB2 := (wv_below w).trans (hb2.mono (by simp))
  clear hb2
  go_wp2
  try simp only [Exit.inBlock, Exit.then]
  exact bodyPost_ret (results_v3 rfl _ _ w.heap.size rfl ((HZ.out.set _ _ _).set _ _ _)) rfl ⟨rfl, set3_below (set3_below hB2 _ _ _) _ _ _⟩
set_option maxHeartbeats 1000000 in
theorem scan_q (w : World) (hT : T16 w) (hU : UT w) :
    Calls Tryd.prog 15 #[.string ⟨#[34, 97]⟩] w fun e w' => e = .returned (.tuple #[v0, .string ⟨#[]⟩, .int .i64 3]) ∧ Below w.heap.size w w' := by
  have hp1 : Lib.hasPrefix (⟨#[34, 97]⟩ : ByteArray).data.toList (⟨#[34]⟩ : ByteArray).data.toList = true := by decide
  have hx : (⟨#[34, 97]⟩ : ByteArray).extract 1 2 = ⟨#[97]⟩ := by decide
  go_enter Tryd.func15, Tryd.ntmps15
  go_wp2_with fail
  refine (Tryd.strings_HasPrefix _ _ _).mono ?_
  rintro e w1 ⟨rfl, rfl⟩
  rw [hp1]
  go_wp2_with fail
  refine (scanText_1 _ (T16_below hT (wv_below w)) (Utf8Tabs_below hU (wv_below w))).mono ?_
  rintro e w2 ⟨rfl, hb2⟩
  have HZ : Hid (Three w.heap.size w2 (.int .i64 0) (.int .i64 0) (.string ⟨#[]⟩)) := ((Zero.new w).below hb2 (by simp)).three
  obtain ⟨c0, c1, c2, f0, f1, f2⟩ := (Zero.new w).below hb2 (by simp)
  have hB2 := (wv_below w).trans (hb2.mono (by simp))
  clear hb2
  go_wp2
  try simp only [Exit.inBlock, Exit.then]
  exact bodyPost_ret (results_v3 rfl _ _ w.heap.size rfl ((HZ.out.set _ _ _).set _ _ _)) rfl ⟨rfl, set3_below (set3_below hB2 _ _ _) _ _ _⟩
set_option maxHeartbeats 1000000 in
theorem scan_d (s : ByteArray) (w : World) (h1 : Lib.hasPrefix s.data.toList (⟨#[34]⟩ : ByteArray).data.toList = false) (h2 : Lib.hasPrefix s.data.toList (⟨#[120, 39]⟩ : ByteArray).data.toList = false) (h3 : Lib.hasPrefix s.data.toList (⟨#[116, 114, 117, 101]⟩ : ByteArray).data.toList = false) (h4 : Lib.hasPrefix s.data.toList (⟨#[102, 97, 108, 115, 101]⟩ : ByteArray).data.toList = false)
    (hc : ∀ w, Calls Tryd.prog 24 #[.string s] w fun e w' => e = .returned (.tuple #[v0, .string ⟨#[]⟩, .int .i64 3]) ∧ Below w.heap.size w w') :
    Calls Tryd.prog 15 #[.string s] w fun e w' => e = .returned (.tuple #[v0, .string ⟨#[]⟩, .int .i64 3]) ∧ Below w.heap.size w w' := by
  have HC : Hid (∀ w, Calls Tryd.prog 24 #[.string s] w fun e w' => e = .returned (.tuple #[v0, .string ⟨#[]⟩, .int .i64 3]) ∧ Below w.heap.size w w') := hc
  clear hc
  go_enter Tryd.func15, Tryd.ntmps15
  go_wp2_with fail
  refine (Tryd.strings_HasPrefix _ _ _).mono ?_
  rintro e w1 ⟨rfl, rfl⟩
  rw [h1]
  go_wp2_with fail
  refine (Tryd.strings_HasPrefix _ _ _).mono ?_
  rintro e w1 ⟨rfl, rfl⟩
  rw [h2]
  go_wp2_with fail
  refine (Tryd.strings_HasPrefix _ _ _).mono ?_
  rintro e w1 ⟨rfl, rfl⟩
  rw [h3]
  go_wp2_with fail
  refine (Tryd.strings_HasPrefix _ _ _).mono ?_
  rintro e w1 ⟨rfl, rfl⟩
  rw [h4]
  go_wp2_with fail
  refine (HC.out _).mono ?_
  rintro e w2 ⟨rfl, hb2⟩
  have HZ : Hid (Three w.heap.size w2 (.int .i64 0) (.int .i64 0) (.string ⟨#[]⟩)) := ((Zero.new w).below hb2 (by simp)).three
  obtain ⟨c0, c1, c2, f0, f1, f2⟩ := (Zero.new w).below hb2 (by simp)
  have hB2 := (wv_below w).trans (hb2.mono (by simp))
  clear hb2
  go_wp2
  try simp only [Exit.inBlock, Exit.then]
  exact bodyPost_ret (results_v3 rfl _ _ w.heap.size rfl ((HZ.out.set _ _ _).set _ _ _)) rfl ⟨rfl, set3_below (set3_below hB2 _ _ _) _ _ _⟩

/-- What the walks ask of the world. -/
structure VT (w : World) : Prop where
  u : UT w
  t : T16 w
  m : ML w
theorem VT.below {w w' : World} (h : VT w) (hb : Below w.heap.size w w') : VT w' := ⟨Utf8Tabs_below h.u hb, T16_below h.t hb, ML_below h.m hb⟩
abbrev exT : ByteArray := ⟨#[97, 34, 195, 169, 10, 1]⟩
theorem exT_chk : chkV 2 0 exT = true := by decide +kernel
theorem exT_rns : rns exT.data.toList = [97, 34, 233, 10, 1] := by decide +kernel
theorem exT_show : str (34 :: shows (rns exT.data.toList) ++ [34]) = ⟨#[34, 97, 92, 34, 195, 169, 92, 110, 92, 117, 123, 49, 125, 34]⟩ := by rw [exT_rns]; decide +kernel
theorem exT_ok : ∀ c ∈ rns exT.data.toList, okR c := by
  rw [exT_rns]
  intro c hc
  simp at hc
  unfold okR
  omega
end Go.Proofs.YtdendpckihckeaaDoor
/- value.scanInt at any text: its walk. -/
namespace Go.Proofs.YtdendpckihckeaaDoor
open Go.RowKit

/-- What scanning a literal hands back. -/
def scV (x : Sc) : Value := .tuple #[vv x.k x.n (str x.s), .string (str x.r), .int .i64 x.e]
theorem scV_bad (e : Int) : scV (.bad e) = .tuple #[v0, .string ⟨#[]⟩, .int .i64 e] := rfl
theorem trim_digs (l : List UInt8) : Lib.trimLeftS l (⟨#[48, 49, 50, 51, 52, 53, 54, 55, 56, 57]⟩ : ByteArray).data.toList = l.dropWhile isD := by
  unfold Lib.trimLeftS
  congr 1
  funext b
  exact (isD_mem b).symm
theorem ext_str (s : ByteArray) (m : Nat) : s.extract 0 m = str (s.data.toList.take m) := ba_eq (by rw [str_data, Lib.extract_data]; simp)
theorem ext_from (s : ByteArray) (m : Nat) : s.extract m s.size = str (s.data.toList.drop m) := ba_eq (by
  rw [str_data, Lib.extract_data]
  apply List.take_of_length_le
  rw [List.length_drop, Array.length_toList]
  exact Nat.le_refl _)
theorem digs_len (l : List UInt8) : l.length = (digs l).length + (l.dropWhile isD).length := by
  conv => lhs; rw [← digs_app l]
  rw [List.length_append]
theorem digs_take (l : List UInt8) : l.take (digs l).length = digs l := by
  conv => lhs; rw [← digs_app l]
  rw [List.take_left' (by rw [digs_app])]
theorem gN_str (l : List UInt8) (i : Nat) (h : i < l.length) : gN (str l) i = (l.getD i 0).toNat := by
  have hs : i < (str l).size := by rw [str_size]; exact h
  rw [← gN_of (str l) i hs]
  show ((l.toArray)[i]'_).toNat = _
  rw [List.getD_eq_getElem?_getD, List.getElem?_eq_getElem h]
  rfl
theorem head_getD {l : List UInt8} (h : l ≠ []) : l.head? = some (l.getD 0 0) := by
  cases l with
  | nil => exact absurd rfl h
  | cons b t => rfl
/-- The frame of a scanner behind its calls: the result's cells, and what was there before. -/
structure Fr (w w2 : World) : Prop where
  z : Zero w.heap.size w2
  b : Below w.heap.size w w2
theorem Fr.of {w w2 : World} (hb : Below (wv w).heap.size (wv w) w2) : Fr w w2 := ⟨(Zero.new w).below hb (by simp), (wv_below w).trans (hb.mono (by simp))⟩
set_option maxRecDepth 100000 in
set_option maxHeartbeats 4000000 in
theorem scanInt_any (s : ByteArray) (w : World) (hs : s.size ≤ 1000000) :
    Calls Tryd.prog 24 #[.string s] w fun e w' => e = .returned (scV (scI (Lib.hasPrefix s.data.toList [45]) (Lib.trimPrefix s.data.toList [45]))) ∧ Below w.heap.size w w' := by
  have hTl : (Lib.trimPrefix s.data.toList [45]).length ≤ 1000000 := by
    unfold Lib.trimPrefix
    split
    · rw [List.length_drop, ← Lib.size_eq]; omega
    · rw [← Lib.size_eq]; exact hs
  have HCP : Hid (∀ w : World, Calls Tryd.prog 38 #[.string s, .string ⟨#[45]⟩] w fun e w' => e = .returned (.tuple #[.string ⟨(Lib.trimPrefix s.data.toList [45]).toArray⟩, .bool (Lib.hasPrefix s.data.toList [45])]) ∧ w' = w) := fun w => Tryd.strings_CutPrefix s ⟨#[45]⟩ w
  generalize Lib.hasPrefix s.data.toList [45] = neg at *
  generalize Lib.trimPrefix s.data.toList [45] = l at *
  have HTL : Hid (∀ w : World, Calls Tryd.prog 39 #[.string ⟨l.toArray⟩, .string ⟨#[48, 49, 50, 51, 52, 53, 54, 55, 56, 57]⟩] w fun e w' => e = .returned (.string (str (l.dropWhile isD))) ∧ Below w.heap.size w w') := fun w => by
    have := Tryd.strings_TrimLeft ⟨l.toArray⟩ ⟨#[48, 49, 50, 51, 52, 53, 54, 55, 56, 57]⟩ w (by decide) ascii10
    rw [trim_digs] at this
    exact this
  have hdl := digs_len l
  have hDz : (str (digs l)).size = (digs l).length := str_size _
  have hx : (⟨l.toArray⟩ : ByteArray).extract 0 (str (digs l)).size = str (digs l) := by
    rw [ext_str, str_size]
    exact congrArg str (digs_take l)
  have hR : (str (l.dropWhile isD)).size = (l.dropWhile isD).length := str_size _
  have h1 : wrap64 ((l.length : Int) - ((str (l.dropWhile isD)).size : Int)) = ((str (digs l)).size : Int) := by
    rw [hR, hDz, hdl]; unfold wrap64; omega
  have h2 : ((str (digs l)).size : Int) ≤ l.length := by rw [hDz]; omega
  have HRS : Hid (str (l.dropWhile isD) = str (l.drop (digs l).length)) := by show _ = _; rw [digs_drop]
  have hall := digs_all l
  have HX : Hid (scI neg l = if digs l = [] ∨ ((digs l).head? = some 48 ∧ (neg = true ∨ 1 < (digs l).length)) then .bad 3 else if 16 < (digs l).length ∨ 9007199254740991 < numOf (digs l) then .bad 2
      else ⟨1, if neg = true then -(numOf (digs l) : Int) else numOf (digs l), [], l.drop (digs l).length, 0⟩) := rfl
  generalize hDD : str (digs l) = D at *
  have hD0 : D.size ≠ 0 → gN D 0 = ((digs l).getD 0 0).toNat := fun h => by
    rw [← hDD, gN_str _ _ (by rw [← hDz]; omega)]
  have HDD : Hid (str (digs l) = D) := hDD
  have HDz : Hid (D.size = (digs l).length) := hDz
  clear hDD hDz hdl
  generalize str (l.dropWhile isD) = R at *
  clear hR
  by_cases c0 : D.size = 0
  · have he := empty_is D c0
    have HE : Hid (scI neg l = .bad 3) := by
      show _ = _
      rw [HX.out, if_pos (.inl (List.eq_nil_of_length_eq_zero (by have := HDz.out; omega)))]
    clear HX hall hD0 HDD HRS HDz c0
    go_enter Tryd.func24, Tryd.ntmps24
    go_wp2_with fail
    refine (HCP.out _).mono ?_
    rintro e w1 ⟨rfl, rfl⟩
    go_wp2_with fail
    refine (HTL.out _).mono ?_
    rintro e w2 ⟨rfl, hb2⟩
    have HF : Hid (Fr w w2) := Fr.of hb2
    obtain ⟨⟨d0, d1, d2, f0, f1, f2⟩, -⟩ := HF.out
    clear hb2
    go_wp2
    try simp only [Exit.inBlock, Exit.then]
    exact bodyPost_ret (results_v3 rfl _ _ w.heap.size rfl (HF.out.z.three.set _ _ _)) rfl ⟨by rw [HE.out]; rfl, set3_below HF.out.b _ _ _⟩
  have he := empty_not D c0
  have hpos : 0 < D.size := by omega
  have hpos' : (0 : Int) < D.size := by omega
  have hg := gN_of D 0 hpos
  have hg0 := hD0 c0
  have hne : digs l ≠ [] := fun e => c0 (by rw [HDz.out, e]; rfl)
  have hhd := head_getD hne
  have hb0 := hall ((digs l).getD 0 0) (by
    cases e : digs l with
    | nil => exact absurd e hne
    | cons b t => simp)
  have hg48 : (digs l).head? = some 48 ↔ gN D 0 = 48 := by
    rw [hhd, hg0]
    constructor
    · intro h; rw [Option.some.inj h]; rfl
    · intro h; exact congrArg some (UInt8.toNat_inj.1 h)
  have hlt0 := gN_lt D 0
  generalize gN D 0 = g at *
  have HG : Hid ((digs l).head? = some 48 ↔ g = 48) := hg48
  clear hg48 hg0 hD0 hhd hb0
  by_cases cz : g = 48 ∧ (neg = true ∨ 1 < D.size)
  · have HE : Hid (scI neg l = .bad 3) := by
      show _ = _
      rw [HX.out, if_pos (.inr ⟨HG.out.2 cz.1, by rw [← HDz.out]; exact cz.2⟩)]
    obtain ⟨rfl, cz⟩ := cz
    have cc : neg = true ∨ (neg = false ∧ decide ((1 : Int) < D.size) = true) := by
      cases neg
      · exact .inr ⟨rfl, by simp at cz ⊢; omega⟩
      · exact .inl rfl
    clear HX hall HDD HRS HDz c0 HG cz hne
    rcases cc with rfl | ⟨rfl, cc⟩
    all_goals
      go_enter Tryd.func24, Tryd.ntmps24
      go_wp2_with fail
      refine (HCP.out _).mono ?_
      rintro e w1 ⟨rfl, rfl⟩
      go_wp2_with fail
      refine (HTL.out _).mono ?_
      rintro e w2 ⟨rfl, hb2⟩
      have HF : Hid (Fr w w2) := Fr.of hb2
      obtain ⟨⟨d0, d1, d2, f0, f1, f2⟩, -⟩ := HF.out
      clear hb2
      go_wp2
      try simp only [Exit.inBlock, Exit.then]
      exact bodyPost_ret (results_v3 rfl _ _ w.heap.size rfl (HF.out.z.three.set _ _ _)) rfl ⟨by rw [HE.out]; rfl, set3_below HF.out.b _ _ _⟩
  have HNF : Hid (¬ (digs l = [] ∨ ((digs l).head? = some 48 ∧ (neg = true ∨ 1 < (digs l).length)))) := by
    rintro (e | ⟨e, f⟩)
    · exact hne e
    · exact cz ⟨HG.out.1 e, by rw [HDz.out]; exact f⟩
  have cc : ((g : Int) == 48) = false ∨ (g = 48 ∧ neg = false ∧ decide ((1 : Int) < D.size) = false) := by
    by_cases e : g = 48
    · refine .inr ⟨e, ?_, ?_⟩
      · cases hn : neg
        · rfl
        · exact absurd ⟨e, .inl hn⟩ cz
      · simp only [decide_eq_false_iff_not]
        intro h
        exact cz ⟨e, .inr (by omega)⟩
    · exact .inl (by rw [beq_eq_false_iff_ne]; omega)
  have Hcc : Hid (digs l ≠ []) := hne
  clear cz HG hne
  by_cases c16 : 16 < D.size
  · have d16 : decide ((16 : Int) < D.size) = true := by simp; omega
    have HE : Hid (scI neg l = .bad 2) := by
      show _ = _
      rw [HX.out, if_neg HNF.out, if_pos (.inl (by rw [← HDz.out]; exact c16))]
    clear HX hall HDD HRS HDz c0 HNF Hcc
    rcases cc with cc | ⟨rfl, rfl, cc⟩
    all_goals
      go_enter Tryd.func24, Tryd.ntmps24
      go_wp2_with fail
      refine (HCP.out _).mono ?_
      rintro e w1 ⟨rfl, rfl⟩
      go_wp2_with fail
      refine (HTL.out _).mono ?_
      rintro e w2 ⟨rfl, hb2⟩
      have HF : Hid (Fr w w2) := Fr.of hb2
      obtain ⟨⟨d0, d1, d2, f0, f1, f2⟩, -⟩ := HF.out
      clear hb2
      go_wp2
      try simp only [Exit.inBlock, Exit.then]
      exact bodyPost_ret (results_v3 rfl _ _ w.heap.size rfl (HF.out.z.three.set _ _ _)) rfl ⟨by rw [HE.out]; rfl, set3_below HF.out.b _ _ _⟩
  have d16 : decide ((16 : Int) < D.size) = false := by simp; omega
  have HAT : Hid (∀ k, k < D.size → gN D k = ((digs l).getD k 0).toNat ∧ isD ((digs l).getD k 0) = true ∧ numOf ((digs l).take (k + 1)) = 10 * numOf ((digs l).take k) + (((digs l).getD k 0).toNat - 48)) := fun k hk => by
    have hk' : k < (digs l).length := by rw [← HDz.out]; exact hk
    have hgd : (digs l).getD k 0 = (digs l)[k]'hk' := by rw [List.getD_eq_getElem?_getD, List.getElem?_eq_getElem hk']; rfl
    refine ⟨by rw [← HDD.out, gN_str _ _ hk'], ?_, ?_⟩
    · rw [hgd]; exact hall _ (List.getElem_mem hk')
    · rw [← List.take_append_getElem hk', numOf_snoc, hgd]
  have HNT : Hid (∀ k, k ≤ D.size → numOf ((digs l).take k) < 10 ^ 16) := fun k hk => by
    have h3 := numOf_lt ((digs l).take k).length ((digs l).take k) rfl (fun b hb => hall b (List.mem_of_mem_take hb))
    refine Nat.lt_of_lt_of_le h3 (Nat.pow_le_pow_right (by decide) ?_)
    rw [List.length_take]
    omega
  have HLast : Hid (numOf ((digs l).take D.size) = numOf (digs l)) := by
    show _ = _
    rw [HDz.out, List.take_length]
  have HE : Hid (scI neg l = if 9007199254740991 < numOf (digs l) then .bad 2 else ⟨1, if neg = true then -(numOf (digs l) : Int) else numOf (digs l), [], l.drop (digs l).length, 0⟩) := by
    show _ = _
    rw [HX.out, if_neg HNF.out]
    by_cases hM : 9007199254740991 < numOf (digs l)
    · rw [if_pos (.inr hM), if_pos hM]
    · rw [if_neg (fun h => h.elim (fun h => c16 (by rw [HDz.out]; exact h)) hM), if_neg hM]
  clear HX hall HNF Hcc c16 c0
  rcases cc with cc | ⟨rfl, rfl, cc⟩
  all_goals
    go_enter Tryd.func24, Tryd.ntmps24
    go_wp2_with fail
    refine (HCP.out _).mono ?_
    rintro e w1 ⟨rfl, rfl⟩
    go_wp2_with fail
    refine (HTL.out _).mono ?_
    rintro e w2 ⟨rfl, hb2⟩
    have HF : Hid (Fr w w2) := Fr.of hb2
    obtain ⟨⟨d0, d1, d2, f0, f1, f2⟩, -⟩ := HF.out
    clear hb2
    go_wp2_with fail
    go_loop [7, 45] (fun n i => ∃ (k : Nat) (a : Int), k ≤ D.size ∧ i = .int .i64 k ∧ n = .int .i64 a ∧ Hid (a = (numOf ((digs l).take k) : Nat))) (fun _ i => D.size - (intOf i).toNat)
    case atStart => exact ⟨0, 0, Nat.zero_le _, rfl, rfl, rfl⟩
    case round =>
      obtain ⟨k, a, hk, rfl, rfl, HA⟩ := hrel
      have hA := HA.out
      have hN := HNT.out k hk
      have a0 : 0 ≤ a := by omega
      have a1 : a < 10000000000000000 := by omega
      clear hA hN
      by_cases hkn : k < D.size
      · obtain ⟨e1, e2, e3⟩ := HAT.out k hkn
        simp only [isD, decide_eq_true_eq] at e2
        have hi : (k : Int) < D.size := by omega
        have hgk := gN_of D k hkn
        have hg48 : 48 ≤ gN D k := by omega
        have hg57 : gN D k ≤ 57 := by omega
        have HS : Hid (10 * a + ((gN D k : Int) - 48) = (numOf ((digs l).take (k + 1)) : Nat)) := by
          show _ = _
          rw [e3, HA.out, e1]
          omega
        clear e1 e2 e3
        generalize gN D k = y at *
        go_wp2
        refine ⟨⟨k + 1, 10 * a + ((y : Int) - 48), by omega, (by first | rfl | (congr 1; omega)), (by first | rfl | (congr 1; omega)), HS⟩, by simp [intOf]; omega⟩
      · obtain rfl : k = D.size := by omega
        have hAL : a = (numOf (digs l) : Nat) := by rw [HA.out, HLast.out]
        by_cases hM : 9007199254740991 < numOf (digs l)
        · have dM : decide ((9007199254740991 : Int) < a) = true := by simp; omega
          have HE2 : Hid (scI _ l = .bad 2) := HE.out.trans (if_pos hM)
          clear hAL hM HA HE
          go_wp2
          try simp only [Exit.inBlock, Exit.then]
          exact bodyPost_ret (results_v3 rfl _ _ w.heap.size rfl (HF.out.z.three.set _ _ _)) rfl ⟨by rw [HE2.out]; rfl, set3_below HF.out.b _ _ _⟩
        · have dM : decide ((9007199254740991 : Int) < a) = false := by simp; omega
          have hE2 := HE.out.trans (if_neg hM)
          rw [← hAL] at hE2
          have HE2 : Hid (scI _ l = ⟨1, if _ = true then -a else a, [], l.drop (digs l).length, 0⟩) := hE2
          have HV : Hid (R = str (l.drop (digs l).length)) := HRS.out
          have a2 : a ≤ 9007199254740991 := by omega
          clear hAL hM HA HE hE2
          first
            | (cases neg
               all_goals
                 go_wp2
                 try simp only [Exit.inBlock, Exit.then]
                 exact bodyPost_ret (results_v3 rfl _ _ w.heap.size rfl (HF.out.z.three.set _ _ _)) rfl ⟨by rw [HE2.out, HV.out]; rfl, set3_below HF.out.b _ _ _⟩)
            | (go_wp2
               try simp only [Exit.inBlock, Exit.then]
               exact bodyPost_ret (results_v3 rfl _ _ w.heap.size rfl (HF.out.z.three.set _ _ _)) rfl ⟨by rw [HE2.out, HV.out]; rfl, set3_below HF.out.b _ _ _⟩)
end Go.Proofs.YtdendpckihckeaaDoor
