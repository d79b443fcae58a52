/- The shelf contract of (*strings.Builder).String at this program, laid by the shelf tool in plain words. -/
import Derived.Shelf.Strings.BuilderK
import Derived.Test.YtbekpemidpngaaaGreatDoorProg
import Derived.Test.YtbekpemidpngaaaGreatDoorZk6
import Derived.Laws.ResultCell
import Derived.Laws.MakeOwn
import Derived.Deep.RegionHeld3
import Derived.Below
import Derived.Calls
namespace Go.Proofs
open Go.Shelf
def Tryz.lays169_ren : Go.Shelf.Ren := ⟨fun | 169 => 80 | n => n, fun | 70 => 123 | 9 => 9 | 0 => 0 | 72 => 126 | 37 => 124 | 127 => 172 | 3 => 3 | 5 => 5 | n => n, fun | n => n⟩
theorem Tryz.lays169 : Go.Proofs.Lays.n169 Tryz.prog Tryz.lays169_ren := {
  mixed := by kernel_rfl
  f169 := Tryz.func80.trans (congrArg some (by kernel_rfl))
  t0 := Tryz.underlying0
  a0 := Tryz.isAgg0
  z0 := Tryz.sizeOf0
  v0 := Tryz.zeroValue0
  t3 := Tryz.underlying3
  a3 := Tryz.isAgg3
  z3 := Tryz.sizeOf3
  v3 := Tryz.zeroValue3
  t9 := Tryz.underlying9
  a9 := Tryz.isAgg9
  z9 := Tryz.sizeOf9
  v9 := Tryz.zeroValue9
  t37 := Tryz.underlying124
  a37 := Tryz.isAgg124
  z37 := Tryz.sizeOf124
  v37 := Tryz.zeroValue124
  t70 := Tryz.underlying123
  a70 := Tryz.isAgg123
  z70 := Tryz.sizeOf123
  v70 := Tryz.zeroValue123
  t72 := Tryz.underlying126
  a72 := Tryz.isAgg126
  z72 := Tryz.sizeOf126
  v72 := Tryz.zeroValue126
  t127 := Tryz.underlying172
  a127 := Tryz.isAgg172
  z127 := Tryz.sizeOf172
  v127 := Tryz.zeroValue172 }
theorem Tryz.Builder_Extra_169 : Builder.Extra Tryz.prog Tryz.lays169_ren := {
  sizeBuilder := by kernel_rfl
  liesBuilder := by kernel_rfl
  t5 := Tryz.underlying5
  a5 := Tryz.isAgg5
  z5 := Tryz.sizeOf5
  v5 := Tryz.zeroValue5
  infoByte := by kernel_rfl
  cellsByte := by kernel_rfl
  sizeByte := by kernel_rfl
  neB5 := by decide }
open Go.RowKit in
theorem Tryz.Builder_String_any_k (B b : Nat) (l : List UInt8) (w : World) (h : Lib.IsBuilderF 126 5 B b (Lib.byteCells l) w) (hBw : B ≤ w.heap.size) :
    Calls Tryz.prog 80 #[.pointer (some ⟨b, 0, none⟩)] w fun e w' => e = .returned (.string ⟨l.toArray⟩) ∧ (Lib.IsBuilderF 126 5 B b (Lib.byteCells l) w' ∧ Below B w w' ∧ Lib.OthersKept 5 (some b) w w') := Any.Builder_String_any_k Tryz.lays169 Tryz.Builder_Extra_169 B b l w h hBw
end Go.Proofs
/- value.showText, and Show of a text: walks. -/
namespace Go.Proofs.YtbekpemidpngaaaGreatDoor.V
open Go.RowKit

theorem grown_below {w w1 : World} (hb : Below w.heap.size w w1) : w.grownBy w1 none := ⟨hb.os, hb.tape, hb.output, hb.size, fun k hk _ => hb.block k hk⟩
theorem IsB_below {B b : Nat} {bs : List Value} {w w1 : World} (h : IsB B b bs w) (hb : Below w.heap.size w w1) : IsB B b bs w1 := by
  have key : ∀ p, Lib.BuilderAtF 126 5 B b p bs w → Lib.BuilderAtF 126 5 B b p bs w1 := by
    rintro p ⟨hB, v, hbk, hown, hne⟩
    exact ⟨hB, v, (hb.block b (Array.getElem?_eq_some_iff.1 hbk).1).trans hbk, hown.kept (grown_below hb) (by cases hv : v.ownBlock <;> simp), hne⟩
  exact h.elim (fun x => .inl (key _ x)) (fun x => .inr (key _ x))
theorem IsB_alloc {B b : Nat} {bs : List Value} {w : World} (h : IsB B b bs w) (o : Obj) : IsB B b bs (w.alloc o) :=
  h.elim (fun x => .inl (x.alloc o)) (fun x => .inr (x.alloc o))
theorem IsB_iter {B b : Nat} {bs : List Value} {w : World} (h : IsB B b bs w) {k : Nat} {s : ByteArray} {p : Nat} (hk : w.heap[k]? = some (.stringIter s p)) (p' : Nat) : IsB B b bs (w.iterAt k s p') := by
  have key : ∀ q, Lib.BuilderAtF 126 5 B b q bs w → Lib.BuilderAtF 126 5 B b q bs (w.iterAt k s p') := by
    rintro q ⟨hB, v, hbk, hown, hne⟩
    have hbne : b ≠ k := fun e => by rw [e, hk] at hbk; cases hbk
    refine ⟨hB, v, (Lib.iterAt_other w k b s p' hbne).trans hbk, hown.kept (row := some k) ⟨rfl, rfl, rfl, by rw [Lib.iterAt_size]; exact Nat.le_refl _, fun j _ hj => Lib.iterAt_other w k j s p' (fun e => hj (by rw [e]))⟩ ?_, hne⟩
    refine .inr fun e => ?_
    obtain ⟨c, fz, hc⟩ := rowF_cells hown k e
    rw [hk] at hc
    cases hc
  exact h.elim (fun x => .inl (key _ x)) (fun x => .inr (key _ x))
theorem iterPos_of {w : World} {k : Nat} {s : ByteArray} {p : Nat} (h : w.heap[k]? = some (.stringIter s p)) : w.iterPos k = p := by
  simp [World.iterPos, h]
theorem iter_kept {w w' : World} {b : Nat} (ok : Lib.OthersKept 5 (some b) w w') {k : Nat} {s : ByteArray} {p : Nat} (h : w.heap[k]? = some (.stringIter s p)) (hb : k ≠ b) : w'.heap[k]? = some (.stringIter s p) :=
  ok k _ h (fun e => hb (Option.some.inj e)) (fun c fz e => by cases e)
theorem IsB_ne {B b : Nat} {bs : List Value} {w : World} (h : IsB B b bs w) {k : Nat} {s : ByteArray} {p : Nat} (hk : w.heap[k]? = some (.stringIter s p)) : k ≠ b := by
  intro e
  subst e
  rcases h with ⟨_, v, hbk, _⟩ | ⟨_, v, hbk, _⟩
  · rw [hk] at hbk; cases hbk
  · rw [hk] at hbk; cases hbk

theorem cells_byte (l : List UInt8) (x : UInt8) : Lib.byteCells l ++ [Value.int .u8 (x.toNat : Int)] = Lib.byteCells (l ++ [x]) := by rw [Lib.byteCells_append]; rfl

end Go.Proofs.YtbekpemidpngaaaGreatDoor.V
/- value.scanInt at the examples: walks. -/
namespace Go.Proofs.YtbekpemidpngaaaGreatDoor.V
open Go.RowKit

theorem results_cell3 {fn : Func} {p u v : Tmp} {ty : TypeId} (h : fn.results = #[.cell p ty, .tmp u, .tmp v]) (tmps : Array Value) (P : Program) (w : World) :
    (results fn tmps).run P w =
      ((asAddr (tmps.getD p undef)).run P w).andThen fun a w₁ => ((loadVar ty a).run P w₁).andThen fun x w₂ => .ok (.tuple #[x, tmps.getD u undef, tmps.getD v undef]) w₂ := by
  simp only [results, h]
  simp [Sem.run_bind, Result.andThen]
abbrev v0 : Value := vv 0 0 ⟨#[]⟩
theorem ascii10 : ∀ (j : Nat) b, (⟨#[48, 49, 50, 51, 52, 53, 54, 55, 56, 57]⟩ : ByteArray).data.toList[j]? = some b → b.toNat < 128 := by
  intro j b h
  have hm : b ∈ [48, 49, 50, 51, 52, 53, 54, 55, 56, 57] := List.mem_of_getElem? h
  simp at hm
  rcases hm with rfl | rfl | rfl | rfl | rfl | rfl | rfl | rfl | rfl | rfl <;> decide
abbrev HX : ByteArray := ⟨#[48, 49, 50, 51, 52, 53, 54, 55, 56, 57, 97, 98, 99, 100, 101, 102]⟩
def ML (w : World) : Prop := ∃ m, w.cell? ⟨2, 0, none⟩ = some (.int .i64 m)
theorem ML_below {w w' : World} (h : ML w) (hb : Below w.heap.size w w') : ML w' := by
  obtain ⟨m, hm⟩ := h
  exact ⟨m, (hb.cell (p := ⟨2, 0, none⟩) (World.block_lt_of_cell? _ _ hm)).trans hm⟩
theorem conv2 (w : World) (g : Nat) (h0 : w.cell? ⟨g, 0, none⟩ = some (.int .u8 0)) (h1 : w.cell? ⟨g, 1, none⟩ = some (.int .u8 255)) : (convert 124 9 (.slice (some ⟨g, 0, none⟩) 2 2)).run Tryz.prog w = .ok (.string (strOfNums [0, 255])) w :=
  run_convert_bytes_arg (P := Tryz.prog) w 124 5 Tryz.underlying124 Tryz.underlying5 g 0 2 2 [0, 255] rfl (fun i hi => by
    match i, hi with
    | 0, _ => simpa using h0
    | 1, _ => simpa using h1) 9 Tryz.underlying9
end Go.Proofs.YtbekpemidpngaaaGreatDoor.V
/- value.scanRune and scanText at the examples, Scan, Parse; the law's awake: walks. -/
namespace Go.Proofs.YtbekpemidpngaaaGreatDoor.V
open Go.RowKit

end Go.Proofs.YtbekpemidpngaaaGreatDoor.V
/- value.scanText at the example, Scan and Parse at the four examples; the law's awake: walks. -/
namespace Go.Proofs.YtbekpemidpngaaaGreatDoor.V
open Go.RowKit

/-- The result's cells, not yet set. -/
structure Zero (b : Nat) (w : World) : Prop where
  c0 : w.cell? ⟨b, 0, none⟩ = some (.int .i64 0)
  c1 : w.cell? ⟨b, 1, none⟩ = some (.int .i64 0)
  c2 : w.cell? ⟨b, 2, none⟩ = some (.string ⟨#[]⟩)
  f0 : w.frozen? ⟨b, 0, none⟩ = false
  f1 : w.frozen? ⟨b, 1, none⟩ = false
  f2 : w.frozen? ⟨b, 2, none⟩ = false
theorem Zero.below {b B : Nat} {w w' : World} (h : Zero b w) (hb : Below B w w') (hlt : b < B) : Zero b w' :=
  ⟨(hb.cell (p := ⟨b, 0, none⟩) hlt).trans h.c0, (hb.cell (p := ⟨b, 1, none⟩) hlt).trans h.c1, (hb.cell (p := ⟨b, 2, none⟩) hlt).trans h.c2, (hb.frozen (p := ⟨b, 0, none⟩) hlt).trans h.f0, (hb.frozen (p := ⟨b, 1, none⟩) hlt).trans h.f1, (hb.frozen (p := ⟨b, 2, none⟩) hlt).trans h.f2⟩
theorem Zero.new (w : World) : Zero w.heap.size (w.alloc (.cells #[.int .i64 0, .int .i64 0, .string ⟨#[]⟩] 54)) :=
  ⟨by simp, by simp, by simp, by simp, by simp, by simp⟩
abbrev wv (w : World) : World := w.alloc (.cells #[.int .i64 0, .int .i64 0, .string ⟨#[]⟩] 54)
theorem wv_below (w : World) : Below w.heap.size w (wv w) := (Below.refl _ _).alloc (Nat.le_refl _) _
theorem wv_size (w : World) : (wv w).heap.size = w.heap.size + 1 := by simp
theorem load_vv (W : World) (b : Nat) (k n : Int) (s : ByteArray) (c0 : W.cell? ⟨b, 0, none⟩ = some (.int .i64 k)) (c1 : W.cell? ⟨b, 1, none⟩ = some (.int .i64 n)) (c2 : W.cell? ⟨b, 2, none⟩ = some (.string s)) : (loadVar 54 ⟨b, 0, none⟩).run Tryz.prog W = .ok (vv k n s) W := by
  go_simp
abbrev set3 (W : World) (b : Nat) (x y z : Value) : World := ((W.setCell ⟨b, 0, none⟩ x).setCell ⟨b, 1, none⟩ y).setCell ⟨b, 2, none⟩ z
structure Three (b : Nat) (W : World) (x y z : Value) : Prop where
  c0 : W.cell? ⟨b, 0, none⟩ = some x
  c1 : W.cell? ⟨b, 1, none⟩ = some y
  c2 : W.cell? ⟨b, 2, none⟩ = some z
theorem Three.set {b : Nat} {W : World} {x y z : Value} (h : Three b W x y z) (x' y' z' : Value) : Three b (set3 W b x' y' z') x' y' z' := by
  have a1 : (W.setCell ⟨b, 0, none⟩ x').cell? ⟨b, 1, none⟩ = some y := (World.cell?_setCell_other _ _ _ _ (by simp)).trans h.c1
  have a2 : ((W.setCell ⟨b, 0, none⟩ x').setCell ⟨b, 1, none⟩ y').cell? ⟨b, 2, none⟩ = some z := (World.cell?_setCell_other _ _ _ _ (by simp)).trans ((World.cell?_setCell_other _ _ _ _ (by simp)).trans h.c2)
  refine ⟨?_, ?_, ?_⟩
  · rw [World.cell?_setCell_other _ _ _ _ (by simp), World.cell?_setCell_other _ _ _ _ (by simp), World.cell?_setCell_same _ _ _ h.c0]
  · rw [World.cell?_setCell_other _ _ _ _ (by simp), World.cell?_setCell_same _ _ _ a1]
  · rw [World.cell?_setCell_same _ _ _ a2]
theorem Three.alloc {b : Nat} {W : World} {x y z : Value} (h : Three b W x y z) (o : Obj) : Three b (W.alloc o) x y z := by
  have hA := (Below.refl W.heap.size W).alloc (Nat.le_refl _) o
  have hlt : b < W.heap.size := World.block_lt_of_cell? _ _ h.c0
  exact ⟨(hA.cell (p := ⟨b, 0, none⟩) hlt).trans h.c0, (hA.cell (p := ⟨b, 1, none⟩) hlt).trans h.c1, (hA.cell (p := ⟨b, 2, none⟩) hlt).trans h.c2⟩
theorem Zero.three {b : Nat} {w : World} (h : Zero b w) : Three b w (.int .i64 0) (.int .i64 0) (.string ⟨#[]⟩) := ⟨h.c0, h.c1, h.c2⟩
theorem results_v3 {fn : Func} {p u v : Tmp} (h : fn.results = #[.cell p 54, .tmp u, .tmp v]) (tmps : Array Value) (W : World) (b : Nat) (hp : tmps.getD p undef = .pointer (some ⟨b, 0, none⟩)) {k n : Int} {s : ByteArray} (h3 : Three b W (.int .i64 k) (.int .i64 n) (.string s)) :
    (results fn tmps).run Tryz.prog W = .ok (.tuple #[vv k n s, tmps.getD u undef, tmps.getD v undef]) W := by
  rw [results_cell3 h, hp]
  have e : (asAddr (.pointer (some ⟨b, 0, none⟩))).run Tryz.prog W = .ok ⟨b, 0, none⟩ W := rfl
  rw [e]
  simp only [Result.andThen]
  rw [load_vv W b k n s h3.c0 h3.c1 h3.c2]
/-- The result's three cells set. -/
theorem set3_below {w0 w : World} {b : Nat} (h : Below b w0 w) (x y z : Value) : Below b w0 (((w.setCell ⟨b, 0, none⟩ x).setCell ⟨b, 1, none⟩ y).setCell ⟨b, 2, none⟩ z) :=
  ((h.setCell (p := ⟨b, 0, none⟩) (Nat.le_refl _) _).setCell (p := ⟨b, 1, none⟩) (Nat.le_refl _) _).setCell (p := ⟨b, 2, none⟩) (Nat.le_refl _) _

def lenOf : Value → Nat
  | .string s => s.size
  | _ => 0
/-- What the walks ask of the world. -/
structure VT (w : World) : Prop where
  u : UT w
  t : T16 w
  m : ML w
theorem VT.below {w w' : World} (h : VT w) (hb : Below w.heap.size w w') : VT w' := ⟨Utf8Tabs_below h.u hb, T16_below h.t hb, ML_below h.m hb⟩
end Go.Proofs.YtbekpemidpngaaaGreatDoor.V
/- cmp.Or of three ints, value.Compare: walks. -/
namespace Go.Proofs.YtbekpemidpngaaaGreatDoor.V
open Go.RowKit

def orI (a b c : Int) : Int := if a ≠ 0 then a else if b ≠ 0 then b else c
set_option maxRecDepth 100000 in
set_option maxHeartbeats 1000000 in
theorem or3 (a b c : Int) (g : Nat) (w : World) (h0 : w.cell? ⟨g, 0, none⟩ = some (.int .i64 a)) (h1 : w.cell? ⟨g, 1, none⟩ = some (.int .i64 b)) (h2 : w.cell? ⟨g, 2, none⟩ = some (.int .i64 c)) :
    Calls Tryz.prog 123 #[.slice (some ⟨g, 0, none⟩) 3 3] w fun e w' => e = .returned (.int .i64 (orI a b c)) ∧ w' = w := by
  obtain ⟨C, HC⟩ : ∃ C, Hid (orI a b c = C) := ⟨_, rfl⟩
  rw [HC.out]
  go_enter Tryz.func123, Tryz.ntmps123
  go_wp2
  go_loopw [8] (fun i wr => (∃ k : Nat, k ≤ 3 ∧ i = .int .i64 k ∧ (0 < k → a = 0) ∧ (1 < k → b = 0) ∧ (2 < k → c = 0)) ∧ wr = w) (fun i _ => 3 - (RowKit.intOf i).toNat)
  case atStart => exact ⟨⟨0, by decide, rfl, by omega, by omega, by omega⟩, rfl⟩
  case round =>
    obtain ⟨⟨k, hk, rfl, ha, hb, hc⟩, rfl⟩ := hrel
    have hk4 : k = 0 ∨ k = 1 ∨ k = 2 ∨ k = 3 := by omega
    rcases hk4 with rfl | rfl | rfl | rfl
    · by_cases h : a = 0
      · have h' : (a != 0) = false := by simpa using h
        go_wp2
        go_roundw
        case rel => exact ⟨⟨1, by decide, by go_num, fun _ => h, by omega, by omega⟩, by trivial⟩
        case measure => decide
      · have h' : (a != 0) = true := by simpa using h
        have HR : Hid (a = C) := by show _ = _; rw [← HC.out, orI, if_pos h]
        go_wp2
        go_ret
        exact ⟨by rw [← HR.out]; rfl, rfl⟩
    · have ha' := ha (by omega)
      by_cases h : b = 0
      · have h' : (b != 0) = false := by simpa using h
        clear ha
        go_wp2
        go_roundw
        case rel => exact ⟨⟨2, by decide, by go_num, fun _ => ha', fun _ => h, by omega⟩, by trivial⟩
        case measure => decide
      · have h' : (b != 0) = true := by simpa using h
        have HR : Hid (b = C) := by show _ = _; rw [← HC.out, orI, if_neg (by simpa using ha'), if_pos h]
        clear ha
        go_wp2
        go_ret
        exact ⟨by rw [← HR.out]; rfl, rfl⟩
    · have ha' := ha (by omega)
      have hb' := hb (by omega)
      by_cases h : c = 0
      · have h' : (c != 0) = false := by simpa using h
        clear ha hb
        go_wp2
        go_roundw
        case rel => exact ⟨⟨3, by decide, by go_num, fun _ => ha', fun _ => hb', fun _ => h⟩, by trivial⟩
        case measure => decide
      · have h' : (c != 0) = true := by simpa using h
        have HR : Hid (c = C) := by show _ = _; rw [← HC.out, orI, if_neg (by simpa using ha'), if_neg (by simpa using hb')]
        clear ha hb
        go_wp2
        go_ret
        exact ⟨by rw [← HR.out]; rfl, rfl⟩
    · have ha' := ha (by omega)
      have hb' := hb (by omega)
      have hc' := hc (by omega)
      have HR : Hid (0 = C) := by show _ = _; rw [← HC.out, orI, if_neg (by simpa using ha'), if_neg (by simpa using hb'), hc']
      clear ha hb hc ha' hb' hc'
      go_wp2
      go_ret
      exact ⟨by rw [← HR.out]; rfl, rfl⟩

/-- How two values stand. -/
def cmpV (k n : Int) (s : ByteArray) (k' n' : Int) (s' : ByteArray) : Int := orI (Lib.compareInt k k') (Lib.compareInt n n') (Lib.compareBytes s.data.toList s'.data.toList)
set_option maxRecDepth 100000 in
set_option maxHeartbeats 4000000 in
theorem compare_any (k n : Int) (s : ByteArray) (k' n' : Int) (s' : ByteArray) (w : World) :
    Calls Tryz.prog 92 #[vv k n s, vv k' n' s'] w fun e w' => e = .returned (.int .i64 (cmpV k n s k' n' s')) ∧ Below w.heap.size w w' := by
  have hb1 : Below w.heap.size w ((w.alloc (.cells #[.int .i64 k, .int .i64 n, .string s] 54)).alloc (.cells #[.int .i64 k', .int .i64 n', .string s'] 54)) := ((Below.refl _ _).alloc (Nat.le_refl _) _).alloc (by simp) _
  have hsz : ((w.alloc (.cells #[.int .i64 k, .int .i64 n, .string s] 54)).alloc (.cells #[.int .i64 k', .int .i64 n', .string s'] 54)).heap.size = w.heap.size + 1 + 1 := by simp
  have a0 : ((w.alloc (.cells #[.int .i64 k, .int .i64 n, .string s] 54)).alloc (.cells #[.int .i64 k', .int .i64 n', .string s'] 54)).cell? ⟨w.heap.size, 0, none⟩ = some (.int .i64 k) := by simp
  have a1 : ((w.alloc (.cells #[.int .i64 k, .int .i64 n, .string s] 54)).alloc (.cells #[.int .i64 k', .int .i64 n', .string s'] 54)).cell? ⟨w.heap.size, 1, none⟩ = some (.int .i64 n) := by simp
  have a2 : ((w.alloc (.cells #[.int .i64 k, .int .i64 n, .string s] 54)).alloc (.cells #[.int .i64 k', .int .i64 n', .string s'] 54)).cell? ⟨w.heap.size, 2, none⟩ = some (.string s) := by simp
  have b0 : ((w.alloc (.cells #[.int .i64 k, .int .i64 n, .string s] 54)).alloc (.cells #[.int .i64 k', .int .i64 n', .string s'] 54)).cell? ⟨w.heap.size + 1, 0, none⟩ = some (.int .i64 k') := by simp
  have b1 : ((w.alloc (.cells #[.int .i64 k, .int .i64 n, .string s] 54)).alloc (.cells #[.int .i64 k', .int .i64 n', .string s'] 54)).cell? ⟨w.heap.size + 1, 1, none⟩ = some (.int .i64 n') := by simp
  have b2 : ((w.alloc (.cells #[.int .i64 k, .int .i64 n, .string s] 54)).alloc (.cells #[.int .i64 k', .int .i64 n', .string s'] 54)).cell? ⟨w.heap.size + 1, 2, none⟩ = some (.string s') := by simp
  go_enter Tryz.func92, Tryz.ntmps92
  go_wp2
  generalize ((w.alloc (.cells #[.int .i64 k, .int .i64 n, .string s] 54)).alloc (.cells #[.int .i64 k', .int .i64 n', .string s'] 54)) = W at *
  go_region_held3 (fun w' => w'.cell? ⟨w.heap.size, 0, none⟩ = some (.int .i64 k) ∧ w'.cell? ⟨w.heap.size, 1, none⟩ = some (.int .i64 n) ∧ w'.cell? ⟨w.heap.size, 2, none⟩ = some (.string s) ∧ w'.cell? ⟨w.heap.size + 1, 0, none⟩ = some (.int .i64 k') ∧ w'.cell? ⟨w.heap.size + 1, 1, none⟩ = some (.int .i64 n') ∧ w'.cell? ⟨w.heap.size + 1, 2, none⟩ = some (.string s')) (go_keep)
    (first
      | (go_at_call 124; refine (Tryz.cmp_Compare_int _ _ _).mono ?_; rintro e w' ⟨rfl, rfl⟩)
      | (go_at_call 67; refine (Tryz.strings_Compare _ _ _).mono ?_; rintro e w' ⟨rfl, rfl⟩)
      | (go_at_call 123; refine (or3 (Lib.compareInt k k') (Lib.compareInt n n') (Lib.compareBytes s.data.toList s'.data.toList) _ _ ?_ ?_ ?_).mono ?_; (rw [World.cell?_drew, ← hsz]; simp); (rw [World.cell?_drew, ← hsz]; simp); (rw [World.cell?_drew, ← hsz]; simp); rintro e w' ⟨rfl, rfl⟩))
  all_goals go_wp2
  all_goals go_ret
  all_goals exact ⟨rfl, (hb1.alloc (by omega) _).drew⟩

theorem ci_anti (x y : Int) : Lib.compareInt x y = - Lib.compareInt y x := by
  unfold Lib.compareInt
  by_cases h1 : x < y
  · have h2 : ¬ y < x := by omega
    simp [h1, h2]
  · by_cases h2 : y < x
    · simp [h1, h2]
    · simp [h1, h2]
theorem ci_zero (x y : Int) : Lib.compareInt x y = 0 ↔ x = y := by
  unfold Lib.compareInt
  by_cases h1 : x < y
  · simp [h1]; omega
  · by_cases h2 : y < x
    · simp [h1, h2]; omega
    · simp [h1, h2]; omega
theorem ci_neg (x y : Int) : Lib.compareInt x y < 0 ↔ x < y := by
  unfold Lib.compareInt
  by_cases h1 : x < y
  · simp [h1]
  · by_cases h2 : y < x
    · simp [h1, h2]
    · simp [h1, h2]
theorem cb_anti : ∀ (a b : List UInt8), Lib.compareBytes a b = - Lib.compareBytes b a
  | [], [] => rfl
  | [], b :: l => by simp [Lib.compareBytes]
  | a :: k, [] => by simp [Lib.compareBytes]
  | a :: k, b :: l => by
    simp only [Lib.compareBytes]
    by_cases h1 : a < b
    · have h2 : ¬ b < a := UInt8.lt_asymm h1
      simp [h1, h2]
    · by_cases h2 : b < a
      · simp [h1, h2]
      · simp [h1, h2, cb_anti k l]
theorem cb_self : ∀ l : List UInt8, Lib.compareBytes l l = 0
  | [] => rfl
  | b :: l => by simp [Lib.compareBytes, cb_self l]
theorem cb_zero : ∀ (a b : List UInt8), Lib.compareBytes a b = 0 → a = b
  | [], [] => fun _ => rfl
  | [], b :: l => by simp [Lib.compareBytes]
  | a :: k, [] => by simp [Lib.compareBytes]
  | a :: k, b :: l => by
    simp only [Lib.compareBytes]
    split
    · intro h; cases h
    split
    · intro h; cases h
    · rename_i h1 h2
      intro h
      have e : a = b := UInt8.le_antisymm (UInt8.not_lt.1 h2) (UInt8.not_lt.1 h1)
      rw [e, cb_zero k l h]
theorem cb_vals : ∀ (a b : List UInt8), Lib.compareBytes a b = -1 ∨ Lib.compareBytes a b = 0 ∨ Lib.compareBytes a b = 1
  | [], [] => by simp [Lib.compareBytes]
  | [], b :: l => by simp [Lib.compareBytes]
  | a :: k, [] => by simp [Lib.compareBytes]
  | a :: k, b :: l => by
    simp only [Lib.compareBytes]
    split
    · simp
    split
    · simp
    · exact cb_vals k l
theorem cb_trans : ∀ (a b c : List UInt8), Lib.compareBytes a b < 0 → Lib.compareBytes b c < 0 → Lib.compareBytes a c < 0
  | [], [], c => by simp [Lib.compareBytes]
  | [], b :: l, [] => by simp [Lib.compareBytes]
  | [], b :: l, c :: m => by simp [Lib.compareBytes]
  | a :: k, [], c => by simp [Lib.compareBytes]
  | a :: k, b :: l, [] => by simp [Lib.compareBytes]
  | a :: k, b :: l, c :: m => by
    have ih := cb_trans k l m
    simp only [Lib.compareBytes]
    by_cases h1 : a < b
    · by_cases h3 : b < c
      · have h5 : a < c := UInt8.lt_trans h1 h3
        simp [h5]
      · by_cases h4 : c < b
        · simp [h3, h4]
        · have e : b = c := UInt8.le_antisymm (UInt8.not_lt.1 h4) (UInt8.not_lt.1 h3)
          subst e
          simp [h1]
    · by_cases h2 : b < a
      · simp [h1, h2]
      · have e : a = b := UInt8.le_antisymm (UInt8.not_lt.1 h2) (UInt8.not_lt.1 h1)
        subst e
        by_cases h3 : a < c
        · simp [h3]
        · by_cases h4 : c < a
          · simp [h3, h4]
          · simp [h3, h4]
            exact ih
theorem cv_zero (k n : Int) (s : ByteArray) (k' n' : Int) (s' : ByteArray) : cmpV k n s k' n' s' = 0 ↔ k = k' ∧ n = n' ∧ s = s' := by
  unfold cmpV orI
  by_cases h1 : Lib.compareInt k k' = 0
  · by_cases h2 : Lib.compareInt n n' = 0
    · simp only [h1, h2, ne_eq, not_true, if_false]
      rw [(ci_zero _ _).1 h1, (ci_zero _ _).1 h2]
      exact ⟨fun h => ⟨rfl, rfl, ba_eq (cb_zero _ _ h)⟩, fun h => by rw [h.2.2]; exact cb_self _⟩
    · simp only [h1, h2, ne_eq, not_true, not_false_eq_true, if_false, if_true, false_iff]
      exact fun h => h2 ((ci_zero _ _).2 h.2.1)
  · simp only [h1, ne_eq, not_false_eq_true, if_true, false_iff]
    exact fun h => h1 ((ci_zero _ _).2 h.1)
theorem cv_anti (k n : Int) (s : ByteArray) (k' n' : Int) (s' : ByteArray) : cmpV k n s k' n' s' = - cmpV k' n' s' k n s := by
  unfold cmpV orI
  have e1 := ci_anti k k'
  have e2 := ci_anti n n'
  have e3 := cb_anti s.data.toList s'.data.toList
  by_cases h1 : Lib.compareInt k k' = 0
  · have h1' : Lib.compareInt k' k = 0 := by omega
    by_cases h2 : Lib.compareInt n n' = 0
    · have h2' : Lib.compareInt n' n = 0 := by omega
      simp [h1, h1', h2, h2', ← e3]
    · have h2' : ¬ Lib.compareInt n' n = 0 := by omega
      simp [h1, h1', h2, h2', ← e2]
  · have h1' : ¬ Lib.compareInt k' k = 0 := by omega
    simp [h1, h1', ← e1]
theorem cv_neg (k n : Int) (s : ByteArray) (k' n' : Int) (s' : ByteArray) : cmpV k n s k' n' s' < 0 ↔ k < k' ∨ (k = k' ∧ (n < n' ∨ (n = n' ∧ Lib.compareBytes s.data.toList s'.data.toList < 0))) := by
  unfold cmpV orI
  by_cases h1 : Lib.compareInt k k' = 0
  · have e1 := (ci_zero _ _).1 h1
    by_cases h2 : Lib.compareInt n n' = 0
    · have e2 := (ci_zero _ _).1 h2
      simp only [h1, h2, ne_eq, not_true, if_false]
      constructor
      · exact fun h => .inr ⟨e1, .inr ⟨e2, h⟩⟩
      · rintro (h | ⟨_, h | ⟨_, h⟩⟩)
        · omega
        · omega
        · exact h
    · have e2 : n ≠ n' := fun e => h2 ((ci_zero _ _).2 e)
      simp only [h1, h2, ne_eq, not_true, not_false_eq_true, if_false, if_true]
      rw [ci_neg]
      constructor
      · exact fun h => .inr ⟨e1, .inl h⟩
      · rintro (h | ⟨_, h | ⟨h, _⟩⟩)
        · omega
        · exact h
        · exact absurd h e2
  · have e1 : k ≠ k' := fun e => h1 ((ci_zero _ _).2 e)
    simp only [h1, ne_eq, not_false_eq_true, if_true]
    rw [ci_neg]
    constructor
    · exact fun h => .inl h
    · rintro (h | ⟨h, _⟩)
      · exact h
      · exact absurd h e1
theorem cv_trans {k n : Int} {s : ByteArray} {k' n' : Int} {s' : ByteArray} {k'' n'' : Int} {s'' : ByteArray} (h1 : cmpV k n s k' n' s' < 0) (h2 : cmpV k' n' s' k'' n'' s'' < 0) : cmpV k n s k'' n'' s'' < 0 := by
  rw [cv_neg] at *
  rcases h1 with h1 | ⟨e1, h1⟩
  · rcases h2 with h2 | ⟨e2, _⟩
    · exact .inl (by omega)
    · exact .inl (by omega)
  · rcases h2 with h2 | ⟨e2, h2⟩
    · exact .inl (by omega)
    · refine .inr ⟨by omega, ?_⟩
      rcases h1 with h1 | ⟨e3, h1⟩
      · rcases h2 with h2 | ⟨e4, _⟩
        · exact .inl (by omega)
        · exact .inl (by omega)
      · rcases h2 with h2 | ⟨e4, h2⟩
        · exact .inl (by omega)
        · exact .inr ⟨by omega, cb_trans _ _ _ h1 h2⟩
theorem ci_vals (x y : Int) : Lib.compareInt x y = -1 ∨ Lib.compareInt x y = 0 ∨ Lib.compareInt x y = 1 := by
  unfold Lib.compareInt
  by_cases h1 : x < y
  · simp [h1]
  · by_cases h2 : y < x
    · simp [h1, h2]
    · simp [h1, h2]
theorem cv_vals (k n : Int) (s : ByteArray) (k' n' : Int) (s' : ByteArray) : cmpV k n s k' n' s' = -1 ∨ cmpV k n s k' n' s' = 0 ∨ cmpV k n s k' n' s' = 1 := by
  unfold cmpV orI
  split
  · exact ci_vals _ _
  split
  · exact ci_vals _ _
  · exact cb_vals _ _
end Go.Proofs.YtbekpemidpngaaaGreatDoor.V
/- How often the tape was asked never falls: of one operation. -/
namespace Go.Proofs.YtbekpemidpngaaaGreatDoor
def resW {α : Type} : Result α → World
  | .ok _ w => w
  | .halt _ w => w
theorem viewStore_drawn {p : Program} {w w' : World} {a k : Addr} {u : TypeId} {v : Value} {b : Bool} {l : List Addr} (h : w.viewStore p a u k v b = .ok (w', l)) : w'.drawn = w.drawn := by
  unfold World.viewStore at h
  simp only [bind, Except.bind, pure, Except.pure] at h
  repeat' (split at h)
  all_goals first
    | (cases h; done)
    | (simp only [Except.ok.injEq, Prod.mk.injEq] at h; obtain ⟨rfl, _⟩ := h; rfl)
theorem farStore_drawn {p : Program} {w w' : World} {a : Addr} {v : Value} {b : Bool} {l : List Addr} (h : w.farStore p a v b = .ok (w', l)) : w'.drawn = w.drawn := by
  unfold World.farStore at h
  split at h
  · split at h
    · rename_i r hr
      cases h
      exact viewStore_drawn hr
    · cases h
  · cases h
theorem ask_drawn {α : Type} (m : Ask α) : ∀ w : World, w.drawn ≤ (w.ask m).2.drawn := by
  induction m with
  | done a => intro w; exact Nat.le_refl _
  | ask what range k ih =>
    intro w
    unfold World.ask
    dsimp only
    split
    · exact ih _ w
    · exact Nat.le_trans (Nat.le_succ _) (ih _ { w with drawn := w.drawn + 1 })
theorem sys_drawn (w : World) (c : Sys) : w.drawn ≤ (w.sys c).2.drawn := by
  have h := ask_drawn (Kernel.perform c w.os) w
  unfold World.sys
  split
  · exact Nat.le_refl _
  · rename_i r os w' _ he
    rw [he] at h
    exact h
theorem freeze_drawn (w : World) (a : Addr) (n : Nat) : (w.freeze a n).drawn = w.drawn := by unfold World.freeze; split <;> rfl
theorem run_drawn {α : Type} (p : Program) (s : Sem α) : ∀ w, w.drawn ≤ (resW (s.run p w)).drawn := by
  induction s with
  | pure a => intro w; exact Nat.le_refl _
  | load m a k ih =>
    intro w
    unfold Sem.run
    split
    · exact ih _ w
    · split
      · exact ih _ w
      · exact Nat.le_refl _
  | store m a v k ih =>
    intro w
    cases v <;> unfold Sem.run <;> first
      | exact Nat.le_refl _
      | (split
         · split
           · exact Nat.le_refl _
           · exact ih (w.setCell a _)
         · split
           · rename_i w1 _ he
             have h1 := farStore_drawn he
             exact Nat.le_trans (Nat.le_of_eq h1.symm) (ih w1)
           · exact Nat.le_refl _)
  | new o k ih => intro w; unfold Sem.run; exact ih _ { w with heap := w.heap.push o }
  | shape r k ih => intro w; unfold Sem.run; exact ih _ w
  | freeze a n k ih => intro w; unfold Sem.run; exact Nat.le_trans (Nat.le_of_eq (freeze_drawn w a n).symm) (ih _)
  | frozen a k ih => intro w; unfold Sem.run; exact ih _ w
  | getObj r k ih =>
    intro w
    unfold Sem.run
    split <;> first | exact Nat.le_refl _ | exact ih _ w
  | setObj r o k ih =>
    intro w
    unfold Sem.run
    split <;> first | exact Nat.le_refl _ | exact ih { w with heap := w.heap.setIfInBounds r o }
  | choose q k ih =>
    intro w
    unfold Sem.run
    split
    · exact ih _ w
    · exact Nat.le_trans (Nat.le_succ _) (ih _ { w with drawn := w.drawn + 1 })
  | sys c k ih => intro w; unfold Sem.run; exact Nat.le_trans (sys_drawn w c) (ih _ _)
  | program k ih => intro w; unfold Sem.run; exact ih _ w
  | mark m k ih => intro w; unfold Sem.run; exact ih w
  | halt h => intro w; exact Nat.le_refl _
end Go.Proofs.YtbekpemidpngaaaGreatDoor
/- How often the tape was asked never falls: of one step of a goroutine, in its parts (stepG.exec, stepG itself and the machine's step are left). -/
namespace Go.Proofs.YtbekpemidpngaaaGreatDoor
def gsW : GStep → World
  | .go _ w _ => w
  | .comm _ _ _ _ w _ => w
  | .spawn _ _ w _ => w
  | .count _ w _ => w
  | .timer _ _ w _ => w
  | .alone _ _ w _ => w
  | .newcoro _ _ _ w _ => w
  | .coroswitch _ _ _ w _ => w
  | .collect _ w _ => w
  | .watch _ w _ => w
  | .ended _ w _ => w
theorem after_w (es : Array Event) (s : GStep) : gsW (GStep.after es s) = gsW s := by cases s <;> rfl
theorem run_of {α : Type} {p : Program} {s : Sem α} {w : World} {r : Result α} (h : s.run p w = r) : w.drawn ≤ (resW r).drawn := h ▸ run_drawn p s w
theorem early_d {p : Program} {fr : Frame} {cs : List Frame} {dy : Option Dying} {g : Nat} {w : World} : w.drawn ≤ (gsW (early p fr cs dy g w)).drawn := by
  unfold early
  dsimp only
  repeat' split
  all_goals first
    | exact Nat.le_refl _
    | (have h := run_of (by assumption); exact h)
theorem endThrow_d {fr : Frame} {m : String} {w : World} : w.drawn ≤ (gsW (endThrow fr m w)).drawn := Nat.le_refl _
theorem endFatal_d {p : Program} {fr : Frame} {cs : List Frame} {dy : Option Dying} {m : String} {w : World} : w.drawn ≤ (gsW (endFatal p fr cs dy m w)).drawn := by
  unfold endFatal
  dsimp only
  split <;> rename_i hr <;> exact run_of hr
theorem apply_d (p : Program) (listen : Bool) (fr : Frame) (cs : List Frame) (dy : Option Dying) (s : Sem Next) (w : World) : w.drawn ≤ (gsW (stepG.apply p listen fr cs dy s w)).drawn := by
  have h := run_drawn p s w
  unfold stepG.apply
  simp only [Sem.runT_eq, after_w]
  generalize hr : (s.run p w) = r at h
  cases listen <;> simp only [if_true, Bool.false_eq_true, if_false] <;>
  · cases r with
    | ok a w1 =>
      cases a <;> simp only [resW] at h ⊢ <;> (repeat' split) <;> first | exact h | exact Nat.le_trans h endThrow_d
    | halt a w1 =>
      simp only [resW] at h
      cases a with
      | unsupported u => cases u <;> dsimp only <;> first | exact h | exact Nat.le_trans h early_d
      | _ => dsimp only; first | exact h | exact Nat.le_trans h endThrow_d | exact Nat.le_trans h endFatal_d
theorem endWith_d {w : World} {fd : Nat} {t : ByteArray} {o : Outcome} : w.drawn ≤ (gsW (endWith w fd t o)).drawn := by
  have h := sys_drawn w (.write fd t)
  unfold endWith
  dsimp only
  split <;> rename_i he <;> rw [he] at h <;> (try split) <;> exact h
theorem endPrinting_d {p : Program} {fr : Frame} {v : Value} {w : World} : w.drawn ≤ (gsW (endPrinting p fr v w)).drawn := by
  unfold endPrinting
  dsimp only
  split <;> exact Nat.le_refl _
theorem writeOn_d {p : Program} {fr : Frame} {d : Dying} {f : Fatal} {w : World} : w.drawn ≤ (gsW (writeOn p fr d f w)).drawn := by
  unfold writeOn
  split
  · exact Nat.le_refl _
  · dsimp only
    rw [Sem.runT_eq]
    split <;> rename_i he <;> exact run_of (congrArg Prod.fst he)
theorem doReturn_d {p : Program} {mn : Bool} {fr : Frame} {cs : List Frame} {dy : Option Dying} {v : Value} {w : World} : (gsW (doReturn p mn fr cs dy v w)) = w := by
  unfold doReturn
  repeat' split
  all_goals rfl
theorem die_d {p : Program} {fr : Frame} {d : Dying} {w : World} : w.drawn ≤ (gsW (die p fr d w)).drawn := by
  unfold die
  split
  · exact writeOn_d
  · split
    · split
      · exact Nat.le_refl _
      · exact endWith_d
    · dsimp only
      split
      · exact Nat.le_refl _
      · split <;> rename_i he <;> exact run_of he
      · rename_i t recv name _
        have h := run_drawn p (invoke (.fn (.method name) #[]) #[.iface t recv]) w
        simp only [Sem.runT_eq]
        rw [after_w]
        generalize (invoke (.fn (.method name) #[]) #[.iface t recv]).run p w = r at h
        split <;> first | exact h | exact Nat.le_refl _ | exact Nat.le_trans h endPrinting_d
      all_goals exact Nat.le_refl _
theorem callDeferred_d {p : Program} {fr : Frame} {cs : List Frame} {dy : Option Dying} {d : Deferred} {w : World} : w.drawn ≤ (gsW (callDeferred p fr cs dy d w)).drawn := by
  have h := run_drawn p (invoke d.target d.args) w
  unfold callDeferred
  simp only [Sem.runT_eq]
  generalize (invoke d.target d.args).run p w = r at h
  split
  all_goals (try split)
  all_goals (try split)
  all_goals first
    | exact Nat.le_refl _
    | (rw [after_w]
       cases r with
       | ok a w1 =>
         cases a with
         | coroswitch c e => cases e <;> exact h
         | alone on v => cases on <;> exact h
         | recover => dsimp only; split <;> exact h
         | _ => exact h
       | halt a w1 =>
         cases a with
         | fatal m => exact Nat.le_trans h endFatal_d
         | _ => exact h)
theorem unwind_d {p : Program} {mn : Bool} {fr : Frame} {cs : List Frame} {dy : Option Dying} {w : World} : w.drawn ≤ (gsW (unwind p mn fr cs dy w)).drawn := by
  unfold unwind
  split
  · rw [Sem.runT_eq]
    dsimp only
    rw [after_w]
    split <;> rename_i he <;> exact run_of he
  · exact callDeferred_d
  · split
    · exact Nat.le_refl _
    · split
      · exact Nat.le_refl _
      · split
        · exact Nat.le_refl _
        · split
          · split
            · exact Nat.le_refl _
            · split <;> rename_i he <;> exact run_of he
          · split
            · exact endPrinting_d
            · exact Nat.le_refl _
    · split
      · rw [doReturn_d]; exact Nat.le_refl _
      · rw [Sem.runT_eq]
        dsimp only
        rw [after_w]
        split <;> rename_i he
        · rw [doReturn_d]; exact run_of he
        all_goals exact run_of he
theorem oper_d {p : Program} {ls : Bool} {fr : Frame} {cs : List Frame} {dy : Option Dying} {w : World} : w.drawn ≤ (gsW (stepG.oper p ls fr cs dy w)).drawn := by
  unfold stepG.oper
  split
  · exact Nat.le_refl _
  · split <;> exact apply_d _ _ _ _ _ _ _
end Go.Proofs.YtbekpemidpngaaaGreatDoor
