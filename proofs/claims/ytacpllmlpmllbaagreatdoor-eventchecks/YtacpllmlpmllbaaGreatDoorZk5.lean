/- How often the tape was asked never falls: of a goroutine's step, of the machine's, of a call. -/
import Derived.Test.YtacpllmlpmllbaaGreatDoorZk4
import Derived.Control
import Derived.Shelf.SlSortCmp.NoneTotal
import Derived.Ground.SlsfProg
import Derived.Test.YtacpllmlpmllbaaGreatDoorProg
import Derived.Deep.QuietTactic
import Derived.BigQuiet
import Derived.Laws.MakeOwn
import Derived.Laws.CopyOwn
import Derived.Laws.CopyRow
import Derived.Lib.AppendZeros
import Derived.Deep.WholeRow
import Derived.Test.YtacpllmlpmllbaaGreatDoorZk0
import Derived.Test.YtacpllmlpmllbaaGreatDoorZk1
import Derived.Test.YtacpllmlpmllbaaGreatDoorZk3
import Derived.Test.YtacpllmlpmllbaaGreatDoorZk2
namespace Go.Proofs.YtacpllmlpmllbaaGreatDoor
/-- Of what a step leaves, if it goes on. -/
def nxD (d : Nat) : Stepped → Prop
  | .next m => d ≤ m.world.drawn
  | _ => True
theorem nxD.mono {d e : Nat} {s : Stepped} (h : d ≤ e) (hs : nxD e s) : nxD d s := by
  cases s with
  | next m => exact Nat.le_trans h hs
  | _ => trivial
/-- Of what is moved next. -/
def mvD (d : Nat) : Move → Prop
  | .goroutine m _ => d ≤ m.world.drawn
  | .machine s _ => nxD d s
theorem mvD.mono {d e : Nat} {s : Move} (h : d ≤ e) (hs : mvD e s) : mvD d s := by
  cases s with
  | goroutine m i => exact Nat.le_trans h hs
  | machine s o => exact nxD.mono h hs
end Go.Proofs.YtacpllmlpmllbaaGreatDoor
/- The shelf's contract of slices.SortFunc, at this program, laid by the shelf's tool in plain words. -/
namespace Go.Proofs
open Go.Shelf
end Go.Proofs
/- slices.SortFunc of fields by their names: over the shelf's contract. -/
namespace Go.Proofs.YtacpllmlpmllbaaGreatDoor
open Go.RowKit

/-- Fields whose names are not too long to be held against each other. -/
abbrev Fs := { x : Fd // x.n.size ≤ 1000000 }
instance : Inhabited Fs := ⟨⟨⟨⟨#[]⟩, 0, false⟩, by decide⟩⟩
end Go.Proofs.YtacpllmlpmllbaaGreatDoor
/- schema.Sort; schema.Merge: their walks. -/
namespace Go.Proofs.YtacpllmlpmllbaaGreatDoor
open Go.RowKit

/-- The variables that are read: utf8's tables, MaxLen. -/
structure W3 (w : World) : Prop where
  t : UT w
  m : ML w
theorem W3.below {w w' : World} (h : W3 w) (hb : Below w.heap.size w w') : W3 w' := ⟨Utf8Tabs_below h.t hb, ML_below h.m hb⟩
/-- A slice that lies behind a block. -/
def NewA (base : Nat) (a : Option Addr) : Prop := ∀ g, a = some g → base ≤ g.block
theorem NewA.le {base base' : Nat} {a : Option Addr} (h : NewA base a) (hb : base' ≤ base) : NewA base' a := fun g e => Nat.le_trans hb (h g e)
theorem NewA.own {w : World} {base : Nat} {ty : TypeId} {sz n m c : Nat} {a : Option Addr} {xs : List Value} (h : w.ownsRow base ty sz (.slice a m c) n xs) : NewA base a := by
  intro g e
  subst e
  rcases h.2 with ⟨h, -⟩ | ⟨b, cap, cur, h, hb, -⟩
  · cases h
  · simp only [Value.slice.injEq, Option.some.injEq] at h
    rw [h.1]
    exact hb
end Go.Proofs.YtacpllmlpmllbaaGreatDoor
/- schema.Merge at any fields; slices.Equal at names: walks. -/
namespace Go.Proofs.YtacpllmlpmllbaaGreatDoor
open Go.RowKit Go.ChangeMaps

theorem NewA.none (b : Nat) : NewA b none := fun _ e => nomatch e
end Go.Proofs.YtacpllmlpmllbaaGreatDoor
/- forest.parentOf, isBelow: walks. -/
namespace Go.Proofs.YtacpllmlpmllbaaGreatDoor
open Go.RowKit Go.ChangeMaps

theorem results_c2 {fn : Func} {p q : Tmp} {ty : TypeId} (h : fn.results = #[.cell p ty, .tmp q]) (tmps : Array Value) (P : Program) (w : World) :
    (results fn tmps).run P w = ((asAddr (tmps.getD p undef)).run P w).andThen fun a w₁ => ((loadVar ty a).run P w₁).andThen fun v w₂ => .ok (.tuple #[v, tmps.getD q undef]) w₂ := by
  simp only [results, h]
  simp [Sem.run_bind, Result.andThen]
/-- No type. -/
def zLT : LT := ⟨zT, none, 0, none, 0, none, 0⟩
def PaP (L : List LT) (s : ByteArray) (w : World) (e : Ending) (w' : World) : Prop := ∃ y : LT, e = .returned (.tuple #[ltV y, .bool (parN (tys L) s).isSome]) ∧ ((parN (tys L) s = none ∧ y = zLT) ∨ (y ∈ L ∧ parN (tys L) s = some y.t)) ∧ Below w.heap.size w w'
theorem PaP.zero {L : List LT} {s : ByteArray} {w w' : World} (h : (parN (tys L) s).isSome = false) (hb : Below w.heap.size w w') : PaP L s w (.returned (.tuple #[tyV zT (.slice none 0 0) (.slice none 0 0) (.slice none 0 0), .bool false])) w' := by
  refine ⟨zLT, ?_, .inl ⟨by simpa using h, rfl⟩, hb⟩
  rw [h]
  rfl
end Go.Proofs.YtacpllmlpmllbaaGreatDoor
/- Types whose rows lie behind a block; stores of types. -/
namespace Go.Proofs.YtacpllmlpmllbaaGreatDoor
open Go.RowKit Go.ChangeMaps

/-- A type whose rows lie behind a block. -/
def NewT (base : Nat) (y : LT) : Prop := NewA base y.ao ∧ NewA base y.aa ∧ NewA base y.ac
theorem NewT.le {base base' : Nat} {y : LT} (h : NewT base y) (hb : base' ≤ base) : NewT base' y := ⟨h.1.le hb, h.2.1.le hb, h.2.2.le hb⟩
theorem row_far {w : World} {sz n m c base g : Nat} {a : Option Addr} {xs : List Value} (h : IsRow w sz (.slice a m c) n xs) (hN : NewA base a) (hg : g < base) (j : Nat) (v : Value) : IsRow (w.setCell ⟨g, j, none⟩ v) sz (.slice a m c) n xs := by
  refine ⟨h.1, ?_⟩
  rcases h.2 with h0 | ⟨b, off, cap, hv, hlt, q1, q2, hc⟩
  · exact .inl h0
  · have hb : base ≤ b := by
      simp only [Value.slice.injEq] at hv
      have := hN _ hv.1
      exact this
    refine .inr ⟨b, off, cap, hv, by simpa using hlt, q1, q2, fun k u hu => ?_⟩
    rw [World.cell?_setCell_other _ _ _ _ (by simp only [ne_eq, Addr.mk.injEq, not_and]; intro e; omega)]
    exact hc k u hu
def MkP (r : Ty × Int) (w : World) (e : Ending) (w' : World) : Prop := ∃ y : LT, e = .returned (.tuple #[ltV y, .int .i64 r.2]) ∧ y.t = r.1 ∧ IsTy w' y.t y.vo y.va y.vc ∧ NewT w.heap.size y ∧ Below w.heap.size w w'
theorem ty_zLT (w : World) : IsTy w zLT.t zLT.vo zLT.va zLT.vc := ⟨IsRow.nil _ _, IsRow.nil _ _, IsRow.nil _ _⟩
theorem new_zLT (b : Nat) : NewT b zLT := ⟨NewA.none _, NewA.none _, NewA.none _⟩
theorem MkP.zero {w w' : World} (n : Int) (h : Below w.heap.size w w') : MkP (zT, n) w (.returned (.tuple #[tyV zT (.slice none 0 0) (.slice none 0 0) (.slice none 0 0), .int .i64 n])) w' := ⟨zLT, rfl, rfl, ty_zLT _, new_zLT _, h⟩
end Go.Proofs.YtacpllmlpmllbaaGreatDoor
/- forest.Root: a walk. -/
namespace Go.Proofs.YtacpllmlpmllbaaGreatDoor
open Go.RowKit Go.ChangeMaps

end Go.Proofs.YtacpllmlpmllbaaGreatDoor
/- forest.Of: its walk. -/
namespace Go.Proofs.YtacpllmlpmllbaaGreatDoor
open Go.RowKit Go.ChangeMaps

end Go.Proofs.YtacpllmlpmllbaaGreatDoor
/- slices.Grow of nothing, slices.Concat of two rows of names: walks. -/
namespace Go.Proofs.YtacpllmlpmllbaaGreatDoor
open Go.RowKit Go.ChangeMaps

end Go.Proofs.YtacpllmlpmllbaaGreatDoor
/- forest.Below: its walk. -/
namespace Go.Proofs.YtacpllmlpmllbaaGreatDoor
open Go.RowKit Go.ChangeMaps

end Go.Proofs.YtacpllmlpmllbaaGreatDoor
/- forest.isBelow: its walk. -/
namespace Go.Proofs.YtacpllmlpmllbaaGreatDoor
open Go.RowKit Go.ChangeMaps

end Go.Proofs.YtacpllmlpmllbaaGreatDoor
/- forest.Is: its walk. -/
namespace Go.Proofs.YtacpllmlpmllbaaGreatDoor
open Go.RowKit Go.ChangeMaps

end Go.Proofs.YtacpllmlpmllbaaGreatDoor
/- forest.Make: its walk. -/
namespace Go.Proofs.YtacpllmlpmllbaaGreatDoor
open Go.RowKit Go.ChangeMaps

end Go.Proofs.YtacpllmlpmllbaaGreatDoor
/- forest.copied: a walk. -/
namespace Go.Proofs.YtacpllmlpmllbaaGreatDoor
open Go.RowKit Go.ChangeMaps

theorem results_c1 {fn : Func} {p : Tmp} {ty : TypeId} (h : fn.results = #[.cell p ty]) (tmps : Array Value) (P : Program) (w : World) :
    (results fn tmps).run P w = ((asAddr (tmps.getD p undef)).run P w).andThen fun a w₁ => (loadVar ty a).run P w₁ := by
  simp only [results, h]
  simp [Sem.run_bind, Result.andThen]
end Go.Proofs.YtacpllmlpmllbaaGreatDoor
/- forest.Find: its walk. -/
namespace Go.Proofs.YtacpllmlpmllbaaGreatDoor
open Go.RowKit Go.ChangeMaps

end Go.Proofs.YtacpllmlpmllbaaGreatDoor
/- forest.allCopied: its walk. -/
namespace Go.Proofs.YtacpllmlpmllbaaGreatDoor
open Go.RowKit Go.ChangeMaps

end Go.Proofs.YtacpllmlpmllbaaGreatDoor
/- slices.Insert of one type into a row without room: its walk. -/
namespace Go.Proofs.YtacpllmlpmllbaaGreatDoor
open Go.RowKit Go.ChangeMaps

def insL (M : List LT) (i : Nat) (y : LT) : List LT := M.take i ++ y :: M.drop i
theorem tys_insL (M : List LT) (i : Nat) (y : LT) : tys (insL M i y) = insT (tys M) i y.t := by simp [tys, insL, insT]
def InP (M : List LT) (i : Nat) (y : LT) (w : World) (e : Ending) (w' : World) : Prop := ∃ c, e = .returned (.slice (some ⟨w.heap.size, 0, none⟩) (M.length + 1) c) ∧ IsRow w' 8 (.slice (some ⟨w.heap.size, 0, none⟩) (M.length + 1) c) (M.length + 1) (tCells (insL M i y)) ∧ Below w.heap.size w w'
end Go.Proofs.YtacpllmlpmllbaaGreatDoor
/- forest.Add: its walk. -/
namespace Go.Proofs.YtacpllmlpmllbaaGreatDoor
open Go.RowKit Go.ChangeMaps

def AdP (r : List Ty × Int) (w : World) (e : Ending) (w' : World) : Prop := ∃ (sa : Option Addr) (sc : Nat) (K : List LT), e = .returned (.tuple #[.slice sa K.length sc, .int .i64 r.2]) ∧ tys K = r.1 ∧ IsTys w' (.slice sa K.length sc) K ∧ Below w.heap.size w w'
theorem AdP.ok {L M : List LT} {x y : LT} {w W0 wd w6 w7 w9 : World} {e : Ending} {k : Nat} (hB : ∀ W, Below W0.heap.size W0 W → Below w.heap.size w W) (hd : Below W0.heap.size W0 wd) (hM : tys M = tys L) (hMI : ∀ y ∈ M, IsTy w6 y.t y.vo y.va y.vc) (h6 : Below wd.heap.size wd w6) (hy : y.t = x.t) (hyI : IsTy w7 y.t y.vo y.va y.vc) (h7 : Below w6.heap.size w6 w7) (hi : InP M k y (w7.alloc (.cells (tyA y.t y.vo y.va y.vc) 67)) e w9) :
    ∃ sa sc, e = .returned (.slice sa (M.length + 1) sc) ∧ AdP (insT (tys L) k x.t, 0) w (.returned (.tuple #[.slice sa (M.length + 1) sc, .int .i64 0])) w9 := by
  obtain ⟨c, rfl, hrow, hb9⟩ := hi
  have hal := al_b w7 (.cells (tyA y.t y.vo y.va y.vc) 67)
  have b79 : Below w7.heap.size w7 w9 := hal.trans (hb9.mono hal.size)
  have b69 : Below w6.heap.size w6 w9 := h7.trans (b79.mono h7.size)
  have bd9 : Below wd.heap.size wd w9 := h6.trans (b69.mono h6.size)
  have hlen : (insL M k y).length = M.length + 1 := by
    unfold insL
    rw [List.length_append, List.length_cons, List.length_take, List.length_drop]
    omega
  refine ⟨_, c, rfl, _, c, insL M k y, by rw [hlen], by rw [tys_insL, hM, hy], ⟨by rw [hlen]; exact hrow, fun z hz => ?_⟩, hB _ (hd.trans (bd9.mono hd.size))⟩
  have hz' : z = y ∨ z ∈ M := by
    unfold insL at hz
    rcases List.mem_append.1 hz with h | h
    · exact .inr (List.mem_of_mem_take h)
    · rcases List.mem_cons.1 h with h | h
      · exact .inl h
      · exact .inr (List.mem_of_mem_drop h)
  rcases hz' with rfl | hz'
  · exact hyI.below b79
  · exact (hMI z hz').below b69
end Go.Proofs.YtacpllmlpmllbaaGreatDoor
/- law05's one and Few: walks. -/
namespace Go.Proofs.YtacpllmlpmllbaaGreatDoor
open Go.RowKit Go.ChangeMaps

end Go.Proofs.YtacpllmlpmllbaaGreatDoor
/- The reference's Letter, Small, Hash: walks. -/
namespace Go.Proofs.YtacpllmlpmllbaaGreatDoor
open Go.RowKit

set_option maxRecDepth 100000 in
set_option maxHeartbeats 2000000 in
theorem refLetter_any (c : Int) (w : World) :
    Calls Tryz.prog 140 #[.int .i64 c] w fun e w' => e = .returned (.bool (letterZ c)) ∧ w' = w := by
  go_enter Tryz.func140, Tryz.ntmps140
  go_wp2
  all_goals go_ret
  all_goals refine ⟨?_, rfl⟩
  all_goals refine congrArg (fun b => Ending.returned (Value.bool b)) ?_
  all_goals (rw [Bool.eq_iff_iff]; try simp only [decide_eq_true_eq, bne_iff_ne, ne_eq] at *)
  all_goals (simp only [letterZ, Bool.false_eq_true, Bool.or_eq_true, Bool.and_eq_true, bne_iff_ne, ne_eq, decide_eq_true_eq, true_iff, false_iff]; omega)

set_option maxRecDepth 100000 in
set_option maxHeartbeats 2000000 in
theorem refSmall_any (c : Int) (w : World) (h1 : -2147483648 ≤ c) (h2 : c ≤ 2147483647) :
    Calls Tryz.prog 142 #[.int .i64 c] w fun e w' => e = .returned (.int .i64 (smallZ c)) ∧ w' = w := by
  go_enter Tryz.func142, Tryz.ntmps142
  go_wp2
  all_goals go_ret
  all_goals refine ⟨?_, rfl⟩
  all_goals refine congrArg (fun b => Ending.returned (Value.int .i64 b)) ?_
  all_goals first | (simp only [smallZ, bigZ, decide_eq_true_eq, ne_eq] at *; split <;> omega) | rfl
end Go.Proofs.YtacpllmlpmllbaaGreatDoor
/- The reference's Bytes, Fold: walks. -/
namespace Go.Proofs.YtacpllmlpmllbaaGreatDoor
open Go.RowKit

theorem conv1 (w : World) (a : Int) : (convert 92 9 (.slice (some ⟨w.heap.size, 0, none⟩) 1 1)).run Tryz.prog (w.alloc (.cells #[.int .u8 a] 5)) = .ok (.string (strOfNums [a])) (w.alloc (.cells #[.int .u8 a] 5)) :=
  run_convert_bytes_arg (P := Tryz.prog) (w.alloc (.cells #[.int .u8 a] 5)) 92 5 Tryz.underlying92 Tryz.underlying5 w.heap.size 0 1 1 [a] rfl (fun i hi => by
    match i, hi with
    | 0, _ => simp) 9 Tryz.underlying9
theorem conv2 (w : World) (a b : Int) : (convert 92 9 (.slice (some ⟨w.heap.size, 0, none⟩) 2 2)).run Tryz.prog (w.alloc (.cells #[.int .u8 a, .int .u8 b] 5)) = .ok (.string (strOfNums [a, b])) (w.alloc (.cells #[.int .u8 a, .int .u8 b] 5)) :=
  run_convert_bytes_arg (P := Tryz.prog) (w.alloc (.cells #[.int .u8 a, .int .u8 b] 5)) 92 5 Tryz.underlying92 Tryz.underlying5 w.heap.size 0 2 2 [a, b] rfl (fun i hi => by
    match i, hi with
    | 0, _ => simp
    | 1, _ => simp) 9 Tryz.underlying9
theorem conv3 (w : World) (a b c : Int) : (convert 92 9 (.slice (some ⟨w.heap.size, 0, none⟩) 3 3)).run Tryz.prog (w.alloc (.cells #[.int .u8 a, .int .u8 b, .int .u8 c] 5)) = .ok (.string (strOfNums [a, b, c])) (w.alloc (.cells #[.int .u8 a, .int .u8 b, .int .u8 c] 5)) :=
  run_convert_bytes_arg (P := Tryz.prog) (w.alloc (.cells #[.int .u8 a, .int .u8 b, .int .u8 c] 5)) 92 5 Tryz.underlying92 Tryz.underlying5 w.heap.size 0 3 3 [a, b, c] rfl (fun i hi => by
    match i, hi with
    | 0, _ => simp
    | 1, _ => simp
    | 2, _ => simp) 9 Tryz.underlying9
theorem conv4 (w : World) (a b c d : Int) : (convert 92 9 (.slice (some ⟨w.heap.size, 0, none⟩) 4 4)).run Tryz.prog (w.alloc (.cells #[.int .u8 a, .int .u8 b, .int .u8 c, .int .u8 d] 5)) = .ok (.string (strOfNums [a, b, c, d])) (w.alloc (.cells #[.int .u8 a, .int .u8 b, .int .u8 c, .int .u8 d] 5)) :=
  run_convert_bytes_arg (P := Tryz.prog) (w.alloc (.cells #[.int .u8 a, .int .u8 b, .int .u8 c, .int .u8 d] 5)) 92 5 Tryz.underlying92 Tryz.underlying5 w.heap.size 0 4 4 [a, b, c, d] rfl (fun i hi => by
    match i, hi with
    | 0, _ => simp
    | 1, _ => simp
    | 2, _ => simp
    | 3, _ => simp) 9 Tryz.underlying9

theorem str_nums (l : List Nat) (xs : List Int) (h : xs = l.map fun (x : Nat) => (x : Int)) : strOfNums xs = str (l.map UInt8.ofNat) := by
  subst h
  unfold strOfNums str
  congr 2
  rw [List.map_map]
  rfl

set_option maxRecDepth 100000 in
set_option maxHeartbeats 2000000 in
theorem refBytes_any (c : Nat) (w : World) (h : scal c) :
    Calls Tryz.prog 141 #[.int .i64 (c : Int)] w fun e w' => e = .returned (.string (str (enc c))) ∧ Below w.heap.size w w' := by
  have hc : c ≤ 1114111 := by unfold scal at h; omega
  by_cases h1 : c < 128
  · have d1 : (c : Int) < 128 := by omega
    have HE : Hid (strOfNums [(c : Int)] = str (enc c)) := by
      show _ = _
      rw [enc1 h1]
      exact str_nums [c] _ rfl
    go_enter Tryz.func141, Tryz.ntmps141
    go_wp2
    rw [conv1]
    go_wp2
    go_ret
    exact ⟨by rw [← HE.out]; rfl, (Below.refl _ _).alloc (Nat.le_refl _) _⟩
  have d1 : decide ((c : Int) < 128) = false := by simp; omega
  by_cases h2 : c < 2048
  · have d2 : (c : Int) < 2048 := by omega
    have HE : Hid (strOfNums [192 + (c : Int) / 64, 128 + (c : Int) % 64] = str (enc c)) := by
      show _ = _
      rw [enc2 (by omega) h2]
      exact str_nums [192 + c / 64, 128 + c % 64] _ (by simp)
    go_enter Tryz.func141, Tryz.ntmps141
    go_wp2
    rw [conv2]
    go_wp2
    go_ret
    exact ⟨by rw [← HE.out]; rfl, (Below.refl _ _).alloc (Nat.le_refl _) _⟩
  have d2 : decide ((c : Int) < 2048) = false := by simp; omega
  by_cases h3 : c < 65536
  · have d3 : (c : Int) < 65536 := by omega
    have HE : Hid (strOfNums [224 + (c : Int) / 4096, 128 + (c : Int) / 64 % 64, 128 + (c : Int) % 64] = str (enc c)) := by
      show _ = _
      rw [enc3 (by omega) h3 h]
      exact str_nums [224 + c / 4096, 128 + c / 64 % 64, 128 + c % 64] _ (by simp)
    go_enter Tryz.func141, Tryz.ntmps141
    go_wp2
    rw [conv3]
    go_wp2
    go_ret
    exact ⟨by rw [← HE.out]; rfl, (Below.refl _ _).alloc (Nat.le_refl _) _⟩
  · have d3 : decide ((c : Int) < 65536) = false := by simp; omega
    have HE : Hid (strOfNums [240 + (c : Int) / 262144, 128 + (c : Int) / 4096 % 64, 128 + (c : Int) / 64 % 64, 128 + (c : Int) % 64] = str (enc c)) := by
      show _ = _
      rw [enc4 (by omega) h]
      exact str_nums [240 + c / 262144, 128 + c / 4096 % 64, 128 + c / 64 % 64, 128 + c % 64] _ (by simp)
    go_enter Tryz.func141, Tryz.ntmps141
    go_wp2
    rw [conv4]
    go_wp2
    go_ret
    exact ⟨by rw [← HE.out]; rfl, (Below.refl _ _).alloc (Nat.le_refl _) _⟩

theorem str_append (a b : List UInt8) : str a ++ str b = str (a ++ b) := ba_eq (by rw [ba_append, str_data, str_data, str_data])
theorem room {A B : ByteArray} (h1 : A.size ≤ 4000000) (h2 : B.size ≤ 4) : ¬ 9223372036854775807 < A.size + B.size := by omega
theorem ints_row {w : World} {v : Value} {l : List Nat} (h : IsRow w 1 v l.length (icells l)) (i : Nat) (hi : i < l.length) :
    ∃ b off cap, v = .slice (some ⟨b, off, none⟩) l.length cap ∧ b < w.heap.size ∧ w.cell? ⟨b, off + i, none⟩ = some (.int .i64 ((l[i]'hi : Nat) : Int)) := by
  obtain ⟨b, off, cap', hv, hlt, _, _, hc⟩ := h.open (by omega)
  exact ⟨b, off, cap', hv, hlt, hc i _ (by simp [icells, hi])⟩

set_option maxRecDepth 100000 in
set_option maxHeartbeats 2000000 in
theorem refFold_any (s : ByteArray) (w : World) (hs : s.size ≤ 1000000) :
    Calls Tryz.prog 94 #[.string s] w fun e w' => e = .returned (.string (str (foldL s.data.toList))) ∧ Below w.heap.size w w' := by
  by_cases hv : Lib.validD s.data.toList = true
  · have HF : Hid (str (((rns s.data.toList).map smallN).flatMap enc) = str (foldL s.data.toList)) := by show _ = _; rw [foldL, if_pos hv]
    have HL : Hid ((rns s.data.toList).length ≤ 1000000) := by
      have h3 := rns_len_le s.data.toList.length s.data.toList
      have e : s.data.toList.length = s.size := Array.length_toList
      have : (rns s.data.toList).length ≤ s.data.toList.length := h3
      show _ ≤ _
      omega
    have HS : Hid (∀ c ∈ rns s.data.toList, scal c) := rns_scal _
    go_enter Tryz.func94, Tryz.ntmps94
    go_wp2_with fail
    refine (refValid_any s _ (by omega)).mono ?_
    rintro e w1 ⟨rfl, hb1⟩
    rw [hv]
    go_wp2_with fail
    refine (refRunes_any s _ hs hv).mono ?_
    rintro e w2 ⟨v2, rfl, hv2, hb2'⟩
    have hb2 := hb1.trans (hb2'.mono hb1.size)
    clear hb1 hb2'
    generalize rns s.data.toList = l at *
    have hll := HL.out
    obtain ⟨a2, cap2, rfl⟩ := hv2.form
    have hs2 := hb2.size
    go_wp2_with fail
    go_loopw [4, 5] (fun o i wr => ∃ k : Nat, k ≤ l.length ∧ i = .int .i64 k ∧ o = .string (str (((l.take k).map smallN).flatMap enc)) ∧ Below w2.heap.size w2 wr) (fun _ i _ => l.length - (RowKit.intOf i).toNat)
    case atStart => exact ⟨0, Nat.zero_le _, rfl, rfl, Below.refl _ _⟩
    case round =>
      obtain ⟨k, hk, rfl, rfl, hb⟩ := hrel
      have hbs := hb.size
      by_cases hlt : k < l.length
      · obtain ⟨b, off, cap, hvv, hbl, c0⟩ := ints_row (hv2.below hb) k hlt
        simp only [Value.slice.injEq] at hvv
        obtain ⟨rfl, _, rfl⟩ := hvv
        have hi : (k : Int) < l.length := by omega
        have hsc : Hid (scal l[k]) := HS.out _ (List.getElem_mem hlt)
        have hcm : l[k] ≤ 1114111 := by have := hsc.out; unfold scal at this; omega
        have HN : Hid (str (((l.take k).map smallN).flatMap enc) ++ str (enc (smallN l[k])) = str (((l.take (k + 1)).map smallN).flatMap enc)) := by
          show _ = _
          rw [str_append, List.take_succ_eq_append_getElem hlt, List.map_append, List.flatMap_append]
          simp only [List.map_cons, List.map_nil, List.flatMap_cons, List.flatMap_nil, List.append_nil]
        have hz1 : (str (((l.take k).map smallN).flatMap enc)).size ≤ 4000000 := by
          rw [str_size]
          have h1 := flat_len ((l.take k).map smallN)
          rw [List.length_map, List.length_take] at h1
          omega
        have hz2 : (str (enc (smallN l[k]))).size ≤ 4 := by rw [str_size]; exact enc_len4 _
        have hz3 := room hz1 hz2
        clear hz1 hz2
        generalize hA : str (((l.take k).map smallN).flatMap enc) = A at *
        clear hA
        go_wp2_with fail
        refine (refSmall_any _ _ (by omega) (by omega)).mono ?_
        rintro e w' ⟨rfl, rfl⟩
        rw [smallZ_nat]
        go_wp2_with fail
        refine (refBytes_any _ _ (smallN_scal hsc.out)).mono ?_
        rintro e w3 ⟨rfl, hb3'⟩
        have hb3 : Hid (Below w2.heap.size w2 w3) := hb.trans (hb3'.mono hb.size)
        clear hb hb3' c0
        go_wp2
        go_roundw
        case rel => exact ⟨k + 1, by omega, by go_num, by rw [HN.out], hb3.out⟩
        case measure => simp [RowKit.intOf]; omega
      · have hk' : k = l.length := by omega
        subst hk'
        have HN : Hid (str (((l.take l.length).map smallN).flatMap enc) = str (foldL s.data.toList)) := by show _ = _; rw [← HF.out, List.take_of_length_le (Nat.le_refl _)]
        rw [HN.out]
        go_wp2
        go_ret
        exact ⟨rfl, hb2.trans (hb.mono hs2)⟩
  · have hv' : Lib.validD s.data.toList = false := by simpa using hv
    have HF : Hid (s = str (foldL s.data.toList)) := by show _ = _; rw [foldL, if_neg hv, str_of]
    go_enter Tryz.func94, Tryz.ntmps94
    go_wp2_with fail
    refine (refValid_any s _ (by omega)).mono ?_
    rintro e w1 ⟨rfl, hb1⟩
    rw [hv']
    go_wp2
    go_ret
    exact ⟨by rw [← HF.out]; rfl, hb1⟩
end Go.Proofs.YtacpllmlpmllbaaGreatDoor
/- The reference's Split and part: walks. -/
namespace Go.Proofs.YtacpllmlpmllbaaGreatDoor
open Go.RowKit

/-- The slice v has as many elements as qs, each a slice of a row of qs. -/
def RowsOf (w : World) (v : Value) (qs : List (List Nat)) : Prop :=
  ∃ vs : List Value, IsRow w 1 v qs.length vs ∧ ∀ (i : Nat) (q : List Nat), qs[i]? = some q → ∃ u, vs[i]? = some u ∧ IsRow w 1 u q.length (icells q)
theorem RowsOf.below {w w' : World} {v : Value} {qs : List (List Nat)} (h : RowsOf w v qs) (hb : Below w.heap.size w w') : RowsOf w' v qs := by
  obtain ⟨vs, h1, h2⟩ := h
  refine ⟨vs, h1.below hb, fun i q hq => ?_⟩
  obtain ⟨u, hu, hr⟩ := h2 i q hq
  exact ⟨u, hu, hr.below hb⟩
/-- One of them. -/
theorem RowsOf.at {w : World} {v : Value} {qs : List (List Nat)} (h : RowsOf w v qs) (i : Nat) (hi : i < qs.length) :
    ∃ b off cap u, v = .slice (some ⟨b, off, none⟩) qs.length cap ∧ b < w.heap.size ∧ w.cell? ⟨b, off + i, none⟩ = some u ∧ IsRow w 1 u (qs[i]'hi).length (icells (qs[i]'hi)) := by
  obtain ⟨vs, h1, h2⟩ := h
  obtain ⟨b, off, cap, hv, hlt, _, _, hc⟩ := h1.open (by omega)
  obtain ⟨u, hu, hr⟩ := h2 i _ (List.getElem?_eq_getElem hi)
  exact ⟨b, off, cap, u, hv, hlt, hc i u hu, hr⟩
theorem RowsOf.form {w : World} {v : Value} {qs : List (List Nat)} (h : RowsOf w v qs) : ∃ a cap, v = .slice a qs.length cap := by
  obtain ⟨vs, h1, _⟩ := h
  exact h1.form

theorem owns_same {w w' : World} {base : Nat} {e : TypeId} {sz : Nat} {v : Value} {n : Nat} {xs : List Value} (h : w.ownsRow base e sz v n xs) (hk : ∀ g, v.ownBlock = some g → w'.heap[g]? = w.heap[g]?) : w'.ownsRow base e sz v n xs := by
  refine ⟨h.1, ?_⟩
  rcases h.2 with hn | ⟨g, cap, cur, rfl, hb, hgg, rest⟩
  · exact .inl hn
  · exact .inr ⟨g, cap, cur, rfl, hb, (hk g rfl).trans hgg, rest⟩
theorem owns_base {w : World} {base base' : Nat} {e : TypeId} {sz : Nat} {v : Value} {n : Nat} {xs : List Value} (h : w.ownsRow base e sz v n xs) (hb : base' ≤ base) : w.ownsRow base' e sz v n xs := by
  refine ⟨h.1, ?_⟩
  rcases h.2 with hn | ⟨g, cap, cur, rfl, hb1, rest⟩
  · exact .inl hn
  · exact .inr ⟨g, cap, cur, rfl, Nat.le_trans hb hb1, rest⟩
/-- Rows of other types lie in other blocks. -/
theorem owns_other {w : World} {base base' : Nat} {e e' : TypeId} {sz sz' : Nat} {v v' : Value} {n n' : Nat} {xs xs' : List Value} (h : w.ownsRow base e sz v n xs) (h' : w.ownsRow base' e' sz' v' n' xs') (hne : e ≠ e') (g : Nat) (hg : v.ownBlock = some g) : v'.ownBlock ≠ some g := by
  intro hg'
  rcases h.2 with ⟨rfl, _⟩ | ⟨g1, cap, cur, rfl, _, hgg, _⟩
  · simp [Value.ownBlock] at hg
  rcases h'.2 with ⟨rfl, _⟩ | ⟨g2, cap', cur', rfl, _, hgg', _⟩
  · simp [Value.ownBlock] at hg'
  simp [Value.ownBlock] at hg hg'
  subst hg
  subst hg'
  rw [hgg] at hgg'
  simp at hgg'
  exact hne hgg'.2

/-- Rows that are left as they are, in blocks below N. -/
def Froz (w : World) (base N : Nat) (qs : List (List Nat)) (vs : List Value) : Prop :=
  ∀ (i : Nat) (q : List Nat), qs[i]? = some q → ∃ u, vs[i]? = some u ∧ w.ownsRow base 3 1 u q.length (icells q) ∧ ∀ g, u.ownBlock = some g → g < N
theorem Froz.kept {w w' : World} {base N N' : Nat} {qs : List (List Nat)} {vs : List Value} (h : Froz w base N qs vs) (hN : N ≤ N') (hk : ∀ (u : Value) (n : Nat) (xs : List Value), w.ownsRow base 3 1 u n xs → ∀ g, u.ownBlock = some g → g < N → w'.heap[g]? = w.heap[g]?) : Froz w' base N' qs vs := by
  intro i q hq
  obtain ⟨u, hu, ho, hl⟩ := h i q hq
  exact ⟨u, hu, owns_same ho (fun g hg => hk u _ _ ho g hg (hl g hg)), fun g hg => Nat.lt_of_lt_of_le (hl g hg) hN⟩
theorem Froz.snoc {w : World} {base N : Nat} {qs : List (List Nat)} {vs : List Value} (h : Froz w base N qs vs) (hl : vs.length = qs.length) {q : List Nat} {u : Value} (ho : w.ownsRow base 3 1 u q.length (icells q)) (hg : ∀ g, u.ownBlock = some g → g < N) : Froz w base N (qs ++ [q]) (vs ++ [u]) := by
  intro i p hp
  by_cases hi : i < qs.length
  · rw [List.getElem?_append_left hi] at hp
    obtain ⟨u', hu', h2, h3⟩ := h i p hp
    exact ⟨u', by rw [List.getElem?_append_left (by omega)]; exact hu', h2, h3⟩
  · have hlt : i < (qs ++ [q]).length := (List.getElem?_eq_some_iff.1 hp).1
    rw [List.length_append, List.length_singleton] at hlt
    have : i = qs.length := by omega
    subst this
    rw [List.getElem?_append_right (Nat.le_refl _), Nat.sub_self] at hp
    simp at hp
    subst hp
    exact ⟨u, by rw [List.getElem?_append_right (by omega)]; simp [hl], ho, hg⟩
theorem Froz.rows {w : World} {base N : Nat} {qs : List (List Nat)} {vs : List Value} {v : Value} (h : Froz w base N qs vs) (ho : w.ownsRow base 124 1 v qs.length vs) : RowsOf w v qs :=
  ⟨vs, IsRow.own ho, fun i q hq => by
    obtain ⟨u, hu, h2, _⟩ := h i q hq
    exact ⟨u, hu, IsRow.own h2⟩⟩

theorem info_ints : (Tryz.prog.info? 124).map (fun i => (i.zero, i.size, i.bytes)) = some (some (.slice none 0 0), 1, 24) := by kernel_rfl
/-- What Split leaves. -/
def RwPost (qs : List (List Nat)) (w : World) (e : Ending) (w' : World) : Prop :=
  ∃ v, e = .returned v ∧ RowsOf w' v qs ∧ Below w.heap.size w w'
def SpRel (l : List Nat) (w : World) (o t i : Value) (wr : World) : Prop :=
  ∃ (k N : Nat) (qs : List (List Nat)) (acc : List Nat) (vs : List Value), k ≤ l.length ∧ i = .int .i64 k ∧ w.heap.size ≤ N ∧ N ≤ wr.heap.size ∧ wr.ownsRow w.heap.size 124 1 o qs.length vs ∧ wr.ownsRow N 3 1 t acc.length (icells acc) ∧ Froz wr w.heap.size N qs vs ∧ Below w.heap.size w wr ∧ qs ++ cutR (acc ++ l.drop k) = cutR l ∧ 46 ∉ acc ∧ qs.length ≤ k ∧ acc.length ≤ k
theorem cut_point {acc r : List Nat} (h : 46 ∉ acc) : cutR (acc ++ 46 :: r) = acc :: cutR r := by
  have e : cutR (46 :: r) = [] :: cutR r := by rw [cutR, if_pos rfl]
  have := cut_app acc (46 :: r) h [] (cutR r) e
  simpa using this
theorem cut_last {acc : List Nat} (h : 46 ∉ acc) : cutR acc = [acc] := by
  have := cut_app acc [] h [] [] rfl
  simpa using this
theorem drop_at {l : List Nat} {k : Nat} (h : k < l.length) : l.drop k = l[k] :: l.drop (k + 1) := List.drop_eq_getElem_cons h

set_option maxRecDepth 100000 in
set_option maxHeartbeats 2000000 in
theorem refSplit_any (v0 : Value) (l : List Nat) (w : World) (h0 : IsRow w 1 v0 l.length (icells l)) (hl : l.length ≤ 1000000) :
    Calls Tryz.prog 92 #[v0] w fun e w' => RwPost (cutR l) w e w' := by
  obtain ⟨i0, hi0, hz0, hz1, hz2⟩ := info_parts info_int
  obtain ⟨i1, hi1, hy0, hy1, hy2⟩ := info_parts info_ints
  obtain ⟨a0, cap0, rfl⟩ := h0.form
  go_enter Tryz.func92, Tryz.ntmps92
  go_wp2
  go_loopw [3, 4, 5] (fun o t i wr => SpRel l w o t i wr) (fun _ _ i _ => l.length - (RowKit.intOf i).toNat)
  case atStart => exact ⟨0, w.heap.size, [], [], [], Nat.zero_le _, rfl, Nat.le_refl _, Nat.le_refl _, World.ownsRow_nil _ _ _ _, World.ownsRow_nil _ _ _ _, (fun i q hq => by simp at hq), Below.refl _ _, rfl, by simp, Nat.le_refl _, Nat.le_refl _⟩
  case round =>
    obtain ⟨k, N, qs, acc, vs, hk, rfl, hN1, hN2, ho, ht, hf, hb, hck, hno, hql, hal⟩ := hrel
    have HK : Hid (qs ++ cutR (acc ++ l.drop k) = cutR l) := hck
    have HNO : Hid (46 ∉ acc) := hno
    have HF : Hid (Froz wr w.heap.size N qs vs) := hf
    clear hck hno hf
    have hvl : vs.length = qs.length := by have := ho.1; omega
    have hs := hb.size
    obtain ⟨a1, cap1, rfl⟩ := (IsRow.own ht).form
    by_cases hlt : k < l.length
    · obtain ⟨b, off, cap, hvv, hbl, c0⟩ := ints_row (h0.below hb) k hlt
      simp only [Value.slice.injEq] at hvv
      obtain ⟨rfl, -, rfl⟩ := hvv
      have hi : (k : Int) < l.length := by omega
      by_cases h46 : l[k] = 46
      · have h46' : ((l[k] : Int) == 46) = true := by rw [beq_iff_eq]; omega
        have HK2 : Hid ((qs ++ [acc]) ++ cutR ([] ++ l.drop (k + 1)) = cutR l) := by
          show _ = _
          rw [← HK.out, drop_at hlt, h46, cut_point HNO.out]
          simp
        clear HK
        go_wp2_with (at_builtin; refine wpl_apps _ rfl (.tmp 17) (.tmp 19) 142 124 rfl i1 _ 24 Tryz.underlying142 hi1 hy0 hy1 hy2 rfl _ _ _ _ rfl ho (.slice a1 acc.length cap1) _ rfl rfl rfl (by omega) (by unfold maxLen; omega) (by omega) ?_; intro v3 w3 hown3 hb3 hst3)
        have HR : Hid (SpRel l w v3 (.slice none 0 0) (.int .i64 ((k + 1 : Nat) : Int)) w3) := by
          have hs3 := hb3.size
          have hst4 : ∀ (u : Value) (n : Nat) (xs : List Value), wr.ownsRow w.heap.size 3 1 u n xs → ∀ g, u.ownBlock = some g → w3.heap[g]? = wr.heap[g]? := fun u n xs hu g hg => hst3 g (hu.lt g hg).2 (owns_other hu ho (by decide) g hg)
          have ht' := owns_base ht hN1
          refine ⟨k + 1, w3.heap.size, qs ++ [acc], [], vs ++ [.slice a1 acc.length cap1], hlt, rfl, Nat.le_trans hs hs3, Nat.le_refl _, ?_, World.ownsRow_nil _ _ _ _, ?_, hb.trans hb3, HK2.out, by simp, by rw [List.length_append, List.length_singleton]; omega, by simp⟩
          · rw [List.length_append]; exact hown3
          · refine Froz.snoc (HF.out.kept (Nat.le_trans hN2 hs3) (fun u n xs hu g hg _ => hst4 u n xs hu g hg)) hvl (owns_same ht' (hst4 _ _ _ ht')) (fun g hg => Nat.lt_of_lt_of_le (ht'.lt g hg).2 hs3)
        clear hst3 hown3 hb3 ho ht HF HK2
        go_wp2
        go_roundw
        case rel => simpa using HR.out
        case measure => simp [RowKit.intOf]; omega
      · have h46' : ((l[k] : Int) == 46) = false := by rw [beq_eq_false_iff_ne]; omega
        have HK2 : Hid (qs ++ cutR ((acc ++ [l[k]]) ++ l.drop (k + 1)) = cutR l) := by
          show _ = _
          rw [← HK.out, drop_at hlt]
          simp
        have HNO2 : Hid (46 ∉ acc ++ [l[k]]) := by
          show ¬ _
          intro m
          rcases List.mem_append.1 m with m | m
          · exact HNO.out m
          · simp at m; omega
        have HX : Hid (icells acc ++ [Value.int .i64 (l[k] : Nat)] = icells (acc ++ [l[k]])) := by show _ = _; simp [icells]
        clear HK
        go_wp2_with (at_builtin; refine wpl_apps _ rfl (.tmp 21) (.tmp 26) 124 3 rfl i0 _ 8 Tryz.underlying124 hi0 hz0 hz1 hz2 rfl _ _ _ _ rfl ht (.int .i64 (l[k] : Nat)) _ rfl rfl rfl (by omega) (by unfold maxLen; omega) (by omega) ?_; intro v3 w3 hown3 hb3 hst3)
        have HR : Hid (SpRel l w u3 v3 (.int .i64 ((k + 1 : Nat) : Int)) w3) := by
          have hs3 := hb3.size
          refine ⟨k + 1, N, qs, acc ++ [l[k]], vs, hlt, rfl, hN1, Nat.le_trans hN2 hs3, owns_same ho (fun g hg => hst3 g (ho.lt g hg).2 (owns_other ho ht (by decide) g hg)), ?_, HF.out.kept (Nat.le_refl _) (fun u n xs hu g hg hgN => hst3 g (Nat.lt_of_lt_of_le hgN hN2) (fun e => by have := (ht.lt g e).1; omega)), hb.trans (hb3.mono hN1), HK2.out, HNO2.out, by omega, by rw [List.length_append, List.length_singleton]; omega⟩
          rw [← HX.out, List.length_append]
          exact hown3
        clear hst3 hown3 hb3 ho ht HF HK2
        go_wp2
        go_roundw
        case rel => simpa using HR.out
        case measure => simp [RowKit.intOf]; omega
    · have hk' : k = l.length := by omega
      subst hk'
      have HK2 : Hid (qs ++ [acc] = cutR l) := by
        show _ = _
        rw [← HK.out, List.drop_of_length_le (Nat.le_refl _), List.append_nil, cut_last HNO.out]
      clear HK
      go_wp2_with (at_builtin; refine wpl_apps _ rfl (.tmp 28) (.tmp 30) 142 124 rfl i1 _ 24 Tryz.underlying142 hi1 hy0 hy1 hy2 rfl _ _ _ _ rfl ho (.slice a1 acc.length cap1) _ rfl rfl rfl (by omega) (by unfold maxLen; omega) (by omega) ?_; intro v3 w3 hown3 hb3 hst3)
      have HR : Hid (RowsOf w3 v3 (cutR l) ∧ Below w.heap.size w w3) := by
        have hs3 := hb3.size
        have hst4 : ∀ (u : Value) (n : Nat) (xs : List Value), wr.ownsRow w.heap.size 3 1 u n xs → ∀ g, u.ownBlock = some g → w3.heap[g]? = wr.heap[g]? := fun u n xs hu g hg => hst3 g (hu.lt g hg).2 (owns_other hu ho (by decide) g hg)
        have ht' := owns_base ht hN1
        refine ⟨?_, hb.trans hb3⟩
        rw [← HK2.out]
        refine Froz.rows (Froz.snoc (HF.out.kept (Nat.le_trans hN2 hs3) (fun u n xs hu g hg _ => hst4 u n xs hu g hg)) hvl (owns_same ht' (hst4 _ _ _ ht')) (fun g hg => Nat.lt_of_lt_of_le (ht'.lt g hg).2 hs3)) ?_
        rw [List.length_append]
        exact hown3
      clear hst3 hown3 hb3 ho ht HF HK2
      go_wp2
      go_ret
      exact ⟨_, rfl, HR.out.1, HR.out.2⟩

theorem pos_not (n : Nat) : decide (0 < n) = !(n == 0) := by cases n <;> simp
set_option maxRecDepth 100000 in
set_option maxHeartbeats 2000000 in
theorem refPart_any (v : Value) (q : List Nat) (w : World) (h : IsRow w 1 v q.length (icells q)) (hl : q.length ≤ 1000000) :
    Calls Tryz.prog 93 #[v] w fun e w' => e = .returned (.bool (okp true q)) ∧ w' = w := by
  obtain ⟨O, HO⟩ : ∃ O, Hid (okp true q = O) := ⟨_, rfl⟩
  rw [HO.out]
  obtain ⟨a0, cap0, rfl⟩ := h.form
  go_enter Tryz.func93, Tryz.ntmps93
  go_wp2
  go_loopw [3] (fun i wr => ∃ k : Nat, k ≤ q.length ∧ i = .int .i64 k ∧ Hid (okp (k == 0) (q.drop k) = O) ∧ wr = w) (fun i _ => q.length - (RowKit.intOf i).toNat)
  case atStart => exact ⟨0, Nat.zero_le _, rfl, HO, rfl⟩
  case round =>
    obtain ⟨k, hk, rfl, hck, rfl⟩ := hrel
    by_cases hlt : k < q.length
    · obtain ⟨b, off, cap, hvv, hbl, c0⟩ := ints_row h k hlt
      simp only [Value.slice.injEq] at hvv
      obtain ⟨rfl, -, rfl⟩ := hvv
      have hi : (k : Int) < q.length := by omega
      have HK : Hid (okp (k == 0) (q[k] :: q.drop (k + 1)) = O) := by show _ = _; rw [← drop_at hlt]; exact hck.out
      have hk1 : ((k + 1 : Nat) == 0) = false := by simp
      clear hck HO
      generalize q[k] = c at *
      have hlz := letterZ_nat c
      by_cases hb : beginsN c = true
      · have HR : Hid (okp (k + 1 == 0) (q.drop (k + 1)) = O) := by
          show _ = _
          rw [← HK.out, okp, if_pos hb, hk1]
        clear HK
        by_cases hL : letterN c = true
        · rw [hL] at hlz
          clear hb hL
          go_wp2_with (go_at_call 140; refine (refLetter_any _ _).mono ?_; rintro e w' ⟨rfl, rfl⟩; rw [hlz])
          go_roundw
          case rel => exact ⟨k + 1, hlt, by go_num, HR, by trivial⟩
          case measure => simp [RowKit.intOf]; omega
        · have hL' : letterN c = false := by simpa using hL
          rw [hL'] at hlz
          have h95 : c = 95 := by simpa [beginsN, hL'] using hb
          have h95' : ((c : Int) != 95) = false := by rw [bne_eq_false_iff_eq]; omega
          clear hb hL h95
          go_wp2_with (go_at_call 140; refine (refLetter_any _ _).mono ?_; rintro e w' ⟨rfl, rfl⟩; rw [hlz])
          go_roundw
          case rel => exact ⟨k + 1, hlt, by go_num, HR, by trivial⟩
          case measure => simp [RowKit.intOf]; omega
      · have hb' : beginsN c = false := by simpa using hb
        have hL' : letterN c = false := by
          cases e : letterN c
          · rfl
          · exact absurd (by simp [beginsN, e]) hb
        rw [hL'] at hlz
        have h95 : c ≠ 95 := fun e => hb (by simp [beginsN, e])
        have h95' : ((c : Int) != 95) = true := by rw [bne_iff_ne]; omega
        by_cases hk0 : k = 0
        · have hk0' : ((k : Int) == 0) = true := by rw [beq_iff_eq]; omega
          have HR : Hid (false = O) := by show _ = _; rw [← HK.out, okp, if_neg hb, hk0]; simp
          clear HK hb h95 hk0
          go_wp2_with (go_at_call 140; refine (refLetter_any _ _).mono ?_; rintro e w' ⟨rfl, rfl⟩; rw [hlz])
          go_ret
          exact ⟨by rw [← HR.out]; rfl, rfl⟩
        · have hk0' : ((k : Int) == 0) = false := by rw [beq_eq_false_iff_ne]; omega
          have hk0n : (k == 0) = false := by rw [beq_eq_false_iff_ne]; exact hk0
          by_cases hg : c ≠ 45 ∧ ¬ (48 ≤ c ∧ c ≤ 57)
          · have HR : Hid (false = O) := by show _ = _; rw [← HK.out, okp, if_neg hb, hk0n, if_pos hg]; simp
            have h45 : ((c : Int) != 45) = true := by rw [bne_iff_ne]; omega
            by_cases h48 : c < 48
            · have h48' : decide ((c : Int) < 48) = true := by simp; omega
              clear HK hb h95 hg
              go_wp2_with (go_at_call 140; refine (refLetter_any _ _).mono ?_; rintro e w' ⟨rfl, rfl⟩; rw [hlz])
              go_ret
              exact ⟨by rw [← HR.out]; rfl, rfl⟩
            · have h48' : decide ((c : Int) < 48) = false := by simp; omega
              have h57' : decide ((57 : Int) < c) = true := by simp; omega
              clear HK hb h95 hg
              go_wp2_with (go_at_call 140; refine (refLetter_any _ _).mono ?_; rintro e w' ⟨rfl, rfl⟩; rw [hlz])
              go_ret
              exact ⟨by rw [← HR.out]; rfl, rfl⟩
          · have HR : Hid (okp (k + 1 == 0) (q.drop (k + 1)) = O) := by
              show _ = _
              rw [← HK.out, okp, if_neg hb, hk0n, if_neg hg, hk1]
              simp
            by_cases h45 : c = 45
            · have h45' : ((c : Int) != 45) = false := by rw [bne_eq_false_iff_eq]; omega
              clear HK hb h95 hg h45
              go_wp2_with (go_at_call 140; refine (refLetter_any _ _).mono ?_; rintro e w' ⟨rfl, rfl⟩; rw [hlz])
              go_roundw
              case rel => exact ⟨k + 1, hlt, by go_num, HR, by trivial⟩
              case measure => simp [RowKit.intOf]; omega
            · have h45' : ((c : Int) != 45) = true := by rw [bne_iff_ne]; omega
              have h48' : decide ((c : Int) < 48) = false := by simp; omega
              have h57' : decide ((57 : Int) < c) = false := by simp; omega
              clear HK hb h95 hg
              go_wp2_with (go_at_call 140; refine (refLetter_any _ _).mono ?_; rintro e w' ⟨rfl, rfl⟩; rw [hlz])
              go_roundw
              case rel => exact ⟨k + 1, hlt, by go_num, HR, by trivial⟩
              case measure => simp [RowKit.intOf]; omega
    · have hk' : k = q.length := by omega
      subst hk'
      have HR : Hid (decide (0 < q.length) = O) := by
        show _ = _
        rw [← hck.out, List.drop_of_length_le (Nat.le_refl _), okp]
        exact pos_not q.length
      go_wp2
      go_ret
      exact ⟨by rw [← HR.out]; rfl, rfl⟩
end Go.Proofs.YtacpllmlpmllbaaGreatDoor
