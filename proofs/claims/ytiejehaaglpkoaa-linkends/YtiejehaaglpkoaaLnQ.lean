/- Packets, hops and ends that came in. -/
import Derived.Test.YtiejehaaglpkoaaLnM
import Derived.Test.YtiejehaaglpkoaaChecked
import Derived.ProofKit
import Derived.OpenShut
import Derived.ShutString
import Derived.ChangeOld
import Derived.Below
import Derived.Stop.Joined
import Derived.Deep.Slices
import Derived.Deep.Strs
import Derived.SizedLaws
import Derived.Lib.SmallJoins
namespace Go.Proofs.Ytiejehaaglpkoaa
open Go.ChangeShapes Go.WideShapes Go.ChangeAt Go.WideMaps Go.WideElems Go.RowKit Go.Deep Go.Lib

theorem own : ownKnob Try.prog.godebug = none := by kernel_rfl
theorem laidOut : laidOutB Try.prog = true := by kernel_rfl
theorem list7 {α : Type} {l : List α} (h : l.length = 7) : ∃ c0 c1 c2 c3 c4 c5 c6, l = [c0, c1, c2, c3, c4, c5, c6] := by
  match l, h with
  | [c0, c1, c2, c3, c4, c5, c6], _ => exact ⟨c0, c1, c2, c3, c4, c5, c6, rfl⟩
theorem cellsP : Try.prog.cellsOf 37 = 7 := by kernel_rfl
theorem cellsH : Try.prog.cellsOf 97 = 2 := by kernel_rfl
theorem cellsI : Try.prog.cellsOf 3 = 1 := by kernel_rfl
theorem cellsS : Try.prog.cellsOf 9 = 1 := by kernel_rfl
set_option maxRecDepth 100000 in
/-- A packet's cells, read. -/
theorem open_pkc {H : Type} {enc : TypeId × Value → H} {W : World} {b0 : Nat} {sp : Nat → Bool} {held : Bool} {fuel : Nat} {cs : List Value} {x : DataW H × List MemPlace} (h : DataW.trod enc Try.prog W b0 sp held fuel 37 cs = some x) :
    ∃ p : Pk, cs = enP p ∧ p.x.size ≤ maxLen := by
  obtain ⟨xs, n, _, rfl, hl, hlen, hf⟩ := DataW.trod_struct Try.underlying37 h
  rw [cellsP] at hl
  obtain ⟨c0, c1, c2, c3, c4, c5, c6, rfl⟩ := list7 hl
  obtain ⟨y0, y1, y2, y3, y4, y5, y6, rfl⟩ := list7 (l := xs) hlen
  have i0 := hf 0 _ rfl
  have i1 := hf 1 _ rfl
  have i2 := hf 2 _ rfl
  have i3 := hf 3 _ rfl
  have i4 := hf 4 _ rfl
  have i5 := hf 5 _ rfl
  have i6 := hf 6 _ rfl
  simp [cellsI, cellsS] at i0 i1 i2 i3 i4 i5 i6
  obtain ⟨n0, e0, -, -⟩ := DataW.trod_int Try.underlying3 i0
  obtain ⟨n1, e1, -, -⟩ := DataW.trod_int Try.underlying3 i1
  obtain ⟨n2, e2, -, -⟩ := DataW.trod_int Try.underlying3 i2
  obtain ⟨n3, e3, -, -⟩ := DataW.trod_int Try.underlying3 i3
  obtain ⟨n4, e4, -, -⟩ := DataW.trod_int Try.underlying3 i4
  obtain ⟨n5, e5, -, -⟩ := DataW.trod_int Try.underlying3 i5
  obtain ⟨s6, e6, -, w6⟩ := DataW.trod_string Try.underlying9 i6
  simp at e0 e1 e2 e3 e4 e5 e6
  subst e0 e1 e2 e3 e4 e5 e6
  exact ⟨⟨n0, n1, n2, n3, n4, n5, s6⟩, rfl, w6⟩
theorem list2 {α : Type} {l : List α} (h : l.length = 2) : ∃ c0 c1, l = [c0, c1] := by
  match l, h with
  | [c0, c1], _ => exact ⟨c0, c1, rfl⟩
set_option maxRecDepth 100000 in
theorem open_hopc {H : Type} {enc : TypeId × Value → H} {W : World} {b0 : Nat} {sp : Nat → Bool} {held : Bool} {fuel : Nat} {cs : List Value} {x : DataW H × List MemPlace} (h : DataW.trod enc Try.prog W b0 sp held fuel 97 cs = some x) :
    ∃ f t : Int, cs = [.int .i64 f, .int .i64 t] := by
  obtain ⟨xs, n, _, rfl, hl, hlen, hf⟩ := DataW.trod_struct Try.underlying97 h
  rw [cellsH] at hl
  obtain ⟨c0, c1, rfl⟩ := list2 hl
  obtain ⟨y0, y1, rfl⟩ := list2 (l := xs) hlen
  have i0 := hf 0 _ rfl
  have i1 := hf 1 _ rfl
  simp [cellsI] at i0 i1
  obtain ⟨n0, e0, -, -⟩ := DataW.trod_int Try.underlying3 i0
  obtain ⟨n1, e1, -, -⟩ := DataW.trod_int Try.underlying3 i1
  simp at e0 e1
  subst e0 e1
  exact ⟨n0, n1, rfl⟩
set_option maxRecDepth 100000 in
theorem open_pk {H : Type} {enc : TypeId × Value → H} {W : World} {b0 b1 : Nat} {sp : Nat → Bool} {held : Bool} {v : Value} {d : DataW H} {p : List MemPlace} (hv : Value.okWide Try.prog W .any b1 37 v) (h : DataW.Trod enc Try.prog W b0 sp held 37 v d p) : ∃ q : Pk, v = pV q ∧ q.x.size ≤ maxLen := by
  obtain ⟨cs, rfl, hsz⟩ := okWide_struct Try.underlying37 hv
  obtain ⟨fuel, hf⟩ := h
  obtain ⟨q, hq, hs⟩ := open_pkc hf
  refine ⟨q, ?_, hs⟩
  have : cs = (enP q).toArray := by
    have e : (Value.agg cs).cells.toList = cs.toList := rfl
    rw [e] at hq
    rw [← hq]
  rw [this]; rfl
set_option maxRecDepth 100000 in
theorem open_hop {H : Type} {enc : TypeId × Value → H} {W : World} {b0 b1 : Nat} {sp : Nat → Bool} {held : Bool} {v : Value} {d : DataW H} {p : List MemPlace} (hv : Value.okWide Try.prog W .any b1 97 v) (h : DataW.Trod enc Try.prog W b0 sp held 97 v d p) : ∃ f t : Int, v = hV f t := by
  obtain ⟨cs, rfl, hsz⟩ := okWide_struct Try.underlying97 hv
  obtain ⟨fuel, hf⟩ := h
  obtain ⟨f, t, hq⟩ := open_hopc hf
  refine ⟨f, t, ?_⟩
  have : cs = #[.int .i64 f, .int .i64 t] := by
    have e : (Value.agg cs).cells.toList = cs.toList := rfl
    rw [e] at hq
    exact Array.toList_inj.1 (by rw [hq])
  rw [this]
theorem list5 {α : Type} {l : List α} (h : l.length = 5) : ∃ c0 c1 c2 c3 c4, l = [c0, c1, c2, c3, c4] := by
  match l, h with
  | [c0, c1, c2, c3, c4], _ => exact ⟨c0, c1, c2, c3, c4, rfl⟩
theorem cellsE : Try.prog.cellsOf 23 = 5 := by kernel_rfl
set_option maxRecDepth 100000 in
theorem open_edc {H : Type} {enc : TypeId × Value → H} {W : World} {b0 : Nat} {sp : Nat → Bool} {held : Bool} {fuel : Nat} {cs : List Value} {x : DataW H × List MemPlace} (h : DataW.trod enc Try.prog W b0 sp held fuel 23 cs = some x) :
    ∃ p : Ed, cs = [.int .i64 p.me, .int .i64 p.lf, .int .i64 p.pe, .int .i64 p.pl, .int .i64 p.fi] := by
  obtain ⟨xs, n, _, rfl, hl, hlen, hf⟩ := DataW.trod_struct Try.underlying23 h
  rw [cellsE] at hl
  obtain ⟨c0, c1, c2, c3, c4, rfl⟩ := list5 hl
  obtain ⟨y0, y1, y2, y3, y4, rfl⟩ := list5 (l := xs) hlen
  have i0 := hf 0 _ rfl
  have i1 := hf 1 _ rfl
  have i2 := hf 2 _ rfl
  have i3 := hf 3 _ rfl
  have i4 := hf 4 _ rfl
  simp [cellsI] at i0 i1 i2 i3 i4
  obtain ⟨n0, e0, -, -⟩ := DataW.trod_int Try.underlying3 i0
  obtain ⟨n1, e1, -, -⟩ := DataW.trod_int Try.underlying3 i1
  obtain ⟨n2, e2, -, -⟩ := DataW.trod_int Try.underlying3 i2
  obtain ⟨n3, e3, -, -⟩ := DataW.trod_int Try.underlying3 i3
  obtain ⟨n4, e4, -, -⟩ := DataW.trod_int Try.underlying3 i4
  simp at e0 e1 e2 e3 e4
  subst e0 e1 e2 e3 e4
  exact ⟨⟨n0, n1, n2, n3, n4⟩, rfl⟩
set_option maxRecDepth 100000 in
theorem open_ed {H : Type} {enc : TypeId × Value → H} {W : World} {b0 b1 : Nat} {sp : Nat → Bool} {held : Bool} {v : Value} {d : DataW H} {p : List MemPlace} (hv : Value.okWide Try.prog W .any b1 23 v) (h : DataW.Trod enc Try.prog W b0 sp held 23 v d p) : ∃ q : Ed, v = eV q := by
  obtain ⟨cs, rfl, hsz⟩ := okWide_struct Try.underlying23 hv
  obtain ⟨fuel, hf⟩ := h
  obtain ⟨q, hq⟩ := open_edc hf
  refine ⟨q, ?_⟩
  have : cs = eA q := by
    have e : (Value.agg cs).cells.toList = cs.toList := rfl
    rw [e] at hq
    exact Array.toList_inj.1 (by rw [hq])
  rw [this]
end Go.Proofs.Ytiejehaaglpkoaa
