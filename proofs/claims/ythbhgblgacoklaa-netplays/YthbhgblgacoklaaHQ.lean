/- Packets and hops that came in. -/
import Derived.Test.YthbhgblgacoklaaHP
import Derived.Test.YthbhgblgacoklaaChecked
import Derived.ProofKit
import Derived.OpenShut
import Derived.ShutString
import Derived.ChangeOld
import Derived.Below
import Derived.Stop.Joined
import Derived.Deep.Slices
import Derived.Deep.Strs
import Derived.SizedLaws
import Derived.Lib.SmallJoins
namespace Go.Proofs.Ythbhgblgacoklaa
open Go.ChangeShapes Go.WideShapes Go.ChangeAt Go.WideMaps Go.WideElems Go.RowKit Go.Deep Go.Lib

theorem own : ownKnob Try.prog.godebug = none := by kernel_rfl
theorem laidOut : laidOutB Try.prog = true := by kernel_rfl
theorem list7 {α : Type} {l : List α} (h : l.length = 7) : ∃ c0 c1 c2 c3 c4 c5 c6, l = [c0, c1, c2, c3, c4, c5, c6] := by
  match l, h with
  | [c0, c1, c2, c3, c4, c5, c6], _ => exact ⟨c0, c1, c2, c3, c4, c5, c6, rfl⟩
theorem cellsP : Try.prog.cellsOf 31 = 7 := by kernel_rfl
theorem cellsH : Try.prog.cellsOf 33 = 2 := by kernel_rfl
theorem cellsI : Try.prog.cellsOf 3 = 1 := by kernel_rfl
theorem cellsS : Try.prog.cellsOf 9 = 1 := by kernel_rfl
/-- A packet's cells, read. -/
theorem open_pkc {H : Type} {enc : TypeId × Value → H} {W : World} {b0 : Nat} {sp : Nat → Bool} {held : Bool} {fuel : Nat} {cs : List Value} {x : DataW H × List MemPlace} (h : DataW.trod enc Try.prog W b0 sp held fuel 31 cs = some x) :
    ∃ p : Pk, cs = enP p ∧ p.x.size ≤ maxLen := by
  obtain ⟨xs, n, _, rfl, hl, hlen, hf⟩ := DataW.trod_struct Try.underlying31 h
  rw [cellsP] at hl
  obtain ⟨c0, c1, c2, c3, c4, c5, c6, rfl⟩ := list7 hl
  obtain ⟨y0, y1, y2, y3, y4, y5, y6, rfl⟩ := list7 (l := xs) hlen
  have i0 := hf 0 _ rfl
  have i1 := hf 1 _ rfl
  have i2 := hf 2 _ rfl
  have i3 := hf 3 _ rfl
  have i4 := hf 4 _ rfl
  have i5 := hf 5 _ rfl
  have i6 := hf 6 _ rfl
  simp [cellsI, cellsS] at i0 i1 i2 i3 i4 i5 i6
  obtain ⟨n0, e0, -, -⟩ := DataW.trod_int Try.underlying3 i0
  obtain ⟨n1, e1, -, -⟩ := DataW.trod_int Try.underlying3 i1
  obtain ⟨n2, e2, -, -⟩ := DataW.trod_int Try.underlying3 i2
  obtain ⟨n3, e3, -, -⟩ := DataW.trod_int Try.underlying3 i3
  obtain ⟨n4, e4, -, -⟩ := DataW.trod_int Try.underlying3 i4
  obtain ⟨n5, e5, -, -⟩ := DataW.trod_int Try.underlying3 i5
  obtain ⟨s6, e6, -, w6⟩ := DataW.trod_string Try.underlying9 i6
  simp at e0 e1 e2 e3 e4 e5 e6
  subst e0 e1 e2 e3 e4 e5 e6
  exact ⟨⟨n0, n1, n2, n3, n4, n5, s6⟩, rfl, w6⟩
theorem list2 {α : Type} {l : List α} (h : l.length = 2) : ∃ c0 c1, l = [c0, c1] := by
  match l, h with
  | [c0, c1], _ => exact ⟨c0, c1, rfl⟩
theorem open_hopc {H : Type} {enc : TypeId × Value → H} {W : World} {b0 : Nat} {sp : Nat → Bool} {held : Bool} {fuel : Nat} {cs : List Value} {x : DataW H × List MemPlace} (h : DataW.trod enc Try.prog W b0 sp held fuel 33 cs = some x) :
    ∃ f t : Int, cs = [.int .i64 f, .int .i64 t] := by
  obtain ⟨xs, n, _, rfl, hl, hlen, hf⟩ := DataW.trod_struct Try.underlying33 h
  rw [cellsH] at hl
  obtain ⟨c0, c1, rfl⟩ := list2 hl
  obtain ⟨y0, y1, rfl⟩ := list2 (l := xs) hlen
  have i0 := hf 0 _ rfl
  have i1 := hf 1 _ rfl
  simp [cellsI] at i0 i1
  obtain ⟨n0, e0, -, -⟩ := DataW.trod_int Try.underlying3 i0
  obtain ⟨n1, e1, -, -⟩ := DataW.trod_int Try.underlying3 i1
  simp at e0 e1
  subst e0 e1
  exact ⟨n0, n1, rfl⟩
theorem open_pk {H : Type} {enc : TypeId × Value → H} {W : World} {b0 b1 : Nat} {sp : Nat → Bool} {held : Bool} {v : Value} {d : DataW H} {p : List MemPlace} (hv : Value.okWide Try.prog W .any b1 31 v) (h : DataW.Trod enc Try.prog W b0 sp held 31 v d p) : ∃ q : Pk, v = pV q ∧ q.x.size ≤ maxLen := by
  obtain ⟨cs, rfl, hsz⟩ := okWide_struct Try.underlying31 hv
  obtain ⟨fuel, hf⟩ := h
  obtain ⟨q, hq, hs⟩ := open_pkc hf
  refine ⟨q, ?_, hs⟩
  have : cs = (enP q).toArray := by
    have e : (Value.agg cs).cells.toList = cs.toList := rfl
    rw [e] at hq
    rw [← hq]
  rw [this]; rfl
theorem open_hop {H : Type} {enc : TypeId × Value → H} {W : World} {b0 b1 : Nat} {sp : Nat → Bool} {held : Bool} {v : Value} {d : DataW H} {p : List MemPlace} (hv : Value.okWide Try.prog W .any b1 33 v) (h : DataW.Trod enc Try.prog W b0 sp held 33 v d p) : ∃ f t : Int, v = hV f t := by
  obtain ⟨cs, rfl, hsz⟩ := okWide_struct Try.underlying33 hv
  obtain ⟨fuel, hf⟩ := h
  obtain ⟨f, t, hq⟩ := open_hopc hf
  refine ⟨f, t, ?_⟩
  have : cs = #[.int .i64 f, .int .i64 t] := by
    have e : (Value.agg cs).cells.toList = cs.toList := rfl
    rw [e] at hq
    exact Array.toList_inj.1 (by rw [hq])
  rw [this]
end Go.Proofs.Ythbhgblgacoklaa
