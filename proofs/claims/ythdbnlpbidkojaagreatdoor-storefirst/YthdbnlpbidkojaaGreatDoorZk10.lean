/- forest.Is: its walk. -/
import Derived.Test.YthdbnlpbidkojaaGreatDoorZk9
import Derived.Test.YthdbnlpbidkojaaGreatDoorZk8
import Derived.Laws.MakeOwn
import Derived.Laws.CopyOwn
import Derived.Laws.CopyRow
import Derived.Lib.AppendZeros
import Derived.Deep.WholeRow
import Derived.Test.YthdbnlpbidkojaaGreatDoorZk6
namespace Go.Proofs.YthdbnlpbidkojaaGreatDoor
open Go.RowKit Go.ChangeMaps

theorem str0 (s : ByteArray) : (s.toList == ([] : List UInt8)) = decide (s.size = 0) := by
  rw [Bool.eq_iff_iff, beq_iff_eq, decide_eq_true_eq, ByteArray.toList_eq]
  constructor
  · intro h
    have e : s.data.toList.length = s.size := by simp
    rw [h] at e
    exact e.symm
  · intro h
    apply List.eq_nil_of_length_eq_zero
    have e : s.data.toList.length = s.size := by simp
    omega
theorem str0' (s : ByteArray) : (s.toList == (⟨#[]⟩ : ByteArray).toList) = decide (s.size = 0) := by rw [← str0, ByteArray.toList_eq ⟨#[]⟩]
theorem chk_ch {t : Ty} (h : chkT t = true) : 1 ≤ t.ch.length := by
  unfold chkT at h
  simp only [Bool.and_eq_true, decide_eq_true_eq] at h
  exact h.1
theorem parB_0 {l : List Ty} {t : Ty} (h : t.p.size = 0) : parB l t = true := by unfold parB; rw [decide_eq_true h, Bool.true_or]
theorem parB_1 {l : List Ty} {t : Ty} (h : ¬ t.p.size = 0) (hp : parN l t.p = none) : parB l t = false := by unfold parB; rw [decide_eq_false h, Bool.false_or, hp]
theorem parB_2 {l : List Ty} {t o : Ty} (h : ¬ t.p.size = 0) (hp : parN l t.p = some o) : parB l t = belB t o := by unfold parB; rw [decide_eq_false h, Bool.false_or, hp]
theorem nmN {L : List LT} (h : NmL L) : ∀ x ∈ L, x.t.n.size ≤ 1000000 := fun x hx => (h x hx).n
/-- The first so many types may be, and rise. -/
def OkK (L : List LT) (k : Nat) : Prop := ∀ (j : Nat) (h : j < L.length), j < k → chkT L[j].t = true ∧ ∀ (i : Nat) (e : i + 1 = j), nmC (L[i]'(by omega)).t L[j].t.n < 0
theorem okK_all {L : List LT} (h : OkK L L.length) : (tys L).all chkT = true ∧ Rise (tys L) := by
  constructor
  · rw [List.all_eq_true]
    intro t ht
    obtain ⟨k, hk, rfl⟩ := List.mem_iff_getElem.1 ht
    rw [tys_len] at hk
    rw [tys_at L k hk]
    exact (h k hk hk).1
  · rw [← riseB_iff]
    unfold riseB
    rw [decide_eq_true_eq]
    intro k hk
    rw [tys_len] at hk
    rw [tys_at L k (by omega), tys_at L (k + 1) (by omega)]
    exact (h (k + 1) (by omega) (by omega)).2 k rfl
theorem is_no1 {L : List LT} {k : Nat} (hk : k < L.length) (h : chkT L[k].t = false) : isB (tys L) = false := by
  cases e : isB (tys L)
  · rfl
  · unfold isB at e
    simp only [Bool.and_eq_true, List.all_eq_true] at e
    have := e.2.1 L[k].t (by rw [← tys_at L k hk]; exact List.getElem_mem _)
    rw [h] at this
    cases this
theorem is_no2 {L : List LT} {k : Nat} (hk : k + 1 < L.length) (h : ¬ nmC (L[k]'(by omega)).t L[k + 1].t.n < 0) : isB (tys L) = false := by
  cases e : isB (tys L)
  · rfl
  · unfold isB at e
    simp only [Bool.and_eq_true, riseB_iff] at e
    have := (List.pairwise_iff_getElem.1 e.2.2.1) k (k + 1) (by rw [tys_len]; omega) (by rw [tys_len]; omega) (by omega)
    rw [tys_at L k (by omega), tys_at L (k + 1) hk] at this
    exact absurd this h
theorem is_no3 {L : List LT} {k : Nat} (hk : k < L.length) (h : parB (tys L) L[k].t = false) : isB (tys L) = false := by
  cases e : isB (tys L)
  · rfl
  · unfold isB at e
    simp only [Bool.and_eq_true, List.all_eq_true] at e
    have := e.2.2.2 L[k].t (by rw [← tys_at L k hk]; exact List.getElem_mem _)
    rw [h] at this
    cases this
theorem is_yes {L : List LT} (h0 : L.length ≤ 200) (h1 : OkK L L.length) (h2 : ∀ (k : Nat) (h : k < L.length), parB (tys L) L[k].t = true) : isB (tys L) = true := by
  obtain ⟨a, b⟩ := okK_all h1
  unfold isB
  rw [a, (riseB_iff _).2 b, tys_len, decide_eq_true h0, Bool.true_and, Bool.true_and, Bool.true_and, List.all_eq_true]
  intro t ht
  obtain ⟨k, hk, rfl⟩ := List.mem_iff_getElem.1 ht
  rw [tys_len] at hk
  rw [tys_at L k hk]
  exact h2 k hk
end Go.Proofs.YthdbnlpbidkojaaGreatDoor
/- forest.Make: its walk. -/
namespace Go.Proofs.YthdbnlpbidkojaaGreatDoor
open Go.RowKit Go.ChangeMaps

theorem MkP.up {r : Ty × Int} {w w5 w6 : World} {e : Ending} (h : MkP r w5 e w6) (hb : Below w.heap.size w w5) : MkP r w e w6 := by
  obtain ⟨y, h1, h2, h3, h4, h5⟩ := h
  exact ⟨y, h1, h2, h3, h4.le hb.size, hb.trans (h5.mono hb.size)⟩
/-- Behind the store of a type that is made. -/
def CtM (w : World) (t : Ty) (wx : World) : Prop := ∃ y : LT, y.t = t ∧ Hid (IsTy wx y.t y.vo y.va y.vc) ∧ Hid (NewT (w.heap.size + 2) y) ∧ Hid (Below w.heap.size w wx) ∧ Hid (BxT (w.heap.size + 1) y.t y.vo y.va y.vc wx)
end Go.Proofs.YthdbnlpbidkojaaGreatDoor
/- forest.copied: a walk. -/
namespace Go.Proofs.YthdbnlpbidkojaaGreatDoor
open Go.RowKit Go.ChangeMaps

theorem results_c1 {fn : Func} {p : Tmp} {ty : TypeId} (h : fn.results = #[.cell p ty]) (tmps : Array Value) (P : Program) (w : World) :
    (results fn tmps).run P w = ((asAddr (tmps.getD p undef)).run P w).andThen fun a w₁ => (loadVar ty a).run P w₁ := by
  simp only [results, h]
  simp [Sem.run_bind, Result.andThen]
/-- Behind the three stores. -/
def CtT (w : World) (t : Ty) (wx : World) : Prop := ∃ x1 y1 x2 y2 x3 y3, Hid (OwnTy (w.heap.size + 2) wx t (.slice x1 t.own.length y1) (.slice x2 t.all.length y2) (.slice x3 t.ch.length y3)) ∧ Hid (Below w.heap.size w wx) ∧ Hid (BxT w.heap.size t (.slice x1 t.own.length y1) (.slice x2 t.all.length y2) (.slice x3 t.ch.length y3) wx) ∧ Hid (∀ j, wx.frozen? ⟨w.heap.size + 1, j, none⟩ = false) ∧ Hid (BxT (w.heap.size + 1) ⟨⟨#[]⟩, ⟨#[]⟩, [], [], [], 0, 0, 0⟩ (.slice none 0 0) (.slice none 0 0) (.slice none 0 0) wx)
end Go.Proofs.YthdbnlpbidkojaaGreatDoor
/- forest.Find: its walk. -/
namespace Go.Proofs.YthdbnlpbidkojaaGreatDoor
open Go.RowKit Go.ChangeMaps

/-- Rows of types are not too long to be copied. -/
def SmT (t : Ty) : Prop := t.own.length ≤ 1000 ∧ t.all.length ≤ 1000 ∧ t.ch.length ≤ 1000
def SmL (L : List LT) : Prop := ∀ x ∈ L, SmT x.t
/-- A copy of a type, where it lies. -/
theorem cp_lt {t : Ty} {w : World} {e : Ending} {w' : World} (h : CpT t w e w') : ∃ y : LT, e = .returned (ltV y) ∧ y.t = t ∧ IsTy w' y.t y.vo y.va y.vc ∧ NewT w.heap.size y ∧ Below w.heap.size w w' := by
  obtain ⟨vo, va, vc, rfl, ho, hb⟩ := h
  obtain ⟨x1, y1, rfl⟩ := ho.is.1.form
  obtain ⟨x2, y2, rfl⟩ := ho.is.2.1.form
  obtain ⟨x3, y3, rfl⟩ := ho.is.2.2.form
  exact ⟨⟨t, x1, y1, x2, y2, x3, y3⟩, rfl, rfl, ho.is, ⟨NewA.own ho.1, NewA.own ho.2.1, NewA.own ho.2.2⟩, hb⟩
def FnP (L : List LT) (s : ByteArray) (w : World) (e : Ending) (w' : World) : Prop := ∃ y : LT, e = .returned (.tuple #[ltV y, .bool (parN (tys L) s).isSome]) ∧ y.t = (parN (tys L) s).getD zT ∧ IsTy w' y.t y.vo y.va y.vc ∧ NewT w.heap.size y ∧ Below w.heap.size w w'
theorem parN_atL {L : List LT} {s : ByteArray} {k : Nat} (hk : k < L.length) (h1 : ∀ (j : Nat) (h : j < L.length), j < k → sameL L[j].t.n.data.toList s.data.toList = false) (h2 : sameL L[k].t.n.data.toList s.data.toList = true) : parN (tys L) s = some L[k].t := by
  unfold parN
  rw [List.find?_eq_some_iff_getElem]
  refine ⟨h2, k, by rw [tys_len]; exact hk, tys_at L k hk, fun j hj => ?_⟩
  rw [tys_at L j (by omega), h1 j (by omega) hj]
  rfl
theorem parN_noL {L : List LT} {s : ByteArray} (h1 : ∀ (j : Nat) (h : j < L.length), sameL L[j].t.n.data.toList s.data.toList = false) : parN (tys L) s = none := by
  unfold parN
  rw [List.find?_eq_none]
  intro x hx
  obtain ⟨j, hj, rfl⟩ := List.mem_iff_getElem.1 hx
  rw [tys_len] at hj
  rw [tys_at L j hj, h1 j hj]
  decide
end Go.Proofs.YthdbnlpbidkojaaGreatDoor
/- forest.allCopied: its walk. -/
namespace Go.Proofs.YthdbnlpbidkojaaGreatDoor
open Go.RowKit Go.ChangeMaps

theorem info_ty : (Tryz.prog.info? 35).map (fun i => (i.zero, i.size, i.bytes)) = some (some (.agg zTyA), 8, 128) := by kernel_rfl
theorem row_setRow {w : World} {sz n m c g : Nat} {a : Option Addr} {xs : List Value} (h : IsRow w sz (.slice a m c) n xs) (hN : NewA (g + 1) a) (cs : Array Value) : IsRow (w.setRow g cs) sz (.slice a m c) n xs := by
  refine ⟨h.1, ?_⟩
  rcases h.2 with h0 | ⟨b, off, cap, hv, hlt, q1, q2, hc⟩
  · exact .inl h0
  · have hb : g + 1 ≤ b := by
      simp only [Value.slice.injEq] at hv
      exact hN _ hv.1
    refine .inr ⟨b, off, cap, hv, by simpa using hlt, q1, q2, fun k u hu => ?_⟩
    rw [cell_setRow_other w g cs ⟨b, off + k, none⟩ (by show b ≠ g; omega)]
    exact hc k u hu
theorem ty_setRow {w : World} {y : LT} {g : Nat} (h : IsTy w y.t y.vo y.va y.vc) (hN : NewT (g + 1) y) (cs : Array Value) : IsTy (w.setRow g cs) y.t y.vo y.va y.vc := ⟨row_setRow h.1 hN.1 cs, row_setRow h.2.1 hN.2.1 cs, row_setRow h.2.2 hN.2.2 cs⟩
theorem oneT_cell (y : LT) : ∀ u ∈ enT y, u.oneCell' = true := by
  intro u hu
  simp only [enT, List.mem_cons, List.not_mem_nil, or_false] at hu
  rcases hu with rfl | rfl | rfl | rfl | rfl | rfl | rfl | rfl <;> rfl
theorem oneTs_cell (M : List LT) : ∀ u ∈ tCells M, u.oneCell' = true := by
  intro u hu
  obtain ⟨y, -, hy⟩ := List.mem_flatMap.1 hu
  exact oneT_cell y u hy
theorem enT_tyA (y : LT) : tyA y.t y.vo y.va y.vc = (enT y).toArray := rfl
theorem cells_at {w : World} {g : Nat} {cur : Array Value} {ty : TypeId} (h : w.heap[g]? = some (.cells cur ty (0, 0))) (j : Nat) (u : Value) (hu : cur[j]? = some u) : w.cell? ((⟨g, 0, none⟩ : Addr).add j) = some u := by
  have hadd : (⟨g, 0, none⟩ : Addr).add j = ⟨g, j, none⟩ := by unfold Addr.add; split <;> simp_all
  rw [hadd, Lib.cell_of_heap h]
  exact hu
def AcP (L : List LT) (w : World) (e : Ending) (w' : World) : Prop := ∃ M, e = .returned (.slice (some ⟨w.heap.size, 0, none⟩) L.length L.length) ∧ tys M = tys L ∧ M.length = L.length ∧ w'.heap[w.heap.size]? = some (.cells (tCells M).toArray 35 (0, 0)) ∧ (∀ y ∈ M, IsTy w' y.t y.vo y.va y.vc ∧ NewT (w.heap.size + 1) y) ∧ Below w.heap.size w w'
/-- So many are copied. -/
def AcI (L : List LT) (w : World) (k : Nat) (wr : World) : Prop := ∃ (M : List LT) (cur : Array Value), tys M = (tys L).take k ∧ M.length = k ∧ wr.heap[w.heap.size]? = some (.cells cur 35 (0, 0)) ∧ cur.size = L.length * 8 ∧ cur.toList.take (k * 8) = tCells M ∧ ∀ y ∈ M, IsTy wr y.t y.vo y.va y.vc ∧ NewT (w.heap.size + 1) y
/-- What an append makes of it. -/
def acRow (cur : Array Value) (k : Nat) (y : LT) : Array Value := (cur.toList.take (k * 8) ++ enT y ++ cur.toList.drop (k * 8 + 8)).toArray
theorem AcI.step {L : List LT} {w wr W1 w2 : World} {k : Nat} {cur : Array Value} {M : List LT} {y : LT} (hk : k < L.length) (h1 : tys M = (tys L).take k) (h2 : M.length = k) (h3 : wr.heap[w.heap.size]? = some (.cells cur 35 (0, 0))) (hs : cur.size = L.length * 8) (ht : cur.toList.take (k * 8) = tCells M) (h4 : ∀ y ∈ M, IsTy wr y.t y.vo y.va y.vc ∧ NewT (w.heap.size + 1) y)
    (hB : Below w.heap.size w wr) (hW : Below wr.heap.size wr W1) (hy : y.t = L[k].t) (hyI : IsTy w2 y.t y.vo y.va y.vc) (hyN : NewT W1.heap.size y) (hb2 : Below W1.heap.size W1 w2) :
    (∀ ty, (Builtin.append_ #[48, 48] ty #[.slice (some ⟨w.heap.size, 0, none⟩) k L.length, .slice (some ⟨w2.heap.size, 0, none⟩) 1 1]).run Tryz.prog (w2.alloc (.cells (tyA y.t y.vo y.va y.vc) 35)) = .ok (.slice (some ⟨w.heap.size, 0, none⟩) (k + 1) L.length) ((w2.alloc (.cells (tyA y.t y.vo y.va y.vc) 35)).setRow w.heap.size (acRow cur k y))) ∧
    AcI L w (k + 1) ((w2.alloc (.cells (tyA y.t y.vo y.va y.vc) 35)).setRow w.heap.size (acRow cur k y)) ∧ Below w.heap.size w ((w2.alloc (.cells (tyA y.t y.vo y.va y.vc) 35)).setRow w.heap.size (acRow cur k y)) := by
  obtain ⟨i0, hi0, hz0, hz1, hz2⟩ := info_parts info_ty
  have hs1 := hB.size
  have hs2 := hW.size
  have hs3 := hb2.size
  have hlt : w.heap.size < wr.heap.size := (Array.getElem?_eq_some_iff.1 h3).1
  have hal := al_b w2 (.cells (tyA y.t y.vo y.va y.vc) 35)
  have hfar : Below wr.heap.size wr (w2.alloc (.cells (tyA y.t y.vo y.va y.vc) 35)) := (hW.trans (hb2.mono hs2)).trans (hal.mono (by omega))
  have hg : (w2.alloc (.cells (tyA y.t y.vo y.va y.vc) 35)).heap[w.heap.size]? = some (.cells cur 35 (0, 0)) := (hfar.block _ hlt).trans h3
  have hn : (w2.alloc (.cells (tyA y.t y.vo y.va y.vc) 35)).heap[w2.heap.size]? = some (.cells (tyA y.t y.vo y.va y.vc) 35 (0, 0)) := new_at w2 _
  have hyN' : NewT (w.heap.size + 1) y := hyN.le (by omega)
  refine ⟨fun ty => ?_, ⟨M ++ [y], acRow cur k y, ?_, by simp [h2], setRow_heap _ _ _ _ _ _ hg, ?_, ?_, ?_⟩, below_setRow (hB.trans (hfar.mono hs1)) (Nat.le_refl _) _⟩
  · have := run_append_room (P := Tryz.prog) (w2.alloc (.cells (tyA y.t y.vo y.va y.vc) 35)) 48 ty 35 i0 Tryz.underlying48 hi0 w.heap.size k L.length cur hg ⟨w2.heap.size, 0, none⟩ 1 1 (enT y) (by rw [hz1]; rfl) (fun j u hu => cells_at hn j u (by rw [enT_tyA]; simpa using hu)) (oneT_cell y) (by omega) (by rw [hz1, hs]; show k * 8 + 8 ≤ _; omega)
    rw [hz1] at this
    exact this
  · have e1 : tys (M ++ [y]) = tys M ++ [y.t] := by simp [tys]
    rw [e1, h1, hy, ← tys_at L k hk, List.take_append_getElem]
  · unfold acRow
    rw [List.size_toArray, List.length_append, List.length_append, List.length_take, List.length_drop, Array.length_toList, hs]
    show min (k * 8) (L.length * 8) + 8 + _ = _
    omega
  · unfold acRow
    have hl : (cur.toList.take (k * 8) ++ enT y).length = (k + 1) * 8 := by
      rw [List.length_append, List.length_take, Array.length_toList, hs]
      show min (k * 8) (L.length * 8) + 8 = _
      omega
    rw [← hl, List.take_left, ht, tCells_app]
    congr 1
  · intro z hz
    rcases List.mem_append.1 hz with hz | hz
    · obtain ⟨z1, z2⟩ := h4 z hz
      exact ⟨ty_setRow (z1.below hfar) z2 _, z2⟩
    · obtain rfl := List.mem_singleton.1 hz
      exact ⟨ty_setRow (hyI.below hal) hyN' _, hyN'⟩
end Go.Proofs.YthdbnlpbidkojaaGreatDoor
/- slices.Insert of one type into a row without room: its walk. -/
namespace Go.Proofs.YthdbnlpbidkojaaGreatDoor
open Go.RowKit Go.ChangeMaps

/-- append(s, make([]T, n)...), where there is no room. -/
theorem run_app_zeros {P : Program} (w : World) (t tn ty e : TypeId) (i : TypeInfo) (z : Value) (k kn : IntKind) (ht : P.underlying t = some (.slice e)) (htn : P.underlying tn = some (.int kn)) (hi : P.info? e = some i) (hz : i.zero = some z)
    (b : Addr) (sLen sCap : Nat) (olds : List Value) (hlo : olds.length = sLen * i.size) (holds : ∀ j v, olds[j]? = some v → w.cell? (b.add j) = some v)
    (n : Nat) (h0 : 0 < n) (hs : 0 < i.size) (hg : sCap < sLen + n) (h63 : ((sLen + n : Nat) : Int) ≤ 9223372036854775807) (hfit : Builtin.nextslicecap (sLen + n) sCap * i.bytes ≤ 281474976710656) (h48 : n * i.bytes ≤ 281474976710656) :
    (Builtin.append_ #[t, tn] ty #[.slice (some b) sLen sCap, .int k n]).run P w =
      .ok (.slice (some ⟨w.heap.size, 0, none⟩) (sLen + n) (grownCap w (sLen + n) sCap e)) (w.drew.alloc (.cells (olds.toArray ++ Builtin.zeroCells z.cells n ++ Builtin.zeroCells z.cells (grownCap w (sLen + n) sCap e - (sLen + n))) e)) := by
  have hn : n ≠ 0 := by omega
  have hw : IntKind.i64.wrap (n : Int) = n := by rw [IntKind.wrap_i64]; omega
  have h63' : ¬ (9223372036854775807 < ((sLen : Int) + (n : Int))) := by omega
  have h48' : ¬ (281474976710656 < Builtin.nextslicecap (sLen + n) sCap * i.bytes) := by omega
  have hnr : ¬ (sLen + n ≤ sCap) := by omega
  have h48i : ¬ (281474976710656 < (n : Int) * (i.bytes : Int)) := by
    rw [← Int.natCast_mul]
    omega
  have hneg : ¬ ((n : Int) < 0) := by omega
  have hns : ¬ (n * i.size = 0) := Nat.mul_ne_zero hn (by omega)
  have hfo := run_firstCells_some (P := P) w.drew i.size sLen b sLen sCap olds hlo (by simpa using holds)
  simp [Builtin.append_, run_underlying ht, run_underlying htn, sizeOf, typeInfo, zeroValue, hi, hz, asInt, asIntOf, hw, hneg, hns, h63', h48', h48i, hnr, Question.forced, Builtin.lenOf, hfo, newRow, grownCap]
/-- copy of elements of any size. -/
theorem run_copyN {P : Program} (w : World) (dT sT ty elem : TypeId) (g o dLen dCap : Nat) (a : Addr) (sLen sCap : Nat) (cur : Array Value) (t : TypeId) (cs : List Value) (sz : Nat) (i : TypeInfo)
    (hu : P.underlying dT = some (.slice elem)) (hq : P.info? elem = some i) (hsz : i.size = sz)
    (hg : w.heap[g]? = some (.cells cur t (0, 0))) (hn : cs.length = Nat.min sLen dLen * sz)
    (hsrc : ∀ j v, cs[j]? = some v → w.cell? (a.add j) = some v) (hfit : o + cs.length ≤ cur.size) (h1 : ∀ v ∈ cs, v.oneCell' = true) :
    (Builtin.copy_ #[dT, sT] ty #[.slice (some ⟨g, o, none⟩) dLen dCap, .slice (some a) sLen sCap]).run P w =
      .ok (goInt (Nat.min sLen dLen)) (w.setRow g (cur.toList.take o ++ cs ++ cur.toList.drop (o + cs.length)).toArray) := by
  have hl := run_loadCells_list (P := P) w a cs hsrc
  have hst := run_storeCells_at P g o t cs 0 cur w hg (by simpa using hfit) h1
  simp [Builtin.copy_, run_underlying hu, Builtin.lenOf, Builtin.firstCells, sizeOf, typeInfo, hq, hsz, ← hn, hl, hst]
/-- A copy whose run is known as an equation. -/
theorem wpl_copy_run {P : Program} (w : World) {ops : Array Oper} {rest : List Oper} {o : Oper} {a : Act} {Q : Exit → Act → World → Prop} (hgd : o.guard = none) (s x : Operand) (t tn : TypeId)
    (ho : o.op = .call { callee := .builtin .copy, args := #[s, x], argTypes := #[t, tn] }) (vs vx : Value) (hs : a.eval s = vs) (hx : a.eval x = vx)
    (v' : Value) (w' : World) (hr : (Builtin.copy_ #[t, tn] o.type #[vs, vx]).run P w = .ok v' w') (h : wpList P ops Q rest (a.put o.dst v') w') : wpList P ops Q (o :: rest) a w :=
  wpList_plain hgd fun _ hK => by
    unfold Oper.wp execOp
    simp only [ho, resolve, invoke, builtin, Sem.run_bind, Sem.run_pure, Result.andThen_ok, List.map_toArray, List.map_cons, List.map_nil, hs, hx, hr]
    exact hK _ _ h
def insL (M : List LT) (i : Nat) (y : LT) : List LT := M.take i ++ y :: M.drop i
theorem tys_insL (M : List LT) (i : Nat) (y : LT) : tys (insL M i y) = insT (tys M) i y.t := by simp [tys, insL, insT]
def InP (M : List LT) (i : Nat) (y : LT) (w : World) (e : Ending) (w' : World) : Prop := ∃ c, e = .returned (.slice (some ⟨w.heap.size, 0, none⟩) (M.length + 1) c) ∧ IsRow w' 8 (.slice (some ⟨w.heap.size, 0, none⟩) (M.length + 1) c) (M.length + 1) (tCells (insL M i y)) ∧ Below w.heap.size w w'
theorem tCells_take (M : List LT) (i : Nat) (hi : i ≤ M.length) : (tCells M).take (i * 8) = tCells (M.take i) := by
  have e : tCells M = tCells (M.take i) ++ tCells (M.drop i) := by rw [← tCells_app, List.take_append_drop]
  have e2 : i * 8 = (tCells (M.take i)).length := by rw [tCells_len, List.length_take]; omega
  rw [e, e2]; exact List.take_left
theorem tCells_drop (M : List LT) (i : Nat) (hi : i ≤ M.length) : (tCells M).drop (i * 8) = tCells (M.drop i) := by
  have e : tCells M = tCells (M.take i) ++ tCells (M.drop i) := by rw [← tCells_app, List.take_append_drop]
  have e2 : i * 8 = (tCells (M.take i)).length := by rw [tCells_len, List.length_take]; omega
  rw [e, e2]; exact List.drop_left
theorem row_of_heap {w : World} {g n cap sz : Nat} {cur : Array Value} {ty : TypeId} {xs : List Value} (h : w.heap[g]? = some (.cells cur ty (0, 0))) (hx : xs.length = n * sz) (hp : cur.toList.take xs.length = xs) (h1 : n ≤ cap) (h2 : cap ≤ maxLen) : IsRow w sz (.slice (some ⟨g, 0, none⟩) n cap) n xs := by
  refine ⟨hx, .inr ⟨g, 0, cap, rfl, (Array.getElem?_eq_some_iff.1 h).1, h1, h2, fun j u hu => ?_⟩⟩
  rw [Nat.zero_add, Lib.cell_of_heap h]
  have hj : j < xs.length := by
    rcases Nat.lt_or_ge j xs.length with h | h
    · exact h
    · rw [List.getElem?_eq_none h] at hu; cases hu
  rw [← hp, List.getElem?_take_of_lt hj] at hu
  simpa using hu
theorem insL_cells (M : List LT) (i : Nat) (y : LT) : tCells (insL M i y) = tCells (M.take i) ++ enT y ++ tCells (M.drop i) := by
  unfold insL
  rw [tCells_app, List.append_assoc]
  congr 1
theorem insL_len (M : List LT) (i : Nat) (y : LT) : (tCells (insL M i y)).length = (M.length + 1) * 8 := by
  rw [tCells_len]
  unfold insL
  rw [List.length_append, List.length_cons, List.length_take, List.length_drop]
  omega
theorem cells_from {w : World} {g o : Nat} {cur : Array Value} {ty : TypeId} (h : w.heap[g]? = some (.cells cur ty (0, 0))) (j : Nat) (u : Value) (hu : cur[o + j]? = some u) : w.cell? ((⟨g, o, none⟩ : Addr).add j) = some u := by
  have hadd : (⟨g, o, none⟩ : Addr).add j = ⟨g, o + j, none⟩ := by unfold Addr.add; split <;> simp_all
  rw [hadd, Lib.cell_of_heap h]
  exact hu
/-- What the grown row holds, behind each step. -/
theorem ins_math (M : List LT) (i : Nat) (y : LT) (zs : List Value) (hi : i < M.length) (hz : (M.length + 1 - i) * 8 ≤ zs.length) :
    ((tCells (M.take i) ++ zs).take (i * 8) ++ enT y ++ (tCells (M.take i) ++ zs).drop (i * 8 + (enT y).length)).length = i * 8 + zs.length ∧
    (((tCells (M.take i) ++ zs).take (i * 8) ++ enT y ++ (tCells (M.take i) ++ zs).drop (i * 8 + (enT y).length)).take ((i + 1) * 8) ++ tCells (M.drop i) ++ ((tCells (M.take i) ++ zs).take (i * 8) ++ enT y ++ (tCells (M.take i) ++ zs).drop (i * 8 + (enT y).length)).drop ((i + 1) * 8 + (tCells (M.drop i)).length)).take (tCells (insL M i y)).length = tCells (insL M i y) := by
  have l1 : (tCells (M.take i)).length = i * 8 := by rw [tCells_len, List.length_take]; omega
  have l2 : (enT y).length = 8 := rfl
  have l3 : (tCells (M.drop i)).length = (M.length - i) * 8 := by rw [tCells_len, List.length_drop]
  have e1 : (tCells (M.take i) ++ zs).take (i * 8) = tCells (M.take i) := by rw [← l1]; exact List.take_left
  rw [e1]
  constructor
  · rw [List.length_append, List.length_append, List.length_drop, List.length_append, l1, l2]
    omega
  · have e2 : (tCells (M.take i) ++ enT y ++ (tCells (M.take i) ++ zs).drop (i * 8 + (enT y).length)).take ((i + 1) * 8) = tCells (M.take i) ++ enT y := by
      have : (i + 1) * 8 = (tCells (M.take i) ++ enT y).length := by rw [List.length_append, l1, l2]; omega
      rw [this]; exact List.take_left
    rw [e2, insL_cells]
    exact List.take_left
end Go.Proofs.YthdbnlpbidkojaaGreatDoor
/- forest.Add: its walk. -/
namespace Go.Proofs.YthdbnlpbidkojaaGreatDoor
open Go.RowKit Go.ChangeMaps

def AdP (r : List Ty × Int) (w : World) (e : Ending) (w' : World) : Prop := ∃ (sa : Option Addr) (sc : Nat) (K : List LT), e = .returned (.tuple #[.slice sa K.length sc, .int .i64 r.2]) ∧ tys K = r.1 ∧ IsTys w' (.slice sa K.length sc) K ∧ Below w.heap.size w w'
theorem AdP.err {w w' : World} (n : Int) (h : Below w.heap.size w w') : AdP ([], n) w (.returned (.tuple #[.slice none 0 0, .int .i64 n])) w' := ⟨none, 0, [], rfl, rfl, ⟨IsRow.nil _ _, fun _ hx => nomatch hx⟩, h⟩
theorem AdP.ok {L M : List LT} {x y : LT} {w W0 wd w6 w7 w9 : World} {e : Ending} {k : Nat} (hB : ∀ W, Below W0.heap.size W0 W → Below w.heap.size w W) (hd : Below W0.heap.size W0 wd) (hM : tys M = tys L) (hMI : ∀ y ∈ M, IsTy w6 y.t y.vo y.va y.vc) (h6 : Below wd.heap.size wd w6) (hy : y.t = x.t) (hyI : IsTy w7 y.t y.vo y.va y.vc) (h7 : Below w6.heap.size w6 w7) (hi : InP M k y (w7.alloc (.cells (tyA y.t y.vo y.va y.vc) 35)) e w9) :
    ∃ sa sc, e = .returned (.slice sa (M.length + 1) sc) ∧ AdP (insT (tys L) k x.t, 0) w (.returned (.tuple #[.slice sa (M.length + 1) sc, .int .i64 0])) w9 := by
  obtain ⟨c, rfl, hrow, hb9⟩ := hi
  have hal := al_b w7 (.cells (tyA y.t y.vo y.va y.vc) 35)
  have b79 : Below w7.heap.size w7 w9 := hal.trans (hb9.mono hal.size)
  have b69 : Below w6.heap.size w6 w9 := h7.trans (b79.mono h7.size)
  have bd9 : Below wd.heap.size wd w9 := h6.trans (b69.mono h6.size)
  have hlen : (insL M k y).length = M.length + 1 := by
    unfold insL
    rw [List.length_append, List.length_cons, List.length_take, List.length_drop]
    omega
  refine ⟨_, c, rfl, _, c, insL M k y, by rw [hlen], by rw [tys_insL, hM, hy], ⟨by rw [hlen]; exact hrow, fun z hz => ?_⟩, hB _ (hd.trans (bd9.mono hd.size))⟩
  have hz' : z = y ∨ z ∈ M := by
    unfold insL at hz
    rcases List.mem_append.1 hz with h | h
    · exact .inr (List.mem_of_mem_take h)
    · rcases List.mem_cons.1 h with h | h
      · exact .inl h
      · exact .inr (List.mem_of_mem_drop h)
  rcases hz' with rfl | hz'
  · exact hyI.below b79
  · exact (hMI z hz').below b69
end Go.Proofs.YthdbnlpbidkojaaGreatDoor
/- law05's one and Few: walks. -/
namespace Go.Proofs.YthdbnlpbidkojaaGreatDoor
open Go.RowKit Go.ChangeMaps

/-- Is a type not more than statements go through? -/
def oneB (t : Ty) : Bool := decide (t.n.size ≤ 200) && (decide (t.p.size ≤ 200) && (decide (t.ch.length ≤ 12) && (decide (∀ s ∈ t.ch, s.size ≤ 200) && (fewF t.own && fewF t.all))))
/-- A type that came in. -/
def InT (t : Ty) : Prop := t.own.length ≤ 140737488355328 ∧ t.all.length ≤ 140737488355328 ∧ t.ch.length ≤ 140737488355328
set_option maxRecDepth 100000 in
set_option maxHeartbeats 4000000 in
theorem one_any (x : LT) (w : World) (hr : IsTy w x.t x.vo x.va x.vc) (hl : InT x.t) :
    Calls Tryz.prog 39 #[ltV x] w fun e w' => e = .returned (.bool (oneB x.t)) ∧ Below w.heap.size w w' := by
  obtain ⟨W0, hW0⟩ : ∃ W0, W0 = w.alloc (.cells (tyA x.t x.vo x.va x.vc) 35) := ⟨_, rfl⟩
  have hA : Below w.heap.size w W0 := by rw [hW0]; exact al_b w _
  have hn0 : W0.heap[w.heap.size]? = some (.cells (tyA x.t x.vo x.va x.vc) 35 (0, 0)) := by rw [hW0]; exact new_at w _
  obtain ⟨⟨g0, g1, g2, g3⟩, g4, g5, g6, g7⟩ := BxT.of hn0
  have HB : Hid (Below w.heap.size w W0) := hA
  have HF1 : Hid (Calls Tryz.prog 68 #[x.vo] W0 fun e w' => e = .returned (.bool (fewF x.t.own)) ∧ w' = W0) := fewF_any _ x.t.own _ (hr.1.below hA) hl.1
  have HF2 : Hid (Calls Tryz.prog 68 #[x.va] W0 fun e w' => e = .returned (.bool (fewF x.t.all)) ∧ w' = W0) := fewF_any _ x.t.all _ (hr.2.1.below hA) hl.2.1
  have HR : Hid (IsRow W0 1 x.vc x.t.ch.length (sVals x.t.ch)) := hr.2.2.below hA
  have HD : Hid (oneB x.t = (decide (x.t.n.size ≤ 200) && (decide (x.t.p.size ≤ 200) && (decide (x.t.ch.length ≤ 12) && (decide (∀ s ∈ x.t.ch, s.size ≤ 200) && (fewF x.t.own && fewF x.t.all)))))) := rfl
  generalize oneB x.t = R at *
  generalize fewF x.t.own = F1 at *
  generalize fewF x.t.all = F2 at *
  clear hr hl hn0 hA
  by_cases h1 : x.t.n.size ≤ 200
  rotate_left
  · have hR : R = false := by rw [HD.out, decide_eq_false h1, Bool.false_and]
    have d1 : decide ((200 : Int) < (x.t.n.size : Int)) = true := by simp; omega
    subst hR
    clear HD HF1 HF2 HR h1
    go_enter Tryz.func39, Tryz.ntmps39
    go_wp2_with fail
    rw [← hW0]
    clear hW0
    go_wp2
    go_ret
    exact ⟨rfl, HB.out⟩
  have d1 : decide ((200 : Int) < (x.t.n.size : Int)) = false := by simp; omega
  by_cases h2 : x.t.p.size ≤ 200
  rotate_left
  · have hR : R = false := by rw [HD.out, decide_eq_false h2, Bool.false_and, Bool.and_false]
    have d2 : decide ((200 : Int) < (x.t.p.size : Int)) = true := by simp; omega
    subst hR
    clear HD HF1 HF2 HR h1 h2
    go_enter Tryz.func39, Tryz.ntmps39
    go_wp2_with fail
    rw [← hW0]
    clear hW0
    go_wp2
    go_ret
    exact ⟨rfl, HB.out⟩
  have d2 : decide ((200 : Int) < (x.t.p.size : Int)) = false := by simp; omega
  by_cases h3 : x.t.ch.length ≤ 12
  rotate_left
  · have hR : R = false := by rw [HD.out, decide_eq_false h3, Bool.false_and, Bool.and_false, Bool.and_false]
    have d3 : decide ((12 : Int) < (x.t.ch.length : Int)) = true := by simp; omega
    subst hR
    clear HD HF1 HF2 HR h1 h2 h3
    go_enter Tryz.func39, Tryz.ntmps39
    go_wp2_with fail
    rw [← hW0]
    clear hW0
    go_wp2
    go_ret
    exact ⟨rfl, HB.out⟩
  have d3 : decide ((12 : Int) < (x.t.ch.length : Int)) = false := by simp; omega
  have HD1 : Hid (R = (decide (∀ s ∈ x.t.ch, s.size ≤ 200) && (F1 && F2))) := by show _ = _; rw [HD.out, decide_eq_true h1, decide_eq_true h2, decide_eq_true h3, Bool.true_and, Bool.true_and, Bool.true_and]
  clear HD h1 h2
  go_enter Tryz.func39, Tryz.ntmps39
  go_wp2_with fail
  rw [← hW0]
  clear hW0
  go_wp2_with fail
  go_loopw [3] (fun i wr => ∃ k : Nat, k ≤ x.t.ch.length ∧ i = .int .i64 (k : Int) ∧ Hid (∀ (j : Nat) (h : j < x.t.ch.length), j < k → x.t.ch[j].size ≤ 200) ∧ W0 = wr) (fun i _ => x.t.ch.length - (intOf i).toNat)
  case atStart => exact ⟨0, Nat.zero_le _, rfl, (fun j h hj => absurd hj (Nat.not_lt_zero _)), rfl⟩
  case round =>
    obtain ⟨k, hk, rfl, HO, rfl⟩ := hrel
    by_cases hlk : k < x.t.ch.length
    · have dk : decide ((k : Int) < (x.t.ch.length : Int)) = true := by simp; omega
      obtain ⟨b, off, hac, -, hlt, hcap, hc⟩ := s_at HR.out (by omega)
      have y0 := hc k hlk
      have i1 : (0 : Int) ≤ (k : Int) := by omega
      have i2 : (k : Int) < (x.t.ch.length : Int) := by omega
      have HNo : Hid (¬ x.t.ch[k].size ≤ 200 → R = false) := fun h => by
        rw [HD1.out, decide_eq_false (fun hh => h (hh _ (List.getElem_mem hlk))), Bool.false_and]
      have HYes : Hid (x.t.ch[k].size ≤ 200 → ∀ (j : Nat) (h : j < x.t.ch.length), j < k + 1 → x.t.ch[j].size ≤ 200) := fun hs j h hj => by
        by_cases e : j = k
        · subst e; exact hs
        · exact HO.out j h (by omega)
      generalize x.t.ch[k]'hlk = s at *
      obtain ⟨xt, xao, xco, xaa, xca, xac, xcc⟩ := x
      dsimp only [LT.vc] at *
      subst hac
      by_cases hs : s.size ≤ 200
      · have ds : decide ((200 : Int) < (s.size : Int)) = false := by simp; omega
        have HO2 : Hid (∀ (j : Nat) (h : j < xt.ch.length), j < k + 1 → xt.ch[j].size ≤ 200) := HYes.out hs
        clear HNo HYes hs hc HO HF1 HF2 HR HD1
        go_wp2
        go_roundw
        case rel => exact ⟨k + 1, by omega, by simp, HO2, trivial⟩
        case measure => simp [intOf]; omega
      · have ds : decide ((200 : Int) < (s.size : Int)) = true := by simp; omega
        have hR : Hid (R = false) := HNo.out hs
        clear HNo HYes hs hc HO HF1 HF2 HR HD1
        go_wp2
        go_ret
        exact ⟨by rw [hR.out]; rfl, HB.out⟩
    · have dk : decide ((k : Int) < (x.t.ch.length : Int)) = false := by simp; omega
      have hR : R = (F1 && F2) := by
        rw [HD1.out, decide_eq_true (fun s hs => by
          obtain ⟨j, hj, rfl⟩ := List.mem_iff_getElem.1 hs
          exact HO.out j hj (by omega)), Bool.true_and]
      clear HO HD1 HR
      go_wp2_with fail
      refine HF1.out.mono ?_
      rintro e w1 ⟨rfl, h1⟩
      obtain rfl := h1.symm
      cases F1
      · rw [Bool.false_and] at hR
        subst hR
        clear HF1 HF2
        go_wp2
        go_ret
        exact ⟨rfl, HB.out⟩
      · rw [Bool.true_and] at hR
        subst hR
        clear HF1
        go_wp2_with fail
        refine HF2.out.mono ?_
        rintro e w2 ⟨rfl, h2⟩
        obtain rfl := h2.symm
        clear HF2
        go_wp2
        go_ret
        exact ⟨rfl, HB.out⟩
/-- Are types not more? -/
def fewL (l : List Ty) : Bool := decide (∀ (k : Nat) (h : k < l.length), k ≤ 25 ∧ oneB l[k] = true)
set_option maxRecDepth 100000 in
set_option maxHeartbeats 4000000 in
theorem fewT_any (v : Value) (L : List LT) (w : World) (hr : IsTys w v L) (hl : L.length ≤ 140737488355328) (hi : ∀ x ∈ L, InT x.t) :
    Calls Tryz.prog 13 #[v] w fun e w' => e = .returned (.bool (fewL (tys L))) ∧ Below w.heap.size w w' := by
  obtain ⟨a0, cap0, rfl⟩ := hr.1.form
  have HR : Hid (∀ W, Below w.heap.size w W → IsRow W 8 (.slice a0 L.length cap0) L.length (tCells L)) := fun W h => hr.1.below h
  have HC : Hid (∀ (k : Nat) (hk : k < L.length) W, Below w.heap.size w W → Calls Tryz.prog 39 #[ltV L[k]] W fun e w' => e = .returned (.bool (oneB L[k].t)) ∧ Below W.heap.size W w') := fun k hk W h => one_any _ W ((hr.2 _ (List.getElem_mem hk)).below h) (hi _ (List.getElem_mem hk))
  have HNo : Hid (∀ (k : Nat) (hk : k < L.length), ¬ (k ≤ 25 ∧ oneB L[k].t = true) → fewL (tys L) = false) := fun k hk h => decide_eq_false fun hh => h (by
    have := hh k (by rw [tys_len]; exact hk)
    rwa [tys_at L k hk] at this)
  have HYes : Hid ((∀ (k : Nat) (hk : k < L.length), k ≤ 25 ∧ oneB L[k].t = true) → fewL (tys L) = true) := fun h => decide_eq_true fun k hk => by
    rw [tys_len] at hk
    rw [tys_at L k hk]
    exact h k hk
  generalize fewL (tys L) = R at *
  clear hr hi
  go_enter Tryz.func13, Tryz.ntmps13
  go_wp2_with fail
  go_loopw [3] (fun i wr => ∃ k : Nat, k ≤ L.length ∧ k ≤ 26 ∧ i = .int .i64 (k : Int) ∧ Hid (∀ (j : Nat) (h : j < L.length), j < k → j ≤ 25 ∧ oneB L[j].t = true) ∧ Hid (Below w.heap.size w wr)) (fun i _ => 27 - (intOf i).toNat)
  case atStart => exact ⟨0, Nat.zero_le _, by omega, rfl, (fun j h hj => absurd hj (Nat.not_lt_zero _)), Below.refl _ _⟩
  case round =>
    obtain ⟨k, hk, hk26, rfl, HO, HB⟩ := hrel
    have hsz := HB.out.size
    by_cases hlk : k < L.length
    · have dk : decide ((k : Int) < (L.length : Int)) = true := by simp; omega
      by_cases h25 : k ≤ 25
      · have d25 : decide ((25 : Int) < (k : Int)) = false := by simp; omega
        obtain ⟨b, off, rfl, hbl, -, hcap, hc⟩ := t_at (HR.out _ HB.out) (by omega)
        obtain ⟨⟨y0, y1, y2, y3⟩, y4, y5, y6, y7⟩ := hc k hlk
        have HC1 : Hid (Calls Tryz.prog 39 #[ltV L[k]] wr fun e w' => e = .returned (.bool (oneB L[k].t)) ∧ Below wr.heap.size wr w') := HC.out k hlk wr HB.out
        have HN1 : Hid (oneB L[k].t = false → R = false) := fun h => HNo.out k hlk (fun hh => by rw [h] at hh; cases hh.2)
        have HO1 : Hid (oneB L[k].t = true → ∀ (j : Nat) (h : j < L.length), j < k + 1 → j ≤ 25 ∧ oneB L[j].t = true) := fun ho j h hj => by
          by_cases e : j = k
          · subst e; exact ⟨h25, ho⟩
          · exact HO.out j h (by omega)
        have i1 : (0 : Int) ≤ (k : Int) := by omega
        have i2 : (k : Int) < (L.length : Int) := by omega
        generalize L[k]'hlk = x at *
        clear hc HR HC HNo HYes HO
        go_wp2_with fail
        refine HC1.out.mono ?_
        rintro e w1 ⟨rfl, hb⟩
        have HB1 : Hid (Below w.heap.size w w1) := HB.out.trans (hb.mono hsz)
        clear hb HC1 y0 y1 y2 y3 y4 y5 y6 y7
        cases ho : oneB x.t
        · have hR : Hid (R = false) := HN1.out ho
          clear HN1 HO1 ho
          go_wp2
          go_ret
          exact ⟨by rw [hR.out]; rfl, HB1.out⟩
        · have HO2 : Hid (∀ (j : Nat) (h : j < L.length), j < k + 1 → j ≤ 25 ∧ oneB L[j].t = true) := HO1.out ho
          clear HN1 HO1 ho
          go_wp2
          go_roundw
          case rel => exact ⟨k + 1, by omega, by omega, by simp, HO2, HB1⟩
          case measure => simp [intOf]; omega
      · have d25 : decide ((25 : Int) < (k : Int)) = true := by simp; omega
        have hR : Hid (R = false) := HNo.out k hlk (fun hh => h25 hh.1)
        clear HR HC HNo HYes HO
        go_wp2
        go_ret
        exact ⟨by rw [hR.out]; rfl, HB.out⟩
    · have dk : decide ((k : Int) < (L.length : Int)) = false := by simp; omega
      have hR : Hid (R = true) := HYes.out fun j h => HO.out j h (by omega)
      clear HR HC HNo HYes HO
      go_wp2
      go_ret
      exact ⟨by rw [hR.out]; rfl, HB.out⟩
theorem oneB_ok {t : Ty} (h : oneB t = true) : NmT t ∧ t.own.length ≤ 1000 ∧ t.all.length ≤ 1000 ∧ t.ch.length ≤ 12 := by
  unfold oneB at h
  simp only [Bool.and_eq_true, decide_eq_true_eq] at h
  obtain ⟨h1, h2, h3, h4, h5, h6⟩ := h
  have key : ∀ l : List Fd, fewF l = true → l.length ≤ 1000 ∧ NmF l := fun l h => by
    unfold fewF at h
    rw [decide_eq_true_eq] at h
    refine ⟨?_, fun y hy => ?_⟩
    · rcases Nat.lt_or_ge 1000 l.length with hl | hl
      · have := (h 1000 hl).1
        omega
      · exact hl
    · obtain ⟨k, hk, rfl⟩ := List.mem_iff_getElem.1 hy
      have := (h k hk).2
      omega
  obtain ⟨k1, k2⟩ := key _ h5
  obtain ⟨k3, k4⟩ := key _ h6
  exact ⟨⟨by omega, by omega, fun s hs => by have := h4 s hs; omega, k2, k4, by omega, by omega, by omega⟩, k1, k3, h3⟩
theorem fewL_ok {L : List LT} (h : fewL (tys L) = true) : L.length ≤ 26 ∧ NmL L ∧ SmL L := by
  unfold fewL at h
  rw [decide_eq_true_eq] at h
  have key : ∀ x ∈ L, oneB x.t = true := fun x hx => by
    obtain ⟨k, hk, rfl⟩ := List.mem_iff_getElem.1 hx
    have := (h k (by rw [tys_len]; exact hk)).2
    rwa [tys_at L k hk] at this
  refine ⟨?_, fun x hx => (oneB_ok (key x hx)).1, fun x hx => ?_⟩
  · rcases Nat.lt_or_ge 26 L.length with hl | hl
    · have := (h 26 (by rw [tys_len]; exact hl)).1
      omega
    · exact hl
  · obtain ⟨-, h1, h2, h3⟩ := oneB_ok (key x hx)
    exact ⟨h1, h2, by omega⟩
end Go.Proofs.YthdbnlpbidkojaaGreatDoor
/- Types that came in; three names that came in. -/
namespace Go.Proofs.YthdbnlpbidkojaaGreatDoor
open Go.ChangeShapes Go.WideShapes Go.ChangeAt Go.WideMaps Go.WideElems Go.RowKit Go.Deep

theorem cTy : Tryz.prog.cellsOf 35 = 8 := by kernel_rfl
theorem cSlS : Tryz.prog.cellsOf 31 = 1 := by kernel_rfl
theorem listT6 {α : Type} {l : List α} (h : l.length = 6) : ∃ c0 c1 c2 c3 c4 c5, l = [c0, c1, c2, c3, c4, c5] := by
  match l, h with
  | [c0, c1, c2, c3, c4, c5], _ => exact ⟨c0, c1, c2, c3, c4, c5, rfl⟩
theorem listS8 {α : Type} {l : List α} (h : l.length = 8) : ∃ c0 c1 c2 c3 c4 c5 c6 c7, l = [c0, c1, c2, c3, c4, c5, c6, c7] := by
  match l, h with
  | [c0, c1, c2, c3, c4, c5, c6, c7], _ => exact ⟨c0, c1, c2, c3, c4, c5, c6, c7, rfl⟩
theorem open_names {H : Type} {enc : TypeId × Value → H} {w : World} {fuel : Nat} {v : Value} {x : DataW H × List MemPlace} (h : DataW.trod enc Tryz.prog w 0 (fun _ => true) true fuel 31 [v] = some x) (hz : ∀ n ∈ x.1.weights Tryz.prog 31, n ≤ reachBytes) :
    ∃ l : List ByteArray, IsRow w 1 v l.length (sVals l) ∧ l.length ≤ 140737488355328 := by
  obtain ⟨l, h1, h2⟩ := open_rows (fun s => [Value.string s]) 1 16 Tryz.underlying31 cS (by kernel_rfl) (fun _ => rfl) (by omega) (by omega)
    (fun fuel cs y hy => by
      obtain ⟨s, e0, -, -⟩ := DataW.trod_string Tryz.underlying9 hy
      exact ⟨s, e0⟩) h hz
  have e : l.flatMap (fun s => [Value.string s]) = sVals l := by
    clear h1 h2
    induction l with
    | nil => rfl
    | cons a r ih => rw [List.flatMap_cons, ih]; rfl
  rw [e] at h1
  exact ⟨l, h1, h2⟩
set_option maxRecDepth 100000 in
theorem open_ty {H : Type} {enc : TypeId × Value → H} {W : World} (fuel : Nat) (cs : List Value) (x : DataW H × List MemPlace) (h : DataW.trod enc Tryz.prog W 0 (fun _ => true) true fuel 35 cs = some x) (hz : ∀ n ∈ x.1.weights Tryz.prog 35, n ≤ reachBytes) :
    ∃ z : LT, cs = enT z ∧ (IsTy W z.t z.vo z.va z.vc ∧ InT z.t) := by
  obtain ⟨xs, n, _, rfl, hl, hlen, hf⟩ := DataW.trod_struct Tryz.underlying35 h
  rw [cTy] at hl
  obtain ⟨c0, c1, c2, c3, c4, c5, c6, c7, rfl⟩ := listS8 hl
  obtain ⟨y0, y1, y2, y3, y4, y5, rfl⟩ := listT6 (l := xs) hlen
  have i0 := hf 0 _ rfl
  have i1 := hf 1 _ rfl
  have i2 := hf 2 _ rfl
  have i3 := hf 3 _ rfl
  have i4 := hf 4 _ rfl
  have i5 := hf 5 _ rfl
  simp [cID, cS, cSlF, cSlS] at i0 i1 i2 i3 i4 i5
  obtain ⟨s, e0, -, -⟩ := DataW.trod_string Tryz.underlying9 i0
  obtain ⟨p, e1, -, -⟩ := DataW.trod_string Tryz.underlying9 i1
  obtain ⟨a, b, c, e5⟩ := open_id _ _ _ i5
  simp at e0 e1 e5
  obtain ⟨rfl, rfl, rfl⟩ := e5
  subst e0 e1
  obtain ⟨lo, ho, bo⟩ := open_fds i2 (fun m hm => hz m (by
    simp only [DataW.weights, Tryz.underlying35, List.map_cons, List.map_nil, DataW.weightsEach, List.mem_append]
    exact .inr (.inr (.inl hm))))
  obtain ⟨la, ha, ba⟩ := open_fds i3 (fun m hm => hz m (by
    simp only [DataW.weights, Tryz.underlying35, List.map_cons, List.map_nil, DataW.weightsEach, List.mem_append]
    exact .inr (.inr (.inr (.inl hm)))))
  obtain ⟨lc, hc, bc⟩ := open_names i4 (fun m hm => hz m (by
    simp only [DataW.weights, Tryz.underlying35, List.map_cons, List.map_nil, DataW.weightsEach, List.mem_append]
    exact .inr (.inr (.inr (.inr (.inl hm))))))
  obtain ⟨so, no, rfl⟩ := ho.form
  obtain ⟨sa, na, rfl⟩ := ha.form
  obtain ⟨sc, nc, rfl⟩ := hc.form
  exact ⟨⟨⟨s, p, lo, la, lc, a, b, c⟩, so, no, sa, na, sc, nc⟩, rfl, ⟨ho, ha, hc⟩, bo, ba, bc⟩
instance : Inhabited LT := ⟨⟨⟨⟨#[]⟩, ⟨#[]⟩, [], [], [], 0, 0, 0⟩, none, 0, none, 0, none, 0⟩⟩
set_option maxRecDepth 100000 in
theorem open_tys {H : Type} {enc : TypeId × Value → H} {w : World} {fuel : Nat} {v : Value} {x : DataW H × List MemPlace} (h : DataW.trod enc Tryz.prog w 0 (fun _ => true) true fuel 48 [v] = some x) (hz : ∀ n ∈ x.1.weights Tryz.prog 48, n ≤ reachBytes) :
    ∃ L : List LT, IsTys w v L ∧ L.length ≤ 140737488355328 ∧ ∀ z ∈ L, InT z.t := by
  obtain ⟨l, h1, h2, h3⟩ := open_rowsP enT 8 128 Tryz.underlying48 cTy (by kernel_rfl) (fun _ => rfl) (by omega) (by omega) (fun z => IsTy w z.t z.vo z.va z.vc ∧ InT z.t) open_ty h hz
  exact ⟨l, ⟨h1, fun z hz => (h3 z hz).1⟩, h2, fun z hz => (h3 z hz).2⟩
end Go.Proofs.YthdbnlpbidkojaaGreatDoor
