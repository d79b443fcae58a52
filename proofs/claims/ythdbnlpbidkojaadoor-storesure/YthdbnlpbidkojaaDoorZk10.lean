/- forest.Is: its walk. -/
import Derived.Test.YthdbnlpbidkojaaDoorZk9
import Derived.Test.YthdbnlpbidkojaaDoorZk8
import Derived.Laws.MakeOwn
import Derived.Laws.CopyOwn
import Derived.Laws.CopyRow
import Derived.Lib.AppendZeros
import Derived.Deep.WholeRow
import Derived.Test.YthdbnlpbidkojaaDoorZk6
import Derived.Test.YthdbnlpbidkojaaDoorZk0
import Derived.Lib.SlBy
namespace Go.Proofs.YthdbnlpbidkojaaDoor
open Go.RowKit Go.ChangeMaps

theorem str0 (s : ByteArray) : (s.toList == ([] : List UInt8)) = decide (s.size = 0) := by
  rw [Bool.eq_iff_iff, beq_iff_eq, decide_eq_true_eq, ByteArray.toList_eq]
  constructor
  · intro h
    have e : s.data.toList.length = s.size := by simp
    rw [h] at e
    exact e.symm
  · intro h
    apply List.eq_nil_of_length_eq_zero
    have e : s.data.toList.length = s.size := by simp
    omega
theorem str0' (s : ByteArray) : (s.toList == (⟨#[]⟩ : ByteArray).toList) = decide (s.size = 0) := by rw [← str0, ByteArray.toList_eq ⟨#[]⟩]
theorem chk_ch {t : Ty} (h : chkT t = true) : 1 ≤ t.ch.length := by
  unfold chkT at h
  simp only [Bool.and_eq_true, decide_eq_true_eq] at h
  exact h.1
theorem parB_0 {l : List Ty} {t : Ty} (h : t.p.size = 0) : parB l t = true := by unfold parB; rw [decide_eq_true h, Bool.true_or]
theorem parB_1 {l : List Ty} {t : Ty} (h : ¬ t.p.size = 0) (hp : parN l t.p = none) : parB l t = false := by unfold parB; rw [decide_eq_false h, Bool.false_or, hp]
theorem parB_2 {l : List Ty} {t o : Ty} (h : ¬ t.p.size = 0) (hp : parN l t.p = some o) : parB l t = belB t o := by unfold parB; rw [decide_eq_false h, Bool.false_or, hp]
theorem nmN {L : List LT} (h : NmL L) : ∀ x ∈ L, x.t.n.size ≤ 1000000 := fun x hx => (h x hx).n
/-- The first so many types may be, and rise. -/
def OkK (L : List LT) (k : Nat) : Prop := ∀ (j : Nat) (h : j < L.length), j < k → chkT L[j].t = true ∧ ∀ (i : Nat) (e : i + 1 = j), nmC (L[i]'(by omega)).t L[j].t.n < 0
theorem okK_all {L : List LT} (h : OkK L L.length) : (tys L).all chkT = true ∧ Rise (tys L) := by
  constructor
  · rw [List.all_eq_true]
    intro t ht
    obtain ⟨k, hk, rfl⟩ := List.mem_iff_getElem.1 ht
    rw [tys_len] at hk
    rw [tys_at L k hk]
    exact (h k hk hk).1
  · rw [← riseB_iff]
    unfold riseB
    rw [decide_eq_true_eq]
    intro k hk
    rw [tys_len] at hk
    rw [tys_at L k (by omega), tys_at L (k + 1) (by omega)]
    exact (h (k + 1) (by omega) (by omega)).2 k rfl
theorem is_no1 {L : List LT} {k : Nat} (hk : k < L.length) (h : chkT L[k].t = false) : isB (tys L) = false := by
  cases e : isB (tys L)
  · rfl
  · unfold isB at e
    simp only [Bool.and_eq_true, List.all_eq_true] at e
    have := e.2.1 L[k].t (by rw [← tys_at L k hk]; exact List.getElem_mem _)
    rw [h] at this
    cases this
theorem is_no2 {L : List LT} {k : Nat} (hk : k + 1 < L.length) (h : ¬ nmC (L[k]'(by omega)).t L[k + 1].t.n < 0) : isB (tys L) = false := by
  cases e : isB (tys L)
  · rfl
  · unfold isB at e
    simp only [Bool.and_eq_true, riseB_iff] at e
    have := (List.pairwise_iff_getElem.1 e.2.2.1) k (k + 1) (by rw [tys_len]; omega) (by rw [tys_len]; omega) (by omega)
    rw [tys_at L k (by omega), tys_at L (k + 1) hk] at this
    exact absurd this h
theorem is_no3 {L : List LT} {k : Nat} (hk : k < L.length) (h : parB (tys L) L[k].t = false) : isB (tys L) = false := by
  cases e : isB (tys L)
  · rfl
  · unfold isB at e
    simp only [Bool.and_eq_true, List.all_eq_true] at e
    have := e.2.2.2 L[k].t (by rw [← tys_at L k hk]; exact List.getElem_mem _)
    rw [h] at this
    cases this
theorem is_yes {L : List LT} (h0 : L.length ≤ 200) (h1 : OkK L L.length) (h2 : ∀ (k : Nat) (h : k < L.length), parB (tys L) L[k].t = true) : isB (tys L) = true := by
  obtain ⟨a, b⟩ := okK_all h1
  unfold isB
  rw [a, (riseB_iff _).2 b, tys_len, decide_eq_true h0, Bool.true_and, Bool.true_and, Bool.true_and, List.all_eq_true]
  intro t ht
  obtain ⟨k, hk, rfl⟩ := List.mem_iff_getElem.1 ht
  rw [tys_len] at hk
  rw [tys_at L k hk]
  exact h2 k hk
end Go.Proofs.YthdbnlpbidkojaaDoor
/- forest.Make: its walk. -/
namespace Go.Proofs.YthdbnlpbidkojaaDoor
open Go.RowKit Go.ChangeMaps

theorem MkP.up {r : Ty × Int} {w w5 w6 : World} {e : Ending} (h : MkP r w5 e w6) (hb : Below w.heap.size w w5) : MkP r w e w6 := by
  obtain ⟨y, h1, h2, h3, h4, h5⟩ := h
  exact ⟨y, h1, h2, h3, h4.le hb.size, hb.trans (h5.mono hb.size)⟩
/-- Behind the store of a type that is made. -/
def CtM (w : World) (t : Ty) (wx : World) : Prop := ∃ y : LT, y.t = t ∧ Hid (IsTy wx y.t y.vo y.va y.vc) ∧ Hid (NewT (w.heap.size + 2) y) ∧ Hid (Below w.heap.size w wx) ∧ Hid (BxT (w.heap.size + 1) y.t y.vo y.va y.vc wx)
end Go.Proofs.YthdbnlpbidkojaaDoor
/- forest.copied: a walk. -/
namespace Go.Proofs.YthdbnlpbidkojaaDoor
open Go.RowKit Go.ChangeMaps

theorem results_c1 {fn : Func} {p : Tmp} {ty : TypeId} (h : fn.results = #[.cell p ty]) (tmps : Array Value) (P : Program) (w : World) :
    (results fn tmps).run P w = ((asAddr (tmps.getD p undef)).run P w).andThen fun a w₁ => (loadVar ty a).run P w₁ := by
  simp only [results, h]
  simp [Sem.run_bind, Result.andThen]
/-- Behind the three stores. -/
def CtT (w : World) (t : Ty) (wx : World) : Prop := ∃ x1 y1 x2 y2 x3 y3, Hid (OwnTy (w.heap.size + 2) wx t (.slice x1 t.own.length y1) (.slice x2 t.all.length y2) (.slice x3 t.ch.length y3)) ∧ Hid (Below w.heap.size w wx) ∧ Hid (BxT w.heap.size t (.slice x1 t.own.length y1) (.slice x2 t.all.length y2) (.slice x3 t.ch.length y3) wx) ∧ Hid (∀ j, wx.frozen? ⟨w.heap.size + 1, j, none⟩ = false) ∧ Hid (BxT (w.heap.size + 1) ⟨⟨#[]⟩, ⟨#[]⟩, [], [], [], 0, 0, 0⟩ (.slice none 0 0) (.slice none 0 0) (.slice none 0 0) wx)
end Go.Proofs.YthdbnlpbidkojaaDoor
/- forest.Find: its walk. -/
namespace Go.Proofs.YthdbnlpbidkojaaDoor
open Go.RowKit Go.ChangeMaps

/-- Rows of types are not too long to be copied. -/
def SmT (t : Ty) : Prop := t.own.length ≤ 1000 ∧ t.all.length ≤ 1000 ∧ t.ch.length ≤ 1000
def SmL (L : List LT) : Prop := ∀ x ∈ L, SmT x.t
/-- A copy of a type, where it lies. -/
theorem cp_lt {t : Ty} {w : World} {e : Ending} {w' : World} (h : CpT t w e w') : ∃ y : LT, e = .returned (ltV y) ∧ y.t = t ∧ IsTy w' y.t y.vo y.va y.vc ∧ NewT w.heap.size y ∧ Below w.heap.size w w' := by
  obtain ⟨vo, va, vc, rfl, ho, hb⟩ := h
  obtain ⟨x1, y1, rfl⟩ := ho.is.1.form
  obtain ⟨x2, y2, rfl⟩ := ho.is.2.1.form
  obtain ⟨x3, y3, rfl⟩ := ho.is.2.2.form
  exact ⟨⟨t, x1, y1, x2, y2, x3, y3⟩, rfl, rfl, ho.is, ⟨NewA.own ho.1, NewA.own ho.2.1, NewA.own ho.2.2⟩, hb⟩
def FnP (L : List LT) (s : ByteArray) (w : World) (e : Ending) (w' : World) : Prop := ∃ y : LT, e = .returned (.tuple #[ltV y, .bool (parN (tys L) s).isSome]) ∧ y.t = (parN (tys L) s).getD zT ∧ IsTy w' y.t y.vo y.va y.vc ∧ NewT w.heap.size y ∧ Below w.heap.size w w'
theorem parN_atL {L : List LT} {s : ByteArray} {k : Nat} (hk : k < L.length) (h1 : ∀ (j : Nat) (h : j < L.length), j < k → sameL L[j].t.n.data.toList s.data.toList = false) (h2 : sameL L[k].t.n.data.toList s.data.toList = true) : parN (tys L) s = some L[k].t := by
  unfold parN
  rw [List.find?_eq_some_iff_getElem]
  refine ⟨h2, k, by rw [tys_len]; exact hk, tys_at L k hk, fun j hj => ?_⟩
  rw [tys_at L j (by omega), h1 j (by omega) hj]
  rfl
theorem parN_noL {L : List LT} {s : ByteArray} (h1 : ∀ (j : Nat) (h : j < L.length), sameL L[j].t.n.data.toList s.data.toList = false) : parN (tys L) s = none := by
  unfold parN
  rw [List.find?_eq_none]
  intro x hx
  obtain ⟨j, hj, rfl⟩ := List.mem_iff_getElem.1 hx
  rw [tys_len] at hj
  rw [tys_at L j hj, h1 j hj]
  decide
end Go.Proofs.YthdbnlpbidkojaaDoor
/- forest.allCopied: its walk. -/
namespace Go.Proofs.YthdbnlpbidkojaaDoor
open Go.RowKit Go.ChangeMaps

theorem info_ty : (Tryd.prog.info? 29).map (fun i => (i.zero, i.size, i.bytes)) = some (some (.agg zTyA), 8, 128) := by kernel_rfl
theorem row_setRow {w : World} {sz n m c g : Nat} {a : Option Addr} {xs : List Value} (h : IsRow w sz (.slice a m c) n xs) (hN : NewA (g + 1) a) (cs : Array Value) : IsRow (w.setRow g cs) sz (.slice a m c) n xs := by
  refine ⟨h.1, ?_⟩
  rcases h.2 with h0 | ⟨b, off, cap, hv, hlt, q1, q2, hc⟩
  · exact .inl h0
  · have hb : g + 1 ≤ b := by
      simp only [Value.slice.injEq] at hv
      exact hN _ hv.1
    refine .inr ⟨b, off, cap, hv, by simpa using hlt, q1, q2, fun k u hu => ?_⟩
    rw [cell_setRow_other w g cs ⟨b, off + k, none⟩ (by show b ≠ g; omega)]
    exact hc k u hu
theorem ty_setRow {w : World} {y : LT} {g : Nat} (h : IsTy w y.t y.vo y.va y.vc) (hN : NewT (g + 1) y) (cs : Array Value) : IsTy (w.setRow g cs) y.t y.vo y.va y.vc := ⟨row_setRow h.1 hN.1 cs, row_setRow h.2.1 hN.2.1 cs, row_setRow h.2.2 hN.2.2 cs⟩
theorem oneT_cell (y : LT) : ∀ u ∈ enT y, u.oneCell' = true := by
  intro u hu
  simp only [enT, List.mem_cons, List.not_mem_nil, or_false] at hu
  rcases hu with rfl | rfl | rfl | rfl | rfl | rfl | rfl | rfl <;> rfl
theorem oneTs_cell (M : List LT) : ∀ u ∈ tCells M, u.oneCell' = true := by
  intro u hu
  obtain ⟨y, -, hy⟩ := List.mem_flatMap.1 hu
  exact oneT_cell y u hy
theorem enT_tyA (y : LT) : tyA y.t y.vo y.va y.vc = (enT y).toArray := rfl
theorem cells_at {w : World} {g : Nat} {cur : Array Value} {ty : TypeId} (h : w.heap[g]? = some (.cells cur ty (0, 0))) (j : Nat) (u : Value) (hu : cur[j]? = some u) : w.cell? ((⟨g, 0, none⟩ : Addr).add j) = some u := by
  have hadd : (⟨g, 0, none⟩ : Addr).add j = ⟨g, j, none⟩ := by unfold Addr.add; split <;> simp_all
  rw [hadd, Lib.cell_of_heap h]
  exact hu
def AcP (L : List LT) (w : World) (e : Ending) (w' : World) : Prop := ∃ M, e = .returned (.slice (some ⟨w.heap.size, 0, none⟩) L.length L.length) ∧ tys M = tys L ∧ M.length = L.length ∧ w'.heap[w.heap.size]? = some (.cells (tCells M).toArray 29 (0, 0)) ∧ (∀ y ∈ M, IsTy w' y.t y.vo y.va y.vc ∧ NewT (w.heap.size + 1) y) ∧ Below w.heap.size w w'
/-- So many are copied. -/
def AcI (L : List LT) (w : World) (k : Nat) (wr : World) : Prop := ∃ (M : List LT) (cur : Array Value), tys M = (tys L).take k ∧ M.length = k ∧ wr.heap[w.heap.size]? = some (.cells cur 29 (0, 0)) ∧ cur.size = L.length * 8 ∧ cur.toList.take (k * 8) = tCells M ∧ ∀ y ∈ M, IsTy wr y.t y.vo y.va y.vc ∧ NewT (w.heap.size + 1) y
/-- What an append makes of it. -/
def acRow (cur : Array Value) (k : Nat) (y : LT) : Array Value := (cur.toList.take (k * 8) ++ enT y ++ cur.toList.drop (k * 8 + 8)).toArray
theorem AcI.step {L : List LT} {w wr W1 w2 : World} {k : Nat} {cur : Array Value} {M : List LT} {y : LT} (hk : k < L.length) (h1 : tys M = (tys L).take k) (h2 : M.length = k) (h3 : wr.heap[w.heap.size]? = some (.cells cur 29 (0, 0))) (hs : cur.size = L.length * 8) (ht : cur.toList.take (k * 8) = tCells M) (h4 : ∀ y ∈ M, IsTy wr y.t y.vo y.va y.vc ∧ NewT (w.heap.size + 1) y)
    (hB : Below w.heap.size w wr) (hW : Below wr.heap.size wr W1) (hy : y.t = L[k].t) (hyI : IsTy w2 y.t y.vo y.va y.vc) (hyN : NewT W1.heap.size y) (hb2 : Below W1.heap.size W1 w2) :
    (∀ ty, (Builtin.append_ #[52, 52] ty #[.slice (some ⟨w.heap.size, 0, none⟩) k L.length, .slice (some ⟨w2.heap.size, 0, none⟩) 1 1]).run Tryd.prog (w2.alloc (.cells (tyA y.t y.vo y.va y.vc) 29)) = .ok (.slice (some ⟨w.heap.size, 0, none⟩) (k + 1) L.length) ((w2.alloc (.cells (tyA y.t y.vo y.va y.vc) 29)).setRow w.heap.size (acRow cur k y))) ∧
    AcI L w (k + 1) ((w2.alloc (.cells (tyA y.t y.vo y.va y.vc) 29)).setRow w.heap.size (acRow cur k y)) ∧ Below w.heap.size w ((w2.alloc (.cells (tyA y.t y.vo y.va y.vc) 29)).setRow w.heap.size (acRow cur k y)) := by
  obtain ⟨i0, hi0, hz0, hz1, hz2⟩ := info_parts info_ty
  have hs1 := hB.size
  have hs2 := hW.size
  have hs3 := hb2.size
  have hlt : w.heap.size < wr.heap.size := (Array.getElem?_eq_some_iff.1 h3).1
  have hal := al_b w2 (.cells (tyA y.t y.vo y.va y.vc) 29)
  have hfar : Below wr.heap.size wr (w2.alloc (.cells (tyA y.t y.vo y.va y.vc) 29)) := (hW.trans (hb2.mono hs2)).trans (hal.mono (by omega))
  have hg : (w2.alloc (.cells (tyA y.t y.vo y.va y.vc) 29)).heap[w.heap.size]? = some (.cells cur 29 (0, 0)) := (hfar.block _ hlt).trans h3
  have hn : (w2.alloc (.cells (tyA y.t y.vo y.va y.vc) 29)).heap[w2.heap.size]? = some (.cells (tyA y.t y.vo y.va y.vc) 29 (0, 0)) := new_at w2 _
  have hyN' : NewT (w.heap.size + 1) y := hyN.le (by omega)
  refine ⟨fun ty => ?_, ⟨M ++ [y], acRow cur k y, ?_, by simp [h2], setRow_heap _ _ _ _ _ _ hg, ?_, ?_, ?_⟩, below_setRow (hB.trans (hfar.mono hs1)) (Nat.le_refl _) _⟩
  · have := run_append_room (P := Tryd.prog) (w2.alloc (.cells (tyA y.t y.vo y.va y.vc) 29)) 52 ty 29 i0 Tryd.underlying52 hi0 w.heap.size k L.length cur hg ⟨w2.heap.size, 0, none⟩ 1 1 (enT y) (by rw [hz1]; rfl) (fun j u hu => cells_at hn j u (by rw [enT_tyA]; simpa using hu)) (oneT_cell y) (by omega) (by rw [hz1, hs]; show k * 8 + 8 ≤ _; omega)
    rw [hz1] at this
    exact this
  · have e1 : tys (M ++ [y]) = tys M ++ [y.t] := by simp [tys]
    rw [e1, h1, hy, ← tys_at L k hk, List.take_append_getElem]
  · unfold acRow
    rw [List.size_toArray, List.length_append, List.length_append, List.length_take, List.length_drop, Array.length_toList, hs]
    show min (k * 8) (L.length * 8) + 8 + _ = _
    omega
  · unfold acRow
    have hl : (cur.toList.take (k * 8) ++ enT y).length = (k + 1) * 8 := by
      rw [List.length_append, List.length_take, Array.length_toList, hs]
      show min (k * 8) (L.length * 8) + 8 = _
      omega
    rw [← hl, List.take_left, ht, tCells_app]
    congr 1
  · intro z hz
    rcases List.mem_append.1 hz with hz | hz
    · obtain ⟨z1, z2⟩ := h4 z hz
      exact ⟨ty_setRow (z1.below hfar) z2 _, z2⟩
    · obtain rfl := List.mem_singleton.1 hz
      exact ⟨ty_setRow (hyI.below hal) hyN' _, hyN'⟩
end Go.Proofs.YthdbnlpbidkojaaDoor
/- slices.Insert of one type into a row without room: its walk. -/
namespace Go.Proofs.YthdbnlpbidkojaaDoor
open Go.RowKit Go.ChangeMaps

/-- append(s, make([]T, n)...), where there is no room. -/
theorem run_app_zeros {P : Program} (w : World) (t tn ty e : TypeId) (i : TypeInfo) (z : Value) (k kn : IntKind) (ht : P.underlying t = some (.slice e)) (htn : P.underlying tn = some (.int kn)) (hi : P.info? e = some i) (hz : i.zero = some z)
    (b : Addr) (sLen sCap : Nat) (olds : List Value) (hlo : olds.length = sLen * i.size) (holds : ∀ j v, olds[j]? = some v → w.cell? (b.add j) = some v)
    (n : Nat) (h0 : 0 < n) (hs : 0 < i.size) (hg : sCap < sLen + n) (h63 : ((sLen + n : Nat) : Int) ≤ 9223372036854775807) (hfit : Builtin.nextslicecap (sLen + n) sCap * i.bytes ≤ 281474976710656) (h48 : n * i.bytes ≤ 281474976710656) :
    (Builtin.append_ #[t, tn] ty #[.slice (some b) sLen sCap, .int k n]).run P w =
      .ok (.slice (some ⟨w.heap.size, 0, none⟩) (sLen + n) (grownCap w (sLen + n) sCap e)) (w.drew.alloc (.cells (olds.toArray ++ Builtin.zeroCells z.cells n ++ Builtin.zeroCells z.cells (grownCap w (sLen + n) sCap e - (sLen + n))) e)) := by
  have hn : n ≠ 0 := by omega
  have hw : IntKind.i64.wrap (n : Int) = n := by rw [IntKind.wrap_i64]; omega
  have h63' : ¬ (9223372036854775807 < ((sLen : Int) + (n : Int))) := by omega
  have h48' : ¬ (281474976710656 < Builtin.nextslicecap (sLen + n) sCap * i.bytes) := by omega
  have hnr : ¬ (sLen + n ≤ sCap) := by omega
  have h48i : ¬ (281474976710656 < (n : Int) * (i.bytes : Int)) := by
    rw [← Int.natCast_mul]
    omega
  have hneg : ¬ ((n : Int) < 0) := by omega
  have hns : ¬ (n * i.size = 0) := Nat.mul_ne_zero hn (by omega)
  have hfo := run_firstCells_some (P := P) w.drew i.size sLen b sLen sCap olds hlo (by simpa using holds)
  simp [Builtin.append_, run_underlying ht, run_underlying htn, sizeOf, typeInfo, zeroValue, hi, hz, asInt, asIntOf, hw, hneg, hns, h63', h48', h48i, hnr, Question.forced, Builtin.lenOf, hfo, newRow, grownCap]
/-- copy of elements of any size. -/
theorem run_copyN {P : Program} (w : World) (dT sT ty elem : TypeId) (g o dLen dCap : Nat) (a : Addr) (sLen sCap : Nat) (cur : Array Value) (t : TypeId) (cs : List Value) (sz : Nat) (i : TypeInfo)
    (hu : P.underlying dT = some (.slice elem)) (hq : P.info? elem = some i) (hsz : i.size = sz)
    (hg : w.heap[g]? = some (.cells cur t (0, 0))) (hn : cs.length = Nat.min sLen dLen * sz)
    (hsrc : ∀ j v, cs[j]? = some v → w.cell? (a.add j) = some v) (hfit : o + cs.length ≤ cur.size) (h1 : ∀ v ∈ cs, v.oneCell' = true) :
    (Builtin.copy_ #[dT, sT] ty #[.slice (some ⟨g, o, none⟩) dLen dCap, .slice (some a) sLen sCap]).run P w =
      .ok (goInt (Nat.min sLen dLen)) (w.setRow g (cur.toList.take o ++ cs ++ cur.toList.drop (o + cs.length)).toArray) := by
  have hl := run_loadCells_list (P := P) w a cs hsrc
  have hst := run_storeCells_at P g o t cs 0 cur w hg (by simpa using hfit) h1
  simp [Builtin.copy_, run_underlying hu, Builtin.lenOf, Builtin.firstCells, sizeOf, typeInfo, hq, hsz, ← hn, hl, hst]
/-- A copy whose run is known as an equation. -/
theorem wpl_copy_run {P : Program} (w : World) {ops : Array Oper} {rest : List Oper} {o : Oper} {a : Act} {Q : Exit → Act → World → Prop} (hgd : o.guard = none) (s x : Operand) (t tn : TypeId)
    (ho : o.op = .call { callee := .builtin .copy, args := #[s, x], argTypes := #[t, tn] }) (vs vx : Value) (hs : a.eval s = vs) (hx : a.eval x = vx)
    (v' : Value) (w' : World) (hr : (Builtin.copy_ #[t, tn] o.type #[vs, vx]).run P w = .ok v' w') (h : wpList P ops Q rest (a.put o.dst v') w') : wpList P ops Q (o :: rest) a w :=
  wpList_plain hgd fun _ hK => by
    unfold Oper.wp execOp
    simp only [ho, resolve, invoke, builtin, Sem.run_bind, Sem.run_pure, Result.andThen_ok, List.map_toArray, List.map_cons, List.map_nil, hs, hx, hr]
    exact hK _ _ h
def insL (M : List LT) (i : Nat) (y : LT) : List LT := M.take i ++ y :: M.drop i
theorem tys_insL (M : List LT) (i : Nat) (y : LT) : tys (insL M i y) = insT (tys M) i y.t := by simp [tys, insL, insT]
def InP (M : List LT) (i : Nat) (y : LT) (w : World) (e : Ending) (w' : World) : Prop := ∃ c, e = .returned (.slice (some ⟨w.heap.size, 0, none⟩) (M.length + 1) c) ∧ IsRow w' 8 (.slice (some ⟨w.heap.size, 0, none⟩) (M.length + 1) c) (M.length + 1) (tCells (insL M i y)) ∧ Below w.heap.size w w'
theorem tCells_take (M : List LT) (i : Nat) (hi : i ≤ M.length) : (tCells M).take (i * 8) = tCells (M.take i) := by
  have e : tCells M = tCells (M.take i) ++ tCells (M.drop i) := by rw [← tCells_app, List.take_append_drop]
  have e2 : i * 8 = (tCells (M.take i)).length := by rw [tCells_len, List.length_take]; omega
  rw [e, e2]; exact List.take_left
theorem tCells_drop (M : List LT) (i : Nat) (hi : i ≤ M.length) : (tCells M).drop (i * 8) = tCells (M.drop i) := by
  have e : tCells M = tCells (M.take i) ++ tCells (M.drop i) := by rw [← tCells_app, List.take_append_drop]
  have e2 : i * 8 = (tCells (M.take i)).length := by rw [tCells_len, List.length_take]; omega
  rw [e, e2]; exact List.drop_left
theorem row_of_heap {w : World} {g n cap sz : Nat} {cur : Array Value} {ty : TypeId} {xs : List Value} (h : w.heap[g]? = some (.cells cur ty (0, 0))) (hx : xs.length = n * sz) (hp : cur.toList.take xs.length = xs) (h1 : n ≤ cap) (h2 : cap ≤ maxLen) : IsRow w sz (.slice (some ⟨g, 0, none⟩) n cap) n xs := by
  refine ⟨hx, .inr ⟨g, 0, cap, rfl, (Array.getElem?_eq_some_iff.1 h).1, h1, h2, fun j u hu => ?_⟩⟩
  rw [Nat.zero_add, Lib.cell_of_heap h]
  have hj : j < xs.length := by
    rcases Nat.lt_or_ge j xs.length with h | h
    · exact h
    · rw [List.getElem?_eq_none h] at hu; cases hu
  rw [← hp, List.getElem?_take_of_lt hj] at hu
  simpa using hu
theorem insL_cells (M : List LT) (i : Nat) (y : LT) : tCells (insL M i y) = tCells (M.take i) ++ enT y ++ tCells (M.drop i) := by
  unfold insL
  rw [tCells_app, List.append_assoc]
  congr 1
theorem insL_len (M : List LT) (i : Nat) (y : LT) : (tCells (insL M i y)).length = (M.length + 1) * 8 := by
  rw [tCells_len]
  unfold insL
  rw [List.length_append, List.length_cons, List.length_take, List.length_drop]
  omega
theorem cells_from {w : World} {g o : Nat} {cur : Array Value} {ty : TypeId} (h : w.heap[g]? = some (.cells cur ty (0, 0))) (j : Nat) (u : Value) (hu : cur[o + j]? = some u) : w.cell? ((⟨g, o, none⟩ : Addr).add j) = some u := by
  have hadd : (⟨g, o, none⟩ : Addr).add j = ⟨g, o + j, none⟩ := by unfold Addr.add; split <;> simp_all
  rw [hadd, Lib.cell_of_heap h]
  exact hu
/-- What the grown row holds, behind each step. -/
theorem ins_math (M : List LT) (i : Nat) (y : LT) (zs : List Value) (hi : i < M.length) (hz : (M.length + 1 - i) * 8 ≤ zs.length) :
    ((tCells (M.take i) ++ zs).take (i * 8) ++ enT y ++ (tCells (M.take i) ++ zs).drop (i * 8 + (enT y).length)).length = i * 8 + zs.length ∧
    (((tCells (M.take i) ++ zs).take (i * 8) ++ enT y ++ (tCells (M.take i) ++ zs).drop (i * 8 + (enT y).length)).take ((i + 1) * 8) ++ tCells (M.drop i) ++ ((tCells (M.take i) ++ zs).take (i * 8) ++ enT y ++ (tCells (M.take i) ++ zs).drop (i * 8 + (enT y).length)).drop ((i + 1) * 8 + (tCells (M.drop i)).length)).take (tCells (insL M i y)).length = tCells (insL M i y) := by
  have l1 : (tCells (M.take i)).length = i * 8 := by rw [tCells_len, List.length_take]; omega
  have l2 : (enT y).length = 8 := rfl
  have l3 : (tCells (M.drop i)).length = (M.length - i) * 8 := by rw [tCells_len, List.length_drop]
  have e1 : (tCells (M.take i) ++ zs).take (i * 8) = tCells (M.take i) := by rw [← l1]; exact List.take_left
  rw [e1]
  constructor
  · rw [List.length_append, List.length_append, List.length_drop, List.length_append, l1, l2]
    omega
  · have e2 : (tCells (M.take i) ++ enT y ++ (tCells (M.take i) ++ zs).drop (i * 8 + (enT y).length)).take ((i + 1) * 8) = tCells (M.take i) ++ enT y := by
      have : (i + 1) * 8 = (tCells (M.take i) ++ enT y).length := by rw [List.length_append, l1, l2]; omega
      rw [this]; exact List.take_left
    rw [e2, insL_cells]
    exact List.take_left
end Go.Proofs.YthdbnlpbidkojaaDoor
/- forest.Add: its walk. -/
namespace Go.Proofs.YthdbnlpbidkojaaDoor
open Go.RowKit Go.ChangeMaps

def AdP (r : List Ty × Int) (w : World) (e : Ending) (w' : World) : Prop := ∃ (sa : Option Addr) (sc : Nat) (K : List LT), e = .returned (.tuple #[.slice sa K.length sc, .int .i64 r.2]) ∧ tys K = r.1 ∧ IsTys w' (.slice sa K.length sc) K ∧ Below w.heap.size w w'
theorem AdP.err {w w' : World} (n : Int) (h : Below w.heap.size w w') : AdP ([], n) w (.returned (.tuple #[.slice none 0 0, .int .i64 n])) w' := ⟨none, 0, [], rfl, rfl, ⟨IsRow.nil _ _, fun _ hx => nomatch hx⟩, h⟩
theorem AdP.ok {L M : List LT} {x y : LT} {w W0 wd w6 w7 w9 : World} {e : Ending} {k : Nat} (hB : ∀ W, Below W0.heap.size W0 W → Below w.heap.size w W) (hd : Below W0.heap.size W0 wd) (hM : tys M = tys L) (hMI : ∀ y ∈ M, IsTy w6 y.t y.vo y.va y.vc) (h6 : Below wd.heap.size wd w6) (hy : y.t = x.t) (hyI : IsTy w7 y.t y.vo y.va y.vc) (h7 : Below w6.heap.size w6 w7) (hi : InP M k y (w7.alloc (.cells (tyA y.t y.vo y.va y.vc) 29)) e w9) :
    ∃ sa sc, e = .returned (.slice sa (M.length + 1) sc) ∧ AdP (insT (tys L) k x.t, 0) w (.returned (.tuple #[.slice sa (M.length + 1) sc, .int .i64 0])) w9 := by
  obtain ⟨c, rfl, hrow, hb9⟩ := hi
  have hal := al_b w7 (.cells (tyA y.t y.vo y.va y.vc) 29)
  have b79 : Below w7.heap.size w7 w9 := hal.trans (hb9.mono hal.size)
  have b69 : Below w6.heap.size w6 w9 := h7.trans (b79.mono h7.size)
  have bd9 : Below wd.heap.size wd w9 := h6.trans (b69.mono h6.size)
  have hlen : (insL M k y).length = M.length + 1 := by
    unfold insL
    rw [List.length_append, List.length_cons, List.length_take, List.length_drop]
    omega
  refine ⟨_, c, rfl, _, c, insL M k y, by rw [hlen], by rw [tys_insL, hM, hy], ⟨by rw [hlen]; exact hrow, fun z hz => ?_⟩, hB _ (hd.trans (bd9.mono hd.size))⟩
  have hz' : z = y ∨ z ∈ M := by
    unfold insL at hz
    rcases List.mem_append.1 hz with h | h
    · exact .inr (List.mem_of_mem_take h)
    · rcases List.mem_cons.1 h with h | h
      · exact .inl h
      · exact .inr (List.mem_of_mem_drop h)
  rcases hz' with rfl | hz'
  · exact hyI.below b79
  · exact (hMI z hz').below b69
end Go.Proofs.YthdbnlpbidkojaaDoor
/- law05's one and Few: walks. -/
namespace Go.Proofs.YthdbnlpbidkojaaDoor
open Go.RowKit Go.ChangeMaps

/-- Is a type not more than statements go through? -/
def oneB (t : Ty) : Bool := decide (t.n.size ≤ 200) && (decide (t.p.size ≤ 200) && (decide (t.ch.length ≤ 12) && (decide (∀ s ∈ t.ch, s.size ≤ 200) && (fewF t.own && fewF t.all))))
/-- A type that came in. -/
def InT (t : Ty) : Prop := t.own.length ≤ 140737488355328 ∧ t.all.length ≤ 140737488355328 ∧ t.ch.length ≤ 140737488355328
/-- Are types not more? -/
def fewL (l : List Ty) : Bool := decide (∀ (k : Nat) (h : k < l.length), k ≤ 25 ∧ oneB l[k] = true)
theorem oneB_ok {t : Ty} (h : oneB t = true) : NmT t ∧ t.own.length ≤ 1000 ∧ t.all.length ≤ 1000 ∧ t.ch.length ≤ 12 := by
  unfold oneB at h
  simp only [Bool.and_eq_true, decide_eq_true_eq] at h
  obtain ⟨h1, h2, h3, h4, h5, h6⟩ := h
  have key : ∀ l : List Fd, fewF l = true → l.length ≤ 1000 ∧ NmF l := fun l h => by
    unfold fewF at h
    rw [decide_eq_true_eq] at h
    refine ⟨?_, fun y hy => ?_⟩
    · rcases Nat.lt_or_ge 1000 l.length with hl | hl
      · have := (h 1000 hl).1
        omega
      · exact hl
    · obtain ⟨k, hk, rfl⟩ := List.mem_iff_getElem.1 hy
      have := (h k hk).2
      omega
  obtain ⟨k1, k2⟩ := key _ h5
  obtain ⟨k3, k4⟩ := key _ h6
  exact ⟨⟨by omega, by omega, fun s hs => by have := h4 s hs; omega, k2, k4, by omega, by omega, by omega⟩, k1, k3, h3⟩
theorem fewL_ok {L : List LT} (h : fewL (tys L) = true) : L.length ≤ 26 ∧ NmL L ∧ SmL L := by
  unfold fewL at h
  rw [decide_eq_true_eq] at h
  have key : ∀ x ∈ L, oneB x.t = true := fun x hx => by
    obtain ⟨k, hk, rfl⟩ := List.mem_iff_getElem.1 hx
    have := (h k (by rw [tys_len]; exact hk)).2
    rwa [tys_at L k hk] at this
  refine ⟨?_, fun x hx => (oneB_ok (key x hx)).1, fun x hx => ?_⟩
  · rcases Nat.lt_or_ge 26 L.length with hl | hl
    · have := (h 26 (by rw [tys_len]; exact hl)).1
      omega
    · exact hl
  · obtain ⟨-, h1, h2, h3⟩ := oneB_ok (key x hx)
    exact ⟨h1, h2, by omega⟩
end Go.Proofs.YthdbnlpbidkojaaDoor
/- Types that came in; three names that came in. -/
namespace Go.Proofs.YthdbnlpbidkojaaDoor
open Go.ChangeShapes Go.WideShapes Go.ChangeAt Go.WideMaps Go.WideElems Go.RowKit Go.Deep

theorem cTy : Tryd.prog.cellsOf 29 = 8 := by kernel_rfl
theorem cSlS : Tryd.prog.cellsOf 27 = 1 := by kernel_rfl
theorem listT6 {α : Type} {l : List α} (h : l.length = 6) : ∃ c0 c1 c2 c3 c4 c5, l = [c0, c1, c2, c3, c4, c5] := by
  match l, h with
  | [c0, c1, c2, c3, c4, c5], _ => exact ⟨c0, c1, c2, c3, c4, c5, rfl⟩
theorem listS8 {α : Type} {l : List α} (h : l.length = 8) : ∃ c0 c1 c2 c3 c4 c5 c6 c7, l = [c0, c1, c2, c3, c4, c5, c6, c7] := by
  match l, h with
  | [c0, c1, c2, c3, c4, c5, c6, c7], _ => exact ⟨c0, c1, c2, c3, c4, c5, c6, c7, rfl⟩
theorem open_names {H : Type} {enc : TypeId × Value → H} {w : World} {fuel : Nat} {v : Value} {x : DataW H × List MemPlace} (h : DataW.trod enc Tryd.prog w 0 (fun _ => true) true fuel 27 [v] = some x) (hz : ∀ n ∈ x.1.weights Tryd.prog 27, n ≤ reachBytes) :
    ∃ l : List ByteArray, IsRow w 1 v l.length (sVals l) ∧ l.length ≤ 140737488355328 := by
  obtain ⟨l, h1, h2⟩ := open_rows (fun s => [Value.string s]) 1 16 Tryd.underlying27 cS (by kernel_rfl) (fun _ => rfl) (by omega) (by omega)
    (fun fuel cs y hy => by
      obtain ⟨s, e0, -, -⟩ := DataW.trod_string Tryd.underlying9 hy
      exact ⟨s, e0⟩) h hz
  have e : l.flatMap (fun s => [Value.string s]) = sVals l := by
    clear h1 h2
    induction l with
    | nil => rfl
    | cons a r ih => rw [List.flatMap_cons, ih]; rfl
  rw [e] at h1
  exact ⟨l, h1, h2⟩
set_option maxRecDepth 100000 in
theorem open_ty {H : Type} {enc : TypeId × Value → H} {W : World} (fuel : Nat) (cs : List Value) (x : DataW H × List MemPlace) (h : DataW.trod enc Tryd.prog W 0 (fun _ => true) true fuel 29 cs = some x) (hz : ∀ n ∈ x.1.weights Tryd.prog 29, n ≤ reachBytes) :
    ∃ z : LT, cs = enT z ∧ (IsTy W z.t z.vo z.va z.vc ∧ InT z.t) := by
  obtain ⟨xs, n, _, rfl, hl, hlen, hf⟩ := DataW.trod_struct Tryd.underlying29 h
  rw [cTy] at hl
  obtain ⟨c0, c1, c2, c3, c4, c5, c6, c7, rfl⟩ := listS8 hl
  obtain ⟨y0, y1, y2, y3, y4, y5, rfl⟩ := listT6 (l := xs) hlen
  have i0 := hf 0 _ rfl
  have i1 := hf 1 _ rfl
  have i2 := hf 2 _ rfl
  have i3 := hf 3 _ rfl
  have i4 := hf 4 _ rfl
  have i5 := hf 5 _ rfl
  simp [cID, cS, cSlF, cSlS] at i0 i1 i2 i3 i4 i5
  obtain ⟨s, e0, -, -⟩ := DataW.trod_string Tryd.underlying9 i0
  obtain ⟨p, e1, -, -⟩ := DataW.trod_string Tryd.underlying9 i1
  obtain ⟨a, b, c, e5⟩ := open_id _ _ _ i5
  simp at e0 e1 e5
  obtain ⟨rfl, rfl, rfl⟩ := e5
  subst e0 e1
  obtain ⟨lo, ho, bo⟩ := open_fds i2 (fun m hm => hz m (by
    simp only [DataW.weights, Tryd.underlying29, List.map_cons, List.map_nil, DataW.weightsEach, List.mem_append]
    exact .inr (.inr (.inl hm))))
  obtain ⟨la, ha, ba⟩ := open_fds i3 (fun m hm => hz m (by
    simp only [DataW.weights, Tryd.underlying29, List.map_cons, List.map_nil, DataW.weightsEach, List.mem_append]
    exact .inr (.inr (.inr (.inl hm)))))
  obtain ⟨lc, hc, bc⟩ := open_names i4 (fun m hm => hz m (by
    simp only [DataW.weights, Tryd.underlying29, List.map_cons, List.map_nil, DataW.weightsEach, List.mem_append]
    exact .inr (.inr (.inr (.inr (.inl hm))))))
  obtain ⟨so, no, rfl⟩ := ho.form
  obtain ⟨sa, na, rfl⟩ := ha.form
  obtain ⟨sc, nc, rfl⟩ := hc.form
  exact ⟨⟨⟨s, p, lo, la, lc, a, b, c⟩, so, no, sa, na, sc, nc⟩, rfl, ⟨ho, ha, hc⟩, bo, ba, bc⟩
instance : Inhabited LT := ⟨⟨⟨⟨#[]⟩, ⟨#[]⟩, [], [], [], 0, 0, 0⟩, none, 0, none, 0, none, 0⟩⟩
set_option maxRecDepth 100000 in
theorem open_tys {H : Type} {enc : TypeId × Value → H} {w : World} {fuel : Nat} {v : Value} {x : DataW H × List MemPlace} (h : DataW.trod enc Tryd.prog w 0 (fun _ => true) true fuel 52 [v] = some x) (hz : ∀ n ∈ x.1.weights Tryd.prog 52, n ≤ reachBytes) :
    ∃ L : List LT, IsTys w v L ∧ L.length ≤ 140737488355328 ∧ ∀ z ∈ L, InT z.t := by
  obtain ⟨l, h1, h2, h3⟩ := open_rowsP enT 8 128 Tryd.underlying52 cTy (by kernel_rfl) (fun _ => rfl) (by omega) (by omega) (fun z => IsTy w z.t z.vo z.va z.vc ∧ InT z.t) open_ty h hz
  exact ⟨l, ⟨h1, fun z hz => (h3 z hz).1⟩, h2, fun z hz => (h3 z hz).2⟩
end Go.Proofs.YthdbnlpbidkojaaDoor
/- Nodes, their points, the ring, a key's heirs: plain, of no program. -/
namespace Go.Proofs.YthdbnlpbidkojaaDoor
open Go.Lib
set_option maxRecDepth 100000

/-- The digits of a node's number. -/
def nt (n : Nat) : List UInt8 := if n < 10 then [UInt8.ofNat (48 + n)] else [49, UInt8.ofNat (38 + n)]
/-- A node's point. -/
def pt (n : Nat) : Nat := hashL (110 :: 111 :: 100 :: 101 :: 32 :: nt n)
/-- All nodes, by their points. -/
def R15 : List Nat := [12, 13, 10, 11, 14, 15, 7, 6, 5, 4, 3, 2, 1, 9, 8]
theorem R15_sorted : R15.Pairwise (fun a b => pt a < pt b) := by decide +kernel
theorem R15_nodup : R15.Nodup := by decide
theorem pt_lt (n : Nat) : pt n < 18446744073709551616 := by
  unfold pt hashL
  generalize 110 :: 111 :: 100 :: 101 :: 32 :: nt n = l
  have : ∀ (l : List UInt8) (h : Nat), h < 18446744073709551616 → l.foldl (fun h b => ((h ^^^ b.toNat) * 1099511628211) % 18446744073709551616) h < 18446744073709551616 := by
    intro l
    induction l with
    | nil => intro h hh; exact hh
    | cons b l ih => intro h _; exact ih _ (Nat.mod_lt _ (by decide))
  exact this l _ (by decide)
theorem R15_mem {n : Nat} : n ∈ R15 ↔ 1 ≤ n ∧ n ≤ 15 := by
  constructor
  · intro h
    have : ∀ m ∈ R15, 1 ≤ m ∧ m ≤ 15 := by decide
    exact this n h
  · intro h
    have : ∀ m : Fin 16, 1 ≤ m.val → m.val ∈ R15 := by decide
    exact this ⟨n, by omega⟩ h.1
/-- May numbers be nodes? -/
def NodesP (l : List Int) : Prop := ∀ (k : Nat) (h : k < l.length), 1 ≤ l[k] ∧ l[k] ≤ 15 ∧ ∀ (j : Nat) (e : j + 1 = k), l[j]'(by omega) < l[k]
open Classical in
noncomputable def nodesB (l : List Int) : Bool := decide (NodesP l)
open Classical in
theorem nodesB_true {l : List Int} (h : NodesP l) : nodesB l = true := by unfold nodesB; exact decide_eq_true h
open Classical in
theorem nodesB_false {l : List Int} (h : ¬ NodesP l) : nodesB l = false := by unfold nodesB; exact decide_eq_false h
/-- A node where it stands. -/
def st (n : Nat) : Int × Int := ((n : Int), (pt n : Int))
/-- The ring of nodes. -/
noncomputable def rgL (l : List Int) : List Nat := if nodesB l = true then R15.filter (fun (n : Nat) => decide ((n : Int) ∈ l)) else []
theorem rgL_of {l : List Int} (h : NodesP l) : rgL l = R15.filter (fun (n : Nat) => decide ((n : Int) ∈ l)) := if_pos (nodesB_true h)
theorem rgL_not {l : List Int} (h : ¬ NodesP l) : rgL l = [] := if_neg (by rw [nodesB_false h]; decide)
theorem rgL_sorted (l : List Int) : (rgL l).Pairwise (fun a b => pt a < pt b) := by
  unfold rgL
  split
  · exact R15_sorted.filter _
  · exact .nil
theorem rgL_nodup (l : List Int) : (rgL l).Nodup := by
  unfold rgL
  split
  · exact R15_nodup.filter _
  · exact .nil
theorem rgL_node {l : List Int} {n : Nat} (h : n ∈ rgL l) : 1 ≤ n ∧ n ≤ 15 := by
  unfold rgL at h
  split at h
  · exact R15_mem.1 (List.mem_filter.1 h).1
  · cases h
theorem nodes_rise {l : List Int} (h : NodesP l) : ∀ (k i : Nat) (hk : k < l.length) (hi : i < k), l[i]'(by omega) < l[k]
  | 0, _, _, hi => absurd hi (Nat.not_lt_zero _)
  | k + 1, i, hk, hi => by
    have h1 := (h (k + 1) hk).2.2 k rfl
    by_cases e : i = k
    · subst e; exact h1
    · have := nodes_rise h k i (by omega) (by omega)
      omega
theorem nodes_nodup {l : List Int} (h : NodesP l) : l.Nodup := by
  rw [List.nodup_iff_pairwise_ne, List.pairwise_iff_getElem]
  intro i j hi hj hij e
  have := nodes_rise h j i hj hij
  omega
theorem nodes_mem {l : List Int} (h : NodesP l) {x : Int} (hx : x ∈ l) : 1 ≤ x ∧ x ≤ 15 := by
  obtain ⟨k, hk, rfl⟩ := List.mem_iff_getElem.1 hx
  exact ⟨(h k hk).1, (h k hk).2.1⟩
theorem rgL_mem {l : List Int} (h : NodesP l) {x : Int} : x ∈ (rgL l).map (fun (n : Nat) => (n : Int)) ↔ x ∈ l := by
  rw [rgL_of h]
  constructor
  · intro hx
    obtain ⟨n, hn, rfl⟩ := List.mem_map.1 hx
    simpa using (List.mem_filter.1 hn).2
  · intro hx
    have := nodes_mem h hx
    refine List.mem_map.2 ⟨x.toNat, List.mem_filter.2 ⟨R15_mem.2 (by omega), ?_⟩, by omega⟩
    rw [show ((x.toNat : Nat) : Int) = x by omega]
    simpa using hx
theorem map_cast_nodup {r : List Nat} (h : r.Nodup) : (r.map (fun (n : Nat) => (n : Int))).Nodup := by
  rw [List.nodup_iff_pairwise_ne] at *
  rw [List.pairwise_map]
  exact h.imp fun hne e => hne (by omega)
theorem rgL_perm {l : List Int} (h : NodesP l) : ((rgL l).map (fun (n : Nat) => (n : Int))).Perm l :=
  (List.perm_ext_iff_of_nodup (map_cast_nodup (rgL_nodup l)) (nodes_nodup h)).2 fun _ => rgL_mem h
theorem rgL_len {l : List Int} (h : NodesP l) : (rgL l).length = l.length := by
  have := (rgL_perm h).length_eq
  simpa using this
/-- How two that stand on the ring stand to one another. -/
def cfS (x y : Int × Int) : Int := if x.2 < y.2 then -1 else if y.2 < x.2 then 1 else if x.1 < y.1 then -1 else if y.1 < x.1 then 1 else 0
/-- What is sorted by the points is the ring. -/
theorem sorted_ring {l : List Int} (h : NodesP l) {D : List (Int × Int)} (hp : D.Perm (l.map fun x => (x, (pt x.toNat : Int)))) (hs : D.Pairwise fun a b => ¬ cfS b a < 0) : D = (rgL l).map st := by
  have hp2 : D.Perm ((rgL l).map st) := by
    refine hp.trans ?_
    have := ((rgL_perm h).symm).map (fun x : Int => (x, (pt x.toNat : Int)))
    rw [List.map_map] at this
    exact this
  refine List.Perm.eq_of_pairwise (le := fun a b => ¬ cfS b a < 0) ?_ hs ?_ hp2
  · intro a b _ _ h1 h2
    obtain ⟨a1, a2⟩ := a
    obtain ⟨b1, b2⟩ := b
    unfold cfS at h1 h2
    simp only at h1 h2
    rw [Prod.mk.injEq]
    split at h1 <;> split at h2 <;> simp_all <;> omega
  · rw [List.pairwise_map]
    refine (rgL_sorted l).imp ?_
    intro a b hab
    unfold cfS st
    simp only
    rw [if_neg (by omega), if_pos (by omega)]
    decide
/-- A key's heirs. -/
def hsL (key : Nat) (r : List Nat) : List Nat := r.filter (fun n => decide (key ≤ pt n)) ++ r.filter (fun n => decide (pt n < key))
/-- The place of a key's owner. -/
def owI (key : Nat) (r : List Nat) : Nat := if r.any (fun n => decide (key ≤ pt n)) = true then (r.filter (fun n => decide (pt n < key))).length else 0
theorem ring_split (key : Nat) : ∀ (r : List Nat), r.Pairwise (fun a b => pt a < pt b) → r = r.filter (fun n => decide (pt n < key)) ++ r.filter (fun n => decide (key ≤ pt n))
  | [], _ => rfl
  | a :: r, h => by
    have ih := ring_split key r (List.Pairwise.of_cons h)
    have ha : ∀ b ∈ r, pt a < pt b := fun b hb => List.rel_of_pairwise_cons h hb
    by_cases hk : pt a < key
    · rw [List.filter_cons_of_pos (by simpa using hk), List.filter_cons_of_neg (by simp; omega), List.cons_append, ← ih]
    · have e1 : r.filter (fun n => decide (pt n < key)) = [] := by
        rw [List.filter_eq_nil_iff]
        intro b hb
        have := ha b hb
        simp
        omega
      rw [List.filter_cons_of_neg (by simpa using hk), List.filter_cons_of_pos (by simp; omega), e1, List.nil_append]
      rw [e1, List.nil_append] at ih
      rw [← ih]
theorem hsL_len (key : Nat) (r : List Nat) (h : r.Pairwise (fun a b => pt a < pt b)) : (hsL key r).length = r.length := by
  have := congrArg List.length (ring_split key r h)
  unfold hsL
  rw [List.length_append] at *
  omega
theorem any_of {key : Nat} {r : List Nat} : r.any (fun n => decide (key ≤ pt n)) = true ↔ r.filter (fun n => decide (key ≤ pt n)) ≠ [] := by
  rw [List.any_eq_true, Ne, List.filter_eq_nil_iff]
  constructor
  · rintro ⟨x, hx, h⟩ hn
    exact hn x hx h
  · intro hn
    apply Classical.byContradiction
    intro hh
    exact hn fun a ha hk => hh ⟨a, ha, hk⟩
theorem owI_lt (key : Nat) (r : List Nat) (h : r.Pairwise (fun a b => pt a < pt b)) (h0 : 0 < r.length) : owI key r < r.length := by
  unfold owI
  split
  · rename_i ha
    have h1 := List.length_pos_iff.2 (any_of.1 ha)
    have := congrArg List.length (ring_split key r h)
    rw [List.length_append] at this
    omega
  · exact h0
/-- From the owner on, round the ring, the heirs stand. -/
theorem heir_at (key : Nat) (r : List Nat) (h : r.Pairwise (fun a b => pt a < pt b)) (i : Nat) (hi : i < r.length) : r[(owI key r + i) % r.length]? = (hsL key r)[i]? := by
  have hsp := ring_split key r h
  unfold owI hsL
  generalize hA : r.filter (fun n => decide (pt n < key)) = A at *
  generalize hB : r.filter (fun n => decide (key ≤ pt n)) = B at *
  have hl : r.length = A.length + B.length := by rw [hsp, List.length_append]
  split
  · by_cases hb : i < B.length
    · rw [Nat.mod_eq_of_lt (by omega), List.getElem?_append_left hb]
      conv => lhs; rw [hsp]
      rw [List.getElem?_append_right (by omega)]
      congr 1
      omega
    · have e : (A.length + i) % r.length = i - B.length := by
        rw [Nat.mod_eq_sub_mod (by omega), Nat.mod_eq_of_lt (by omega)]
        omega
      rw [e, List.getElem?_append_right (by omega)]
      conv => lhs; rw [hsp]
      rw [List.getElem?_append_left (by omega)]
  · rename_i ha
    have hB0 : B = [] := by
      apply Classical.byContradiction
      intro hn
      exact ha (any_of.2 (by rw [hB]; exact hn))
    subst hB0
    rw [Nat.zero_add, Nat.mod_eq_of_lt hi, List.nil_append]
    conv => lhs; rw [hsp]
    rw [List.append_nil]
theorem owner_at (key : Nat) (r : List Nat) (h : r.Pairwise (fun a b => pt a < pt b)) (h0 : 0 < r.length) : r[owI key r]? = (hsL key r)[0]? := by
  have := heir_at key r h 0 h0
  rwa [Nat.add_zero, Nat.mod_eq_of_lt (owI_lt key r h h0)] at this
theorem hsL_perm (key : Nat) (r : List Nat) (h : r.Pairwise (fun a b => pt a < pt b)) : (hsL key r).Perm r := by
  have := ring_split key r h
  conv => rhs; rw [this]
  unfold hsL
  exact List.perm_append_comm
/-- What slices.IndexFunc finds. -/
theorem idx_owner (key : Nat) (r : List Nat) (h : r.Pairwise (fun a b => pt a < pt b)) : max (idxBy (fun _ (y : Int × Int) => decide ((key : Int) ≤ y.2)) (r.map st) default) 0 = (owI key r : Int) := by
  have hsp := ring_split key r h
  unfold owI
  generalize hA : r.filter (fun n => decide (pt n < key)) = A at *
  generalize hB : r.filter (fun n => decide (key ≤ pt n)) = B at *
  have hAm : ∀ a ∈ A, pt a < key := fun a ha => by
    rw [← hA] at ha
    simpa using (List.mem_filter.1 ha).2
  have hBm : ∀ a ∈ B, key ≤ pt a := fun a ha => by
    rw [← hB] at ha
    simpa using (List.mem_filter.1 ha).2
  have gen : ∀ (A : List Nat) (i : Nat), (∀ a ∈ A, pt a < key) → idxByFrom (fun _ (y : Int × Int) => decide ((key : Int) ≤ y.2)) default ((A ++ B).map st) i = if B = [] then -1 else ((i + A.length : Nat) : Int) := by
    intro A
    induction A with
    | nil =>
      intro i _
      cases B with
      | nil => rfl
      | cons b B =>
        have := hBm b (by simp)
        rw [List.nil_append, List.map_cons, idxByFrom, if_pos (by simp [st]; omega), if_neg (by simp)]
        simp
    | cons a A ih =>
      intro i hh
      have := hh a (by simp)
      rw [List.cons_append, List.map_cons, idxByFrom, if_neg (by simp [st]; omega), ih (i + 1) (fun b hb => hh b (List.mem_cons_of_mem _ hb))]
      split
      · rfl
      · rw [List.length_cons]; congr 1; omega
  unfold idxBy
  conv => lhs; rw [hsp]
  rw [gen A 0 hAm]
  by_cases hB0 : B = []
  · rw [if_pos hB0, if_neg (fun ha => any_of.1 ha (hB.trans hB0))]
    rfl
  · rw [if_neg hB0, if_pos (any_of.2 (fun e => hB0 (hB.symm.trans e)))]
    omega
end Go.Proofs.YthdbnlpbidkojaaDoor
