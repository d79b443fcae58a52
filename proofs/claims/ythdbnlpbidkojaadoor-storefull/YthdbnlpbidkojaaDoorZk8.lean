/- slices.Clone at names; a type in memory: walks. -/
import Derived.Test.YthdbnlpbidkojaaDoorZk7
import Derived.Test.YthdbnlpbidkojaaDoorZk4
import Derived.Test.YthdbnlpbidkojaaDoorZk5
namespace Go.Proofs.YthdbnlpbidkojaaDoor
open Go.RowKit Go.ChangeMaps

theorem sVals_len (l : List ByteArray) : (sVals l).length = l.length * 1 := by simp [sVals]
theorem oneS_cell (l : List ByteArray) : ∀ u ∈ sVals l, u.oneCell' = true := by
  intro u hu
  obtain ⟨x, -, rfl⟩ := List.mem_map.1 hu
  rfl
theorem sVals_app (a b : List ByteArray) : sVals (a ++ b) = sVals a ++ sVals b := by simp [sVals]
/-- A row of names is appended to one that is owned. -/
theorem wpl_sts (w : World) {ops : Array Oper} {rest : List Oper} {o : Oper} {a : Act} {Q : Exit → Act → World → Prop} (hgd : o.guard = none) (s x : Operand)
    (ho : o.op = .call { callee := .builtin .append, args := #[s, x], argTypes := #[27, 27] })
    (base : Nat) (v xv : Value) (l news : List ByteArray) (hs : a.eval s = v) (hx : a.eval x = xv) (h : w.ownsRow base 9 1 v l.length (sVals l)) (hr : IsRow w 1 xv news.length (sVals news)) (hl : l.length + news.length ≤ 1000000) (hbase : base ≤ w.heap.size)
    (hk : ∀ v' w', w'.ownsRow base 9 1 v' (l ++ news).length (sVals (l ++ news)) → Below base w w' → wpList Tryd.prog ops Q rest (a.put o.dst v') w') : wpList Tryd.prog ops Q (o :: rest) a w := by
  obtain ⟨i0, hi0, hz0, hz1, hz2⟩ := info_parts info_st
  rcases hr.2 with ⟨h0, xa, xc, rfl⟩ | ⟨b, off, cap, rfl, hb, hc, hm, hcell⟩
  · refine wpList_plain hgd fun K hK => ?_
    have hn : news = [] := List.eq_nil_of_length_eq_zero h0
    subst hn
    have hv : ∃ va vc, v = .slice va l.length vc ∧ l.length ≤ vc := by
      rcases h.2 with ⟨rfl, h1⟩ | ⟨g, cap, cur, rfl, _, _, hlc, _⟩
      · rw [h1]; exact ⟨none, 0, rfl, Nat.le_refl _⟩
      · exact ⟨_, cap, rfl, hlc⟩
    obtain ⟨va, vc, rfl, hvc⟩ := hv
    have hrun := run_app0S (P := Tryd.prog) w 27 o.type 9 i0 Tryd.underlying27 hi0 va l.length vc hvc xa xc
    unfold Oper.wp execOp
    simp only [ho, resolve, invoke, builtin, Sem.run_bind, Sem.run_pure, Result.andThen_ok, List.map_toArray, List.map_cons, List.map_nil, hs, hx, hrun]
    exact hK _ _ (hk _ w (by rw [List.append_nil]; exact h) (Below.refl _ _))
  · refine wpList_append_own_at w hgd s x 27 ho base 9 i0 _ 1 16 Tryd.underlying27 hi0 hz0 hz1 hz2 rfl (by decide) v l.length (sVals l) hs h ⟨b, off, none⟩ news.length cap (sVals news) hx (sVals_len _) (fun j u hu => ?_) (oneS_cell _) (by unfold maxLen; omega) (by omega) hbase fun v' w' h1 h2 _ h4 => hk v' w' ?_ ?_
    · have hadd : (⟨b, off, none⟩ : Addr).add j = ⟨b, off + j, none⟩ := by unfold Addr.add; split <;> simp_all
      rw [hadd]; exact hcell j u hu
    · rw [List.length_append, sVals_app]; exact h1
    · exact (Below.refl _ _).grown h2 hbase (fun k hk => (h.lt k hk).1)
def ClS (l : List ByteArray) (w : World) (e : Ending) (w' : World) : Prop := ∃ v, e = .returned v ∧ w'.ownsRow w.heap.size 9 1 v l.length (sVals l) ∧ Below w.heap.size w w'
set_option maxRecDepth 100000 in
set_option maxHeartbeats 1000000 in
theorem cloneS_any (v : Value) (l : List ByteArray) (w : World) (hr : IsRow w 1 v l.length (sVals l)) (hl : l.length ≤ 1000) :
    Calls Tryd.prog 47 #[v] w fun e w' => ClS l w e w' := by
  obtain ⟨a0, cap0, rfl⟩ := hr.form
  cases a0 with
  | none =>
    have hn : l.length = 0 := by
      rcases hr.2 with ⟨h, -⟩ | ⟨b, off, cap, hv, -⟩
      · exact h
      · cases hv
    obtain rfl : l = [] := List.eq_nil_of_length_eq_zero hn
    have heq : ∀ w, (binOp BinOp.eql 27 (.slice none 0 cap0) (.slice none 0 0)).run Tryd.prog w = .ok (.bool true) w := fun w => by kernel_rfl
    clear hr hn
    go_enter Tryd.func47, Tryd.ntmps47
    go_wp2
    go_ret
    exact ⟨_, rfl, ⟨rfl, .inl ⟨rfl, rfl⟩⟩, Below.refl _ _⟩
  | some a =>
    have HW : Hid ((w.alloc (.cells #[] 9)).ownsRow w.heap.size 9 1 (.slice (some ⟨w.heap.size, 0, none⟩) 0 0) ([] : List ByteArray).length (sVals [])) := ⟨rfl, .inr ⟨w.heap.size, 0, #[], rfl, Nat.le_refl _, new_at w _, Nat.le_refl _, Nat.zero_le _, rfl, rfl⟩⟩
    have HB : Hid (Below w.heap.size w (w.alloc (.cells #[] 9))) := al_b w _
    have HR : Hid (IsRow (w.alloc (.cells #[] 9)) 1 (.slice (some a) l.length cap0) l.length (sVals l)) := hr.below (al_b w _)
    have heq : ∀ w, (binOp BinOp.eql 27 (.slice (some a) l.length cap0) (.slice none 0 0)).run Tryd.prog w = .ok (.bool false) w := fun w => by kernel_rfl
    clear hr
    go_enter Tryd.func47, Tryd.ntmps47
    go_wp2_with (at_builtin; go_loud (refine wpl_sts (w.alloc (.cells #[] 9)) rfl (.tmp 5) (.tmp 6) rfl w.heap.size (.slice (some ⟨w.heap.size, 0, none⟩) 0 0) (.slice (some a) l.length cap0) [] l rfl rfl HW.out HR.out (by simp; omega) (by simp) ?_; intro v4 w4 hown4 hb4))
    rw [List.nil_append] at hown4
    have HO : Hid (w4.ownsRow w.heap.size 9 1 v4 l.length (sVals l)) := hown4
    have HB4 : Hid (Below w.heap.size w w4) := HB.out.trans hb4
    clear hown4 hb4 HW HR
    go_wp2
    go_ret
    exact ⟨_, rfl, HO.out, HB4.out⟩
/-- A type whose rows are owned. -/
def OwnTy (base : Nat) (w : World) (t : Ty) (vo va vc : Value) : Prop := w.ownsRow base 61 3 vo t.own.length (fCells t.own) ∧ w.ownsRow base 61 3 va t.all.length (fCells t.all) ∧ w.ownsRow base 9 1 vc t.ch.length (sVals t.ch)
theorem OwnTy.is {base : Nat} {w : World} {t : Ty} {vo va vc : Value} (h : OwnTy base w t vo va vc) : IsTy w t vo va vc := ⟨IsRow.own h.1, IsRow.own h.2.1, IsRow.own h.2.2⟩
def CpT (t : Ty) (w : World) (e : Ending) (w' : World) : Prop := ∃ vo va vc, e = .returned (tyV t vo va vc) ∧ OwnTy w.heap.size w' t vo va vc ∧ Below w.heap.size w w'
theorem own_leT {w : World} {base base' : Nat} {e : TypeId} {sz : Nat} {v : Value} {n : Nat} {xs : List Value} (h : w.ownsRow base e sz v n xs) (hb : base' ≤ base) : w.ownsRow base' e sz v n xs :=
  ⟨h.1, h.2.imp id fun ⟨g, cap, cur, a, b, c⟩ => ⟨g, cap, cur, a, Nat.le_trans hb b, c⟩⟩
theorem below_udT {w w2 : World} (h : Below w.drew.heap.size w.drew w2) : Below w.heap.size w w2 := ⟨h.os, h.tape, h.output, h.size, h.block⟩
abbrev zTyA : Array Value := #[.string ⟨#[]⟩, .string ⟨#[]⟩, .slice none 0 0, .slice none 0 0, .slice none 0 0, .int .i64 0, .int .i64 0, .int .i64 0]
/-- The box of a type, cell by cell. -/
def BxT (g : Nat) (t : Ty) (vo va vc : Value) (w : World) : Prop := (w.cell? ⟨g, 0, none⟩ = some (.string t.n) ∧ w.cell? ⟨g, 1, none⟩ = some (.string t.p) ∧ w.cell? ⟨g, 2, none⟩ = some vo ∧ w.cell? ⟨g, 3, none⟩ = some va) ∧ w.cell? ⟨g, 4, none⟩ = some vc ∧ w.cell? ⟨g, 5, none⟩ = some (.int .i64 t.nd) ∧ w.cell? ⟨g, 6, none⟩ = some (.int .i64 t.lf) ∧ w.cell? ⟨g, 7, none⟩ = some (.int .i64 t.sq)
theorem BxT.of {g : Nat} {t : Ty} {vo va vc : Value} {w : World} (h : w.heap[g]? = some (.cells (tyA t vo va vc) 29 (0, 0))) : BxT g t vo va vc w := by
  have c : ∀ j, w.cell? ⟨g, j, none⟩ = (tyA t vo va vc)[j]? := fun j => by rw [Lib.cell_of_heap h]
  exact ⟨⟨c 0, c 1, c 2, c 3⟩, c 4, c 5, c 6, c 7⟩
theorem BxT.set {g : Nat} {t : Ty} {vo va vc : Value} {w : World} (h : BxT g t vo va vc w) (v1 v2 v3 : Value) : BxT g t v1 v2 v3 (((w.setCell ⟨g, 2, none⟩ v1).setCell ⟨g, 3, none⟩ v2).setCell ⟨g, 4, none⟩ v3) := by
  have o : ∀ (w : World) (i j : Nat) (v : Value), i ≠ j → (w.setCell ⟨g, i, none⟩ v).cell? ⟨g, j, none⟩ = w.cell? ⟨g, j, none⟩ := fun w i j v hij => World.cell?_setCell_other _ _ _ _ (by simp only [ne_eq, Addr.mk.injEq, not_and]; intro _ e; omega)
  obtain ⟨⟨c0, c1, c2, c3⟩, c4, c5, c6, c7⟩ := h
  refine ⟨⟨?_, ?_, ?_, ?_⟩, ?_, ?_, ?_, ?_⟩
  · rw [o _ _ _ _ (by decide), o _ _ _ _ (by decide), o _ _ _ _ (by decide)]; exact c0
  · rw [o _ _ _ _ (by decide), o _ _ _ _ (by decide), o _ _ _ _ (by decide)]; exact c1
  · rw [o _ _ _ _ (by decide), o _ _ _ _ (by decide)]; exact World.cell?_setCell_same _ _ _ c2
  · rw [o _ _ _ _ (by decide)]; exact World.cell?_setCell_same _ _ _ ((o _ _ _ _ (by decide)).trans c3)
  · exact World.cell?_setCell_same _ _ _ ((o _ _ _ _ (by decide)).trans ((o _ _ _ _ (by decide)).trans c4))
  · rw [o _ _ _ _ (by decide), o _ _ _ _ (by decide), o _ _ _ _ (by decide)]; exact c5
  · rw [o _ _ _ _ (by decide), o _ _ _ _ (by decide), o _ _ _ _ (by decide)]; exact c6
  · rw [o _ _ _ _ (by decide), o _ _ _ _ (by decide), o _ _ _ _ (by decide)]; exact c7
theorem BxT.far {g g' : Nat} {t : Ty} {vo va vc : Value} {w : World} (h : BxT g t vo va vc w) (hg : g' ≠ g) (j : Nat) (v : Value) : BxT g t vo va vc (w.setCell ⟨g', j, none⟩ v) := by
  have o : ∀ k, (w.setCell ⟨g', j, none⟩ v).cell? ⟨g, k, none⟩ = w.cell? ⟨g, k, none⟩ := fun k => World.cell?_setCell_other _ _ _ _ (by simp only [ne_eq, Addr.mk.injEq, not_and]; intro e; omega)
  obtain ⟨⟨c0, c1, c2, c3⟩, c4, c5, c6, c7⟩ := h
  exact ⟨⟨(o 0).trans c0, (o 1).trans c1, (o 2).trans c2, (o 3).trans c3⟩, (o 4).trans c4, (o 5).trans c5, (o 6).trans c6, (o 7).trans c7⟩
theorem OwnTy.set {base : Nat} {w : World} {t : Ty} {vo va vc : Value} (h : OwnTy base w t vo va vc) {g : Nat} (hg : g < base) (j : Nat) (v : Value) : OwnTy base (w.setCell ⟨g, j, none⟩ v) t vo va vc :=
  ⟨ownsRow_setCell_below h.1 hg v, ownsRow_setCell_below h.2.1 hg v, ownsRow_setCell_below h.2.2 hg v⟩
theorem OwnTy.le {base base' : Nat} {w : World} {t : Ty} {vo va vc : Value} (h : OwnTy base w t vo va vc) (hb : base' ≤ base) : OwnTy base' w t vo va vc := ⟨own_leT h.1 hb, own_leT h.2.1 hb, own_leT h.2.2 hb⟩
end Go.Proofs.YthdbnlpbidkojaaDoor
/- Rows of types; slices.BinarySearchFunc at them, place, parentOf: walks. -/
namespace Go.Proofs.YthdbnlpbidkojaaDoor
open Go.RowKit Go.ChangeMaps

/-- A type that lies somewhere: where its rows are. -/
structure LT where
  t : Ty
  ao : Option Addr
  co : Nat
  aa : Option Addr
  ca : Nat
  ac : Option Addr
  cc : Nat
abbrev LT.vo (x : LT) : Value := .slice x.ao x.t.own.length x.co
abbrev LT.va (x : LT) : Value := .slice x.aa x.t.all.length x.ca
abbrev LT.vc (x : LT) : Value := .slice x.ac x.t.ch.length x.cc
def enT (x : LT) : List Value := [.string x.t.n, .string x.t.p, x.vo, x.va, x.vc, .int .i64 x.t.nd, .int .i64 x.t.lf, .int .i64 x.t.sq]
abbrev ltV (x : LT) : Value := tyV x.t x.vo x.va x.vc
def tCells (L : List LT) : List Value := L.flatMap enT
def tys (L : List LT) : List Ty := L.map LT.t
theorem tys_len (L : List LT) : (tys L).length = L.length := by simp [tys]
theorem tys_at (L : List LT) (k : Nat) (h : k < L.length) : (tys L)[k]'(by rw [tys_len]; exact h) = L[k].t := by simp [tys]
/-- Types in memory. -/
def IsTys (w : World) (v : Value) (L : List LT) : Prop := IsRow w 8 v L.length (tCells L) ∧ ∀ x ∈ L, IsTy w x.t x.vo x.va x.vc
theorem IsTys.below {w w' : World} {v : Value} {L : List LT} (h : IsTys w v L) (hb : Below w.heap.size w w') : IsTys w' v L := ⟨h.1.below hb, fun x hx => (h.2 x hx).below hb⟩
theorem tCells_len (L : List LT) : (tCells L).length = L.length * 8 := by
  induction L with
  | nil => rfl
  | cons d D ih => unfold tCells at *; rw [List.flatMap_cons, List.length_append, ih, List.length_cons]; show 8 + _ = _; omega
theorem tCells_app (a b : List LT) : tCells (a ++ b) = tCells a ++ tCells b := by simp [tCells]
theorem tCells_get : ∀ (L : List LT) (k : Nat) (hk : k < L.length) (j : Nat), j < 8 → (tCells L)[k * 8 + j]? = (enT L[k])[j]?
  | [], k, hk, _, _ => absurd hk (by simp)
  | d :: L, 0, _, j, hj => by
    unfold tCells
    rw [List.flatMap_cons, Nat.zero_mul, Nat.zero_add, List.getElem?_append_left (by exact hj)]
    rfl
  | d :: L, k + 1, hk, j, hj => by
    have ih := tCells_get L k (by simpa using hk) j hj
    unfold tCells at *
    rw [List.flatMap_cons, show (k + 1) * 8 + j = 8 + (k * 8 + j) by omega, List.getElem?_append_right (by show 8 ≤ _; omega), show 8 + (k * 8 + j) - (enT d).length = k * 8 + j by show 8 + (k * 8 + j) - 8 = _; omega, ih]
    simp
/-- A row of types, the k-th one's cells as the walk asks for them. -/
theorem t_at {w : World} {a : Option Addr} {n cap : Nat} {L : List LT} (h : IsRow w 8 (.slice a n cap) L.length (tCells L)) (h0 : 0 < L.length) :
    ∃ b off, a = some ⟨b, off, none⟩ ∧ b < w.heap.size ∧ n = L.length ∧ L.length ≤ cap ∧ ∀ (k : Nat) (hk : k < L.length), (w.cell? ⟨b, off + k * 8, none⟩ = some (.string L[k].t.n) ∧ w.cell? ⟨b, off + k * 8 + 1, none⟩ = some (.string L[k].t.p) ∧ w.cell? ⟨b, off + k * 8 + 2, none⟩ = some L[k].vo ∧ w.cell? ⟨b, off + k * 8 + 3, none⟩ = some L[k].va) ∧ w.cell? ⟨b, off + k * 8 + 4, none⟩ = some L[k].vc ∧ w.cell? ⟨b, off + k * 8 + 5, none⟩ = some (.int .i64 L[k].t.nd) ∧ w.cell? ⟨b, off + k * 8 + 6, none⟩ = some (.int .i64 L[k].t.lf) ∧ w.cell? ⟨b, off + k * 8 + 7, none⟩ = some (.int .i64 L[k].t.sq) := by
  obtain ⟨b, off, cap', hv, hlt, q1, q2, hc⟩ := h.open (by omega)
  simp only [Value.slice.injEq] at hv
  have key : ∀ (k : Nat) (hk : k < L.length) (j : Nat) (u : Value), j < 8 → (enT L[k])[j]? = some u → w.cell? ⟨b, off + k * 8 + j, none⟩ = some u := fun k hk j u hj hu => by
    have := hc (k * 8 + j) u (by rw [tCells_get L k hk j hj]; exact hu)
    rwa [← Nat.add_assoc] at this
  refine ⟨b, off, hv.1, hlt, hv.2.1, by omega, fun k hk => ⟨⟨?_, ?_, ?_, ?_⟩, ?_, ?_, ?_, ?_⟩⟩
  · have := key k hk 0 _ (by omega) rfl
    simpa using this
  · exact key k hk 1 _ (by omega) rfl
  · exact key k hk 2 _ (by omega) rfl
  · exact key k hk 3 _ (by omega) rfl
  · exact key k hk 4 _ (by omega) rfl
  · exact key k hk 5 _ (by omega) rfl
  · exact key k hk 6 _ (by omega) rfl
  · exact key k hk 7 _ (by omega) rfl
/-- Types are not too great to be looked at. -/
def NmL (L : List LT) : Prop := ∀ x ∈ L, NmT x.t
def PlP (L : List LT) (s : ByteArray) (w : World) (e : Ending) (w' : World) : Prop := e = .returned (.tuple #[.int .i64 (plcN (tys L) s : Int), .bool (parN (tys L) s).isSome]) ∧ Below w.heap.size w w'
theorem plP_at {L : List LT} {s : ByteArray} {w w' : World} {k : Nat} {b : Bool} (hR : Rise (tys L)) (hk : k ≤ L.length) (h1 : ∀ (t : Nat) (h : t < L.length), t < k → nmC L[t].t s < 0) (h2 : ∀ (t : Nat) (h : t < L.length), k ≤ t → ¬ nmC L[t].t s < 0) (hb : b = true ↔ ∃ h : k < L.length, nmC L[k].t s = 0) (hB : Below w.heap.size w w') : PlP L s w (.returned (.tuple #[.int .i64 (k : Int), .bool b])) w' := by
  have e : plcN (tys L) s = k := plc_at (tys L) s k (by rw [tys_len]; exact hk) (fun t h ht => by rw [tys_len] at h; rw [tys_at L t h]; exact h1 t h ht) (fun h => by rw [tys_len] at h; rw [tys_at L k h]; exact h2 k h (Nat.le_refl _))
  have e2 : (parN (tys L) s).isSome = b := by
    rw [par_plc hR]
    rw [Bool.eq_iff_iff, hb]
    by_cases h : k < L.length
    · have h' : plcN (tys L) s < (tys L).length := by rw [tys_len, e]; exact h
      rw [dif_pos h']
      have e3 : (tys L)[plcN (tys L) s] = L[k].t := by
        have : (tys L)[plcN (tys L) s]? = some L[k].t := by rw [e, List.getElem?_eq_getElem (by rw [tys_len]; exact h), tys_at L k h]
        exact Option.some.inj ((List.getElem?_eq_getElem h').symm.trans this)
      rw [e3]
      by_cases h0 : nmC L[k].t s = 0
      · rw [if_pos h0]; exact ⟨fun _ => ⟨h, h0⟩, fun _ => rfl⟩
      · rw [if_neg h0]; exact ⟨(fun h => by cases h), fun ⟨_, h⟩ => absurd h h0⟩
    · rw [dif_neg (by rw [tys_len, e]; exact h)]
      exact ⟨(fun h => by cases h), fun ⟨h', _⟩ => absurd h' h⟩
  unfold PlP
  rw [e, e2]
  exact ⟨rfl, hB⟩
end Go.Proofs.YthdbnlpbidkojaaDoor
/- schema.Merge at any fields; slices.Equal at names: walks. -/
namespace Go.Proofs.YthdbnlpbidkojaaDoor
open Go.RowKit Go.ChangeMaps

def MgA (l a : List Fd) (w : World) (e : Ending) (w' : World) : Prop := ∃ s c, e = .returned (.tuple #[.slice s (mgL l a).1.length c, .int .i64 (mgL l a).2]) ∧ IsRow w' 3 (.slice s (mgL l a).1.length c) (mgL l a).1.length (fCells (mgL l a).1) ∧ NewA w.heap.size s ∧ Below w.heap.size w w'
theorem NewA.none (b : Nat) : NewA b none := fun _ e => nomatch e
theorem sameS_no {a l : List ByteArray} {k : Nat} (h : k < a.length) (h2 : k < l.length) (he : a[k] ≠ l[k]) : sameS a l = false := by
  unfold sameS
  rw [decide_eq_false_iff_not]
  rintro rfl
  exact he rfl
set_option maxRecDepth 100000 in
set_option maxHeartbeats 2000000 in
theorem equalS_any (v u : Value) (a l : List ByteArray) (w : World) (hq : IsRow w 1 v a.length (sVals a)) (hr : IsRow w 1 u l.length (sVals l)) (hal : a.length ≤ 1000000) (hl : l.length ≤ 1000000) :
    Calls Tryd.prog 36 #[v, u] w fun e w' => e = .returned (.bool (sameS a l)) ∧ Below w.heap.size w w' := by
  obtain ⟨a0, cap0, rfl⟩ := hq.form
  obtain ⟨a1, cap1, rfl⟩ := hr.form
  have HQ : Hid (∀ w', Below w.heap.size w w' → IsRow w' 1 (.slice a0 a.length cap0) a.length (sVals a)) := fun w' h => hq.below h
  have HR : Hid (∀ w', Below w.heap.size w w' → IsRow w' 1 (.slice a1 l.length cap1) l.length (sVals l)) := fun w' h => hr.below h
  clear hq hr
  by_cases hln : a.length = l.length
  rotate_left
  · have e0 : sameS a l = false := by unfold sameS; rw [decide_eq_false_iff_not]; intro e; exact hln (by rw [e])
    have dn : ((a.length : Int) != (l.length : Int)) = true := by rw [bne_iff_ne]; omega
    rw [e0]
    go_enter Tryd.func36, Tryd.ntmps36
    go_wp2
    go_ret
    exact ⟨rfl, Below.refl _ _⟩
  have dn : ((a.length : Int) != (l.length : Int)) = false := by rw [hln]; simp
  have HL : Hid (a.length = l.length) := hln
  clear hln
  go_enter Tryd.func36, Tryd.ntmps36
  go_wp2_with fail
  go_loopw [4, 13] (fun r i wr => r = .bool false ∧ ∃ k : Nat, k ≤ a.length ∧ i = .int .i64 (k : Int) ∧ Hid (∀ (j : Nat) (h : j < a.length) (h2 : j < l.length), j < k → a[j] = l[j]) ∧ Hid (Below w.heap.size w wr)) (fun _ i _ => a.length - (intOf i).toNat)
  case atStart => exact ⟨rfl, 0, Nat.zero_le _, rfl, fun j h h2 hj => absurd hj (Nat.not_lt_zero _), Below.refl _ _⟩
  case round =>
    obtain ⟨rfl, k, hk, rfl, HO, HB⟩ := hrel
    by_cases hlk : k < a.length
    · have hlk2 : k < l.length := by have := HL.out; omega
      have dk : decide ((k : Int) < a.length) = true := by simp; omega
      obtain ⟨b, off, rfl, -, hlt, hcap, hc⟩ := s_at (HQ.out wr HB.out) (by omega)
      obtain ⟨b', off', rfl, -, hlt', hcap', hc'⟩ := s_at (HR.out wr HB.out) (by omega)
      have ck0 := hc k hlk
      have dk0 := hc' k hlk2
      have HO2 : Hid (a[k] = l[k] → ∀ (j : Nat) (h : j < a.length) (h2 : j < l.length), j < k + 1 → a[j] = l[j]) := fun hs j h h2 hj => by
        by_cases e : j = k
        · subst e; exact hs
        · exact HO.out j h h2 (by omega)
      have HN : Hid (a[k] ≠ l[k] → sameS a l = false) := sameS_no hlk hlk2
      generalize a[k]'hlk = x at *
      generalize l[k]'hlk2 = y at *
      have q1 : (0 : Int) ≤ (k : Int) := by omega
      have q2 : (k : Int) < (a.length : Int) := by omega
      have q3 : (k : Int) < (l.length : Int) := by omega
      have eS := strNe x y
      have eS' := strEqB x y
      have HBd : Hid (∀ q, Below w.heap.size w (wr.drewN q)) := fun q => ⟨HB.out.os, HB.out.tape, HB.out.output, HB.out.size, HB.out.block⟩
      clear hc hc' HO
      by_cases he : x = y
      · rw [decide_eq_true he] at eS eS'
        have HO3 : Hid (∀ (j : Nat) (h : j < a.length) (h2 : j < l.length), j < k + 1 → a[j] = l[j]) := HO2.out he
        clear HN HO2 he
        go_wp2_with fail
        go_quiet (fail)
        go_wp2
        go_roundw
        case rel => exact ⟨rfl, k + 1, by omega, by simp, HO3, HBd.out _⟩
        case measure => simp [intOf]; omega
      · rw [decide_eq_false he] at eS eS'
        have HN2 : Hid (sameS a l = false) := HN.out he
        clear HN HO2 he
        go_wp2_with fail
        go_quiet (fail)
        go_wp2
        go_ret
        exact ⟨by rw [HN2.out]; rfl, HBd.out _⟩
    · have hk' : k = a.length := by omega
      subst hk'
      have dk : decide ((a.length : Int) < a.length) = false := by simp
      have HY : Hid (sameS a l = true) := by
        show _ = _
        unfold sameS
        rw [decide_eq_true_eq]
        exact List.ext_getElem HL.out fun j h h2 => HO.out j h h2 h
      clear HO
      go_wp2
      go_ret
      exact ⟨by rw [HY.out]; rfl, HB.out⟩
end Go.Proofs.YthdbnlpbidkojaaDoor
/- forest.parentOf, isBelow: walks. -/
namespace Go.Proofs.YthdbnlpbidkojaaDoor
open Go.RowKit Go.ChangeMaps

theorem results_c2 {fn : Func} {p q : Tmp} {ty : TypeId} (h : fn.results = #[.cell p ty, .tmp q]) (tmps : Array Value) (P : Program) (w : World) :
    (results fn tmps).run P w = ((asAddr (tmps.getD p undef)).run P w).andThen fun a w₁ => ((loadVar ty a).run P w₁).andThen fun v w₂ => .ok (.tuple #[v, tmps.getD q undef]) w₂ := by
  simp only [results, h]
  simp [Sem.run_bind, Result.andThen]
theorem below8 {B g : Nat} {w w' : World} (h : Below B w w') (hg : B ≤ g) (u0 u1 u2 u3 u4 u5 u6 u7 : Value) : Below B w ((((((((w'.setCell ⟨g, 0, none⟩ u0).setCell ⟨g, 1, none⟩ u1).setCell ⟨g, 2, none⟩ u2).setCell ⟨g, 3, none⟩ u3).setCell ⟨g, 4, none⟩ u4).setCell ⟨g, 5, none⟩ u5).setCell ⟨g, 6, none⟩ u6).setCell ⟨g, 7, none⟩ u7) :=
  (((((((h.setCell (p := ⟨g, 0, none⟩) hg u0).setCell (p := ⟨g, 1, none⟩) hg u1).setCell (p := ⟨g, 2, none⟩) hg u2).setCell (p := ⟨g, 3, none⟩) hg u3).setCell (p := ⟨g, 4, none⟩) hg u4).setCell (p := ⟨g, 5, none⟩) hg u5).setCell (p := ⟨g, 6, none⟩) hg u6).setCell (p := ⟨g, 7, none⟩) hg u7
/-- No type. -/
def zLT : LT := ⟨zT, none, 0, none, 0, none, 0⟩
def PaP (L : List LT) (s : ByteArray) (w : World) (e : Ending) (w' : World) : Prop := ∃ y : LT, e = .returned (.tuple #[ltV y, .bool (parN (tys L) s).isSome]) ∧ ((parN (tys L) s = none ∧ y = zLT) ∨ (y ∈ L ∧ parN (tys L) s = some y.t)) ∧ Below w.heap.size w w'
theorem PaP.zero {L : List LT} {s : ByteArray} {w w' : World} (h : (parN (tys L) s).isSome = false) (hb : Below w.heap.size w w') : PaP L s w (.returned (.tuple #[tyV zT (.slice none 0 0) (.slice none 0 0) (.slice none 0 0), .bool false])) w' := by
  refine ⟨zLT, ?_, .inl ⟨by simpa using h, rfl⟩, hb⟩
  rw [h]
  rfl
/-- What stands at the place. -/
theorem par_plcL {L : List LT} {s : ByteArray} (hR : Rise (tys L)) (h : (parN (tys L) s).isSome = true) : ∃ hk : plcN (tys L) s < L.length, parN (tys L) s = some L[plcN (tys L) s].t := by
  have e := par_plc hR s
  by_cases h1 : plcN (tys L) s < (tys L).length
  · have h1' : plcN (tys L) s < L.length := by rwa [tys_len] at h1
    rw [dif_pos h1] at e
    by_cases h2 : nmC (tys L)[plcN (tys L) s] s = 0
    · rw [if_pos h2, tys_at L _ h1'] at e
      exact ⟨h1', e⟩
    · rw [if_neg h2] at e
      rw [e] at h
      cases h
  · rw [dif_neg h1] at e
    rw [e] at h
    cases h
end Go.Proofs.YthdbnlpbidkojaaDoor
/- Types whose rows lie behind a block; stores of types. -/
namespace Go.Proofs.YthdbnlpbidkojaaDoor
open Go.RowKit Go.ChangeMaps

/-- A type whose rows lie behind a block. -/
def NewT (base : Nat) (y : LT) : Prop := NewA base y.ao ∧ NewA base y.aa ∧ NewA base y.ac
theorem NewT.le {base base' : Nat} {y : LT} (h : NewT base y) (hb : base' ≤ base) : NewT base' y := ⟨h.1.le hb, h.2.1.le hb, h.2.2.le hb⟩
theorem row_far {w : World} {sz n m c base g : Nat} {a : Option Addr} {xs : List Value} (h : IsRow w sz (.slice a m c) n xs) (hN : NewA base a) (hg : g < base) (j : Nat) (v : Value) : IsRow (w.setCell ⟨g, j, none⟩ v) sz (.slice a m c) n xs := by
  refine ⟨h.1, ?_⟩
  rcases h.2 with h0 | ⟨b, off, cap, hv, hlt, q1, q2, hc⟩
  · exact .inl h0
  · have hb : base ≤ b := by
      simp only [Value.slice.injEq] at hv
      have := hN _ hv.1
      exact this
    refine .inr ⟨b, off, cap, hv, by simpa using hlt, q1, q2, fun k u hu => ?_⟩
    rw [World.cell?_setCell_other _ _ _ _ (by simp only [ne_eq, Addr.mk.injEq, not_and]; intro e; omega)]
    exact hc k u hu
theorem ty_far {w : World} {y : LT} {base g : Nat} (h : IsTy w y.t y.vo y.va y.vc) (hN : NewT base y) (hg : g < base) (j : Nat) (v : Value) : IsTy (w.setCell ⟨g, j, none⟩ v) y.t y.vo y.va y.vc := ⟨row_far h.1 hN.1 hg j v, row_far h.2.1 hN.2.1 hg j v, row_far h.2.2 hN.2.2 hg j v⟩
theorem ty_far8 {w : World} {y : LT} {base g : Nat} (h : IsTy w y.t y.vo y.va y.vc) (hN : NewT base y) (hg : g < base) (u0 u1 u2 u3 u4 u5 u6 u7 : Value) : IsTy ((((((((w.setCell ⟨g, 0, none⟩ u0).setCell ⟨g, 1, none⟩ u1).setCell ⟨g, 2, none⟩ u2).setCell ⟨g, 3, none⟩ u3).setCell ⟨g, 4, none⟩ u4).setCell ⟨g, 5, none⟩ u5).setCell ⟨g, 6, none⟩ u6).setCell ⟨g, 7, none⟩ u7) y.t y.vo y.va y.vc :=
  ty_far (ty_far (ty_far (ty_far (ty_far (ty_far (ty_far (ty_far h hN hg 0 u0) hN hg 1 u1) hN hg 2 u2) hN hg 3 u3) hN hg 4 u4) hN hg 5 u5) hN hg 6 u6) hN hg 7 u7
def MkP (r : Ty × Int) (w : World) (e : Ending) (w' : World) : Prop := ∃ y : LT, e = .returned (.tuple #[ltV y, .int .i64 r.2]) ∧ y.t = r.1 ∧ IsTy w' y.t y.vo y.va y.vc ∧ NewT w.heap.size y ∧ Below w.heap.size w w'
theorem ty_zLT (w : World) : IsTy w zLT.t zLT.vo zLT.va zLT.vc := ⟨IsRow.nil _ _, IsRow.nil _ _, IsRow.nil _ _⟩
theorem new_zLT (b : Nat) : NewT b zLT := ⟨NewA.none _, NewA.none _, NewA.none _⟩
theorem MkP.zero {w w' : World} (n : Int) (h : Below w.heap.size w w') : MkP (zT, n) w (.returned (.tuple #[tyV zT (.slice none 0 0) (.slice none 0 0) (.slice none 0 0), .int .i64 n])) w' := ⟨zLT, rfl, rfl, ty_zLT _, new_zLT _, h⟩
theorem BxT.put8 {g : Nat} {t0 : Ty} {a0 b0 c0 : Value} {w : World} (h : BxT g t0 a0 b0 c0 w) (t : Ty) (vo va vc : Value) : BxT g t vo va vc ((((((((w.setCell ⟨g, 0, none⟩ (.string t.n)).setCell ⟨g, 1, none⟩ (.string t.p)).setCell ⟨g, 2, none⟩ vo).setCell ⟨g, 3, none⟩ va).setCell ⟨g, 4, none⟩ vc).setCell ⟨g, 5, none⟩ (.int .i64 t.nd)).setCell ⟨g, 6, none⟩ (.int .i64 t.lf)).setCell ⟨g, 7, none⟩ (.int .i64 t.sq)) := by
  have o : ∀ (w : World) (i j : Nat) (v : Value), i ≠ j → (w.setCell ⟨g, i, none⟩ v).cell? ⟨g, j, none⟩ = w.cell? ⟨g, j, none⟩ := fun w i j v hij => World.cell?_setCell_other _ _ _ _ (by simp only [ne_eq, Addr.mk.injEq, not_and]; intro _ e; omega)
  obtain ⟨⟨c0, c1, c2, c3⟩, c4, c5, c6, c7⟩ := h
  refine ⟨⟨?_, ?_, ?_, ?_⟩, ?_, ?_, ?_, ?_⟩
  · rw [o _ 7 0 _ (by decide), o _ 6 0 _ (by decide), o _ 5 0 _ (by decide), o _ 4 0 _ (by decide), o _ 3 0 _ (by decide), o _ 2 0 _ (by decide), o _ 1 0 _ (by decide)]
    exact World.cell?_setCell_same _ _ _ c0
  · rw [o _ 7 1 _ (by decide), o _ 6 1 _ (by decide), o _ 5 1 _ (by decide), o _ 4 1 _ (by decide), o _ 3 1 _ (by decide), o _ 2 1 _ (by decide)]
    exact World.cell?_setCell_same _ _ _ ((o _ 0 1 _ (by decide)).trans c1)
  · rw [o _ 7 2 _ (by decide), o _ 6 2 _ (by decide), o _ 5 2 _ (by decide), o _ 4 2 _ (by decide), o _ 3 2 _ (by decide)]
    exact World.cell?_setCell_same _ _ _ ((o _ 1 2 _ (by decide)).trans ((o _ 0 2 _ (by decide)).trans c2))
  · rw [o _ 7 3 _ (by decide), o _ 6 3 _ (by decide), o _ 5 3 _ (by decide), o _ 4 3 _ (by decide)]
    exact World.cell?_setCell_same _ _ _ ((o _ 2 3 _ (by decide)).trans ((o _ 1 3 _ (by decide)).trans ((o _ 0 3 _ (by decide)).trans c3)))
  · rw [o _ 7 4 _ (by decide), o _ 6 4 _ (by decide), o _ 5 4 _ (by decide)]
    exact World.cell?_setCell_same _ _ _ ((o _ 3 4 _ (by decide)).trans ((o _ 2 4 _ (by decide)).trans ((o _ 1 4 _ (by decide)).trans ((o _ 0 4 _ (by decide)).trans c4))))
  · rw [o _ 7 5 _ (by decide), o _ 6 5 _ (by decide)]
    exact World.cell?_setCell_same _ _ _ ((o _ 4 5 _ (by decide)).trans ((o _ 3 5 _ (by decide)).trans ((o _ 2 5 _ (by decide)).trans ((o _ 1 5 _ (by decide)).trans ((o _ 0 5 _ (by decide)).trans c5)))))
  · rw [o _ 7 6 _ (by decide)]
    exact World.cell?_setCell_same _ _ _ ((o _ 5 6 _ (by decide)).trans ((o _ 4 6 _ (by decide)).trans ((o _ 3 6 _ (by decide)).trans ((o _ 2 6 _ (by decide)).trans ((o _ 1 6 _ (by decide)).trans ((o _ 0 6 _ (by decide)).trans c6))))))
  · exact World.cell?_setCell_same _ _ _ ((o _ 6 7 _ (by decide)).trans ((o _ 5 7 _ (by decide)).trans ((o _ 4 7 _ (by decide)).trans ((o _ 3 7 _ (by decide)).trans ((o _ 2 7 _ (by decide)).trans ((o _ 1 7 _ (by decide)).trans ((o _ 0 7 _ (by decide)).trans c7)))))))
theorem row_one {w : World} {g : Nat} {s : ByteArray} (h : w.heap[g]? = some (.cells #[.string s] 9 (0, 0))) : IsRow w 1 (.slice (some ⟨g, 0, none⟩) 1 1) 1 (sVals [s]) := by
  refine ⟨rfl, .inr ⟨g, 0, 1, rfl, (Array.getElem?_eq_some_iff.1 h).1, Nat.le_refl _, by decide, fun j u hu => ?_⟩⟩
  match j, hu with
  | 0, hu =>
    rw [Lib.cell_of_heap h]
    exact hu
  | j + 1, hu => simp [sVals] at hu
end Go.Proofs.YthdbnlpbidkojaaDoor
