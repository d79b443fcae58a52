/- slices.Insert of one type into a row without room: its walk. -/
import Derived.Test.YticlejkeaagfjaaGreatDoorFoT
import Derived.Lib.AppendZeros
import Derived.Deep.WholeRow
namespace Go.Proofs.YticlejkeaagfjaaGreatDoor
open Go.RowKit Go.ChangeMaps

/-- append(s, make([]T, n)...), where there is no room. -/
theorem run_app_zeros {P : Program} (w : World) (t tn ty e : TypeId) (i : TypeInfo) (z : Value) (k kn : IntKind) (ht : P.underlying t = some (.slice e)) (htn : P.underlying tn = some (.int kn)) (hi : P.info? e = some i) (hz : i.zero = some z)
    (b : Addr) (sLen sCap : Nat) (olds : List Value) (hlo : olds.length = sLen * i.size) (holds : ∀ j v, olds[j]? = some v → w.cell? (b.add j) = some v)
    (n : Nat) (h0 : 0 < n) (hs : 0 < i.size) (hg : sCap < sLen + n) (h63 : ((sLen + n : Nat) : Int) ≤ 9223372036854775807) (hfit : Builtin.nextslicecap (sLen + n) sCap * i.bytes ≤ 281474976710656) (h48 : n * i.bytes ≤ 281474976710656) :
    (Builtin.append_ #[t, tn] ty #[.slice (some b) sLen sCap, .int k n]).run P w =
      .ok (.slice (some ⟨w.heap.size, 0, none⟩) (sLen + n) (grownCap w (sLen + n) sCap e)) (w.drew.alloc (.cells (olds.toArray ++ Builtin.zeroCells z.cells n ++ Builtin.zeroCells z.cells (grownCap w (sLen + n) sCap e - (sLen + n))) e)) := by
  have hn : n ≠ 0 := by omega
  have hw : IntKind.i64.wrap (n : Int) = n := by rw [IntKind.wrap_i64]; omega
  have h63' : ¬ (9223372036854775807 < ((sLen : Int) + (n : Int))) := by omega
  have h48' : ¬ (281474976710656 < Builtin.nextslicecap (sLen + n) sCap * i.bytes) := by omega
  have hnr : ¬ (sLen + n ≤ sCap) := by omega
  have h48i : ¬ (281474976710656 < (n : Int) * (i.bytes : Int)) := by
    rw [← Int.natCast_mul]
    omega
  have hneg : ¬ ((n : Int) < 0) := by omega
  have hns : ¬ (n * i.size = 0) := Nat.mul_ne_zero hn (by omega)
  have hfo := run_firstCells_some (P := P) w.drew i.size sLen b sLen sCap olds hlo (by simpa using holds)
  simp [Builtin.append_, run_underlying ht, run_underlying htn, sizeOf, typeInfo, zeroValue, hi, hz, asInt, asIntOf, hw, hneg, hns, h63', h48', h48i, hnr, Question.forced, Builtin.lenOf, hfo, newRow, grownCap]
/-- copy of elements of any size. -/
theorem run_copyN {P : Program} (w : World) (dT sT ty elem : TypeId) (g o dLen dCap : Nat) (a : Addr) (sLen sCap : Nat) (cur : Array Value) (t : TypeId) (cs : List Value) (sz : Nat) (i : TypeInfo)
    (hu : P.underlying dT = some (.slice elem)) (hq : P.info? elem = some i) (hsz : i.size = sz)
    (hg : w.heap[g]? = some (.cells cur t (0, 0))) (hn : cs.length = Nat.min sLen dLen * sz)
    (hsrc : ∀ j v, cs[j]? = some v → w.cell? (a.add j) = some v) (hfit : o + cs.length ≤ cur.size) (h1 : ∀ v ∈ cs, v.oneCell' = true) :
    (Builtin.copy_ #[dT, sT] ty #[.slice (some ⟨g, o, none⟩) dLen dCap, .slice (some a) sLen sCap]).run P w =
      .ok (goInt (Nat.min sLen dLen)) (w.setRow g (cur.toList.take o ++ cs ++ cur.toList.drop (o + cs.length)).toArray) := by
  have hl := run_loadCells_list (P := P) w a cs hsrc
  have hst := run_storeCells_at P g o t cs 0 cur w hg (by simpa using hfit) h1
  simp [Builtin.copy_, run_underlying hu, Builtin.lenOf, Builtin.firstCells, sizeOf, typeInfo, hq, hsz, ← hn, hl, hst]
/-- A copy whose run is known as an equation. -/
theorem wpl_copy_run {P : Program} (w : World) {ops : Array Oper} {rest : List Oper} {o : Oper} {a : Act} {Q : Exit → Act → World → Prop} (hgd : o.guard = none) (s x : Operand) (t tn : TypeId)
    (ho : o.op = .call { callee := .builtin .copy, args := #[s, x], argTypes := #[t, tn] }) (vs vx : Value) (hs : a.eval s = vs) (hx : a.eval x = vx)
    (v' : Value) (w' : World) (hr : (Builtin.copy_ #[t, tn] o.type #[vs, vx]).run P w = .ok v' w') (h : wpList P ops Q rest (a.put o.dst v') w') : wpList P ops Q (o :: rest) a w :=
  wpList_plain hgd fun _ hK => by
    unfold Oper.wp execOp
    simp only [ho, resolve, invoke, builtin, Sem.run_bind, Sem.run_pure, Result.andThen_ok, List.map_toArray, List.map_cons, List.map_nil, hs, hx, hr]
    exact hK _ _ h
def insL (M : List LT) (i : Nat) (y : LT) : List LT := M.take i ++ y :: M.drop i
theorem tys_insL (M : List LT) (i : Nat) (y : LT) : tys (insL M i y) = insT (tys M) i y.t := by simp [tys, insL, insT]
def InP (M : List LT) (i : Nat) (y : LT) (w : World) (e : Ending) (w' : World) : Prop := ∃ c, e = .returned (.slice (some ⟨w.heap.size, 0, none⟩) (M.length + 1) c) ∧ IsRow w' 8 (.slice (some ⟨w.heap.size, 0, none⟩) (M.length + 1) c) (M.length + 1) (tCells (insL M i y)) ∧ Below w.heap.size w w'
theorem tCells_take (M : List LT) (i : Nat) (hi : i ≤ M.length) : (tCells M).take (i * 8) = tCells (M.take i) := by
  have e : tCells M = tCells (M.take i) ++ tCells (M.drop i) := by rw [← tCells_app, List.take_append_drop]
  have e2 : i * 8 = (tCells (M.take i)).length := by rw [tCells_len, List.length_take]; omega
  rw [e, e2]; exact List.take_left
theorem tCells_drop (M : List LT) (i : Nat) (hi : i ≤ M.length) : (tCells M).drop (i * 8) = tCells (M.drop i) := by
  have e : tCells M = tCells (M.take i) ++ tCells (M.drop i) := by rw [← tCells_app, List.take_append_drop]
  have e2 : i * 8 = (tCells (M.take i)).length := by rw [tCells_len, List.length_take]; omega
  rw [e, e2]; exact List.drop_left
theorem row_of_heap {w : World} {g n cap sz : Nat} {cur : Array Value} {ty : TypeId} {xs : List Value} (h : w.heap[g]? = some (.cells cur ty (0, 0))) (hx : xs.length = n * sz) (hp : cur.toList.take xs.length = xs) (h1 : n ≤ cap) (h2 : cap ≤ maxLen) : IsRow w sz (.slice (some ⟨g, 0, none⟩) n cap) n xs := by
  refine ⟨hx, .inr ⟨g, 0, cap, rfl, (Array.getElem?_eq_some_iff.1 h).1, h1, h2, fun j u hu => ?_⟩⟩
  rw [Nat.zero_add, Lib.cell_of_heap h]
  have hj : j < xs.length := by
    rcases Nat.lt_or_ge j xs.length with h | h
    · exact h
    · rw [List.getElem?_eq_none h] at hu; cases hu
  rw [← hp, List.getElem?_take_of_lt hj] at hu
  simpa using hu
theorem insL_cells (M : List LT) (i : Nat) (y : LT) : tCells (insL M i y) = tCells (M.take i) ++ enT y ++ tCells (M.drop i) := by
  unfold insL
  rw [tCells_app, List.append_assoc]
  congr 1
theorem insL_len (M : List LT) (i : Nat) (y : LT) : (tCells (insL M i y)).length = (M.length + 1) * 8 := by
  rw [tCells_len]
  unfold insL
  rw [List.length_append, List.length_cons, List.length_take, List.length_drop]
  omega
theorem cells_from {w : World} {g o : Nat} {cur : Array Value} {ty : TypeId} (h : w.heap[g]? = some (.cells cur ty (0, 0))) (j : Nat) (u : Value) (hu : cur[o + j]? = some u) : w.cell? ((⟨g, o, none⟩ : Addr).add j) = some u := by
  have hadd : (⟨g, o, none⟩ : Addr).add j = ⟨g, o + j, none⟩ := by unfold Addr.add; split <;> simp_all
  rw [hadd, Lib.cell_of_heap h]
  exact hu
/-- What the grown row holds, behind each step. -/
theorem ins_math (M : List LT) (i : Nat) (y : LT) (zs : List Value) (hi : i < M.length) (hz : (M.length + 1 - i) * 8 ≤ zs.length) :
    ((tCells (M.take i) ++ zs).take (i * 8) ++ enT y ++ (tCells (M.take i) ++ zs).drop (i * 8 + (enT y).length)).length = i * 8 + zs.length ∧
    (((tCells (M.take i) ++ zs).take (i * 8) ++ enT y ++ (tCells (M.take i) ++ zs).drop (i * 8 + (enT y).length)).take ((i + 1) * 8) ++ tCells (M.drop i) ++ ((tCells (M.take i) ++ zs).take (i * 8) ++ enT y ++ (tCells (M.take i) ++ zs).drop (i * 8 + (enT y).length)).drop ((i + 1) * 8 + (tCells (M.drop i)).length)).take (tCells (insL M i y)).length = tCells (insL M i y) := by
  have l1 : (tCells (M.take i)).length = i * 8 := by rw [tCells_len, List.length_take]; omega
  have l2 : (enT y).length = 8 := rfl
  have l3 : (tCells (M.drop i)).length = (M.length - i) * 8 := by rw [tCells_len, List.length_drop]
  have e1 : (tCells (M.take i) ++ zs).take (i * 8) = tCells (M.take i) := by rw [← l1]; exact List.take_left
  rw [e1]
  constructor
  · rw [List.length_append, List.length_append, List.length_drop, List.length_append, l1, l2]
    omega
  · have e2 : (tCells (M.take i) ++ enT y ++ (tCells (M.take i) ++ zs).drop (i * 8 + (enT y).length)).take ((i + 1) * 8) = tCells (M.take i) ++ enT y := by
      have : (i + 1) * 8 = (tCells (M.take i) ++ enT y).length := by rw [List.length_append, l1, l2]; omega
      rw [this]; exact List.take_left
    rw [e2, insL_cells]
    exact List.take_left
set_option maxRecDepth 100000 in
set_option maxHeartbeats 4000000 in
theorem insert_any (g b : Nat) (M : List LT) (i : Nat) (y : LT) (w : World) (hg : w.heap[g]? = some (.cells (tCells M).toArray 32 (0, 0))) (hb : w.heap[b]? = some (.cells (tyA y.t y.vo y.va y.vc) 32 (0, 0))) (hi : i ≤ M.length) (hl : M.length ≤ 1000) :
    Calls Tryz.prog 49 #[.slice (some ⟨g, 0, none⟩) M.length M.length, .int .i64 (i : Int), .slice (some ⟨b, 0, none⟩) 1 1] w fun e w' => InP M i y w e w' := by
  obtain ⟨i0, hi0, hz0, hz1, hz2⟩ := info_parts info_ty
  have q1 : (0 : Int) ≤ (i : Int) := by omega
  have q2 : (i : Int) ≤ (M.length : Int) := by omega
  have hgl : g < w.heap.size := (Array.getElem?_eq_some_iff.1 hg).1
  have hbl : b < w.heap.size := (Array.getElem?_eq_some_iff.1 hb).1
  have hsrcY : ∀ (W : World), W.heap[b]? = some (.cells (tyA y.t y.vo y.va y.vc) 32 (0, 0)) → ∀ j u, (enT y)[j]? = some u → W.cell? ((⟨b, 0, none⟩ : Addr).add j) = some u := fun W h j u hu => cells_at h j u (by rw [enT_tyA]; simpa using hu)
  by_cases hin : i = M.length
  · have hG := grownCap_ge w (M.length + 1) M.length 32
    have hG2 := grownCap_le_maxLen w (M.length + 1) M.length 32 (by unfold maxLen; omega)
    have hA := fun ty => run_append_grow (P := Tryz.prog) w 23 ty 32 i0 _ Tryz.underlying23 hi0 hz0 ⟨g, 0, none⟩ M.length M.length (tCells M) (by rw [hz1, tCells_len]) (fun j u hu => cells_at hg j u (by simpa using hu)) ⟨b, 0, none⟩ 1 1 (enT y) (by rw [hz1]; rfl) (hsrcY w hb) (by omega) (by omega) (growslice_fits (by omega) (by rw [hz2]; omega))
    generalize grownCap w (M.length + 1) M.length 32 = G at *
    obtain ⟨W1, hW1⟩ : ∃ W1, W1 = w.drew.alloc (.cells ((tCells M).toArray ++ (enT y).toArray ++ Builtin.zeroCells (Value.agg zTyA).cells (G - (M.length + 1))) 32) := ⟨_, rfl⟩
    have HEnd : Hid (InP M i y w (.returned (.slice (some ⟨w.heap.size, 0, none⟩) (M.length + 1) G)) W1) := by
      have hn : W1.heap[w.heap.size]? = some (.cells ((tCells M).toArray ++ (enT y).toArray ++ Builtin.zeroCells (Value.agg zTyA).cells (G - (M.length + 1))) 32 (0, 0)) := by rw [hW1]; exact new_at w.drew _
      refine ⟨G, rfl, row_of_heap hn (insL_len M i y) ?_ (by omega) hG2, ?_⟩
      · rw [insL_cells, hin, List.take_of_length_le (Nat.le_refl _), List.drop_of_length_le (Nat.le_refl _)]
        have : tCells [] = [] := rfl
        rw [this, List.append_nil]
        have e : ((tCells M).toArray ++ (enT y).toArray ++ Builtin.zeroCells (Value.agg zTyA).cells (G - (M.length + 1))).toList = (tCells M ++ enT y) ++ (Builtin.zeroCells (Value.agg zTyA).cells (G - (M.length + 1))).toList := by simp
        rw [e]
        exact List.take_left
      · rw [hW1]
        exact ((Below.refl _ _).drew).alloc (Nat.le_refl _) _
    rw [← hW1] at hA
    have HA : Hid (∀ ty, (Builtin.append_ #[23, 23] ty #[.slice (some ⟨g, 0, none⟩) M.length M.length, .slice (some ⟨b, 0, none⟩) 1 1]).run Tryz.prog w = .ok (.slice (some ⟨w.heap.size, 0, none⟩) (M.length + 1) G) W1) := hA
    have dn : ((i : Int) == (M.length : Int)) = true := by rw [hin]; simp
    clear hA hW1 hsrcY hg hb hi0 hz0 hz1 hz2 hG hG2
    subst hin
    go_enter Tryz.func49, Tryz.ntmps49
    go_wp2_with (at_builtin; go_loud (refine Lib.wpList_append_run _ rfl (.tmp 23) (.tmp 24) _ _ rfl _ _ rfl rfl _ _ (HA.out _) ?_))
    go_wp2
    go_ret
    exact HEnd.out
  · have hlt : i < M.length := by omega
    have hG := grownCap_ge w (M.length + 1) M.length 32
    have hG2 := grownCap_le_maxLen w (M.length + 1) M.length 32 (by unfold maxLen; omega)
    have hZ : ∀ ty, (Builtin.append_ #[23, 3] ty #[.slice (some ⟨g, 0, none⟩) i M.length, .int .i64 ((M.length : Int) + 1 - (i : Int))]).run Tryz.prog w = .ok (.slice (some ⟨w.heap.size, 0, none⟩) (M.length + 1) (grownCap w (M.length + 1) M.length 32)) (w.drew.alloc (.cells ((tCells (M.take i)).toArray ++ Builtin.zeroCells (Value.agg zTyA).cells (M.length + 1 - i) ++ Builtin.zeroCells (Value.agg zTyA).cells (grownCap w (M.length + 1) M.length 32 - (M.length + 1))) 32)) := fun ty => by
      have := run_app_zeros (P := Tryz.prog) w 23 3 ty 32 i0 _ .i64 .i64 Tryz.underlying23 Tryz.underlying3 hi0 hz0 ⟨g, 0, none⟩ i M.length (tCells (M.take i)) (by rw [hz1, tCells_len, List.length_take]; omega) (fun j u hu => cells_at hg j u (by
        have hj : j < (tCells (M.take i)).length := by
          rcases Nat.lt_or_ge j (tCells (M.take i)).length with h | h
          · exact h
          · rw [List.getElem?_eq_none h] at hu; cases hu
        rw [← tCells_take M i hi] at hu hj
        rw [List.length_take] at hj
        rw [List.getElem?_take_of_lt (by omega)] at hu
        simpa using hu)) (M.length + 1 - i) (by omega) (by rw [hz1]; omega) (by omega) (by omega) (growslice_fits (by omega) (by rw [hz2]; omega)) (by rw [hz2]; omega)
      rw [show i + (M.length + 1 - i) = M.length + 1 by omega] at this
      rw [show ((M.length + 1 - i : Nat) : Int) = (M.length : Int) + 1 - (i : Int) by omega] at this
      exact this
    generalize grownCap w (M.length + 1) M.length 32 = G at *
    have hzs : ∀ k, (Builtin.zeroCells (Value.agg zTyA).cells k).toList.length = k * 8 := fun k => by rw [Array.length_toList, zc_size]; rfl
    obtain ⟨zs, hzsd⟩ : ∃ zs, zs = (Builtin.zeroCells (Value.agg zTyA).cells (M.length + 1 - i)).toList ++ (Builtin.zeroCells (Value.agg zTyA).cells (G - (M.length + 1))).toList := ⟨_, rfl⟩
    have hzl : zs.length = (G - i) * 8 := by rw [hzsd, List.length_append, hzs, hzs]; omega
    obtain ⟨A1, hA1⟩ : ∃ A1, A1 = (tCells (M.take i)).toArray ++ Builtin.zeroCells (Value.agg zTyA).cells (M.length + 1 - i) ++ Builtin.zeroCells (Value.agg zTyA).cells (G - (M.length + 1)) := ⟨_, rfl⟩
    have hA1l : A1.toList = tCells (M.take i) ++ zs := by rw [hA1, hzsd]; simp
    rw [← hA1] at hZ
    obtain ⟨W1, hW1⟩ : ∃ W1, W1 = w.drew.alloc (.cells A1 32) := ⟨_, rfl⟩
    have hb1 : Below w.heap.size w W1 := by rw [hW1]; exact ((Below.refl _ _).drew).alloc (Nat.le_refl _) _
    have hn1 : W1.heap[w.heap.size]? = some (.cells A1 32 (0, 0)) := by rw [hW1]; exact new_at w.drew _
    rw [← hW1] at hZ
    clear hW1 hA1 hzsd hzs
    have l1 : (tCells (M.take i)).length = i * 8 := by rw [tCells_len, List.length_take]; omega
    have hA1s : A1.size = i * 8 + zs.length := by rw [← Array.length_toList, hA1l, List.length_append, l1]
    have hmA : Nat.min 1 (M.length + 1 - i) = 1 := Nat.min_eq_left (by omega)
    have hmB : Nat.min (M.length - i) (M.length - i) = M.length - i := Nat.min_self _
    obtain ⟨m1, m2⟩ := ins_math M i y zs hlt (by rw [hzl]; omega)
    have hC1 : ∀ ty, (Builtin.copy_ #[23, 23] ty #[.slice (some ⟨w.heap.size, i * 8, none⟩) (M.length + 1 - i) (G - i), .slice (some ⟨b, 0, none⟩) 1 1]).run Tryz.prog W1 = .ok (goInt (Nat.min 1 (M.length + 1 - i))) (W1.setRow w.heap.size (A1.toList.take (i * 8) ++ enT y ++ A1.toList.drop (i * 8 + (enT y).length)).toArray) := fun ty =>
      run_copyN (P := Tryz.prog) W1 23 23 ty 32 w.heap.size (i * 8) (M.length + 1 - i) (G - i) ⟨b, 0, none⟩ 1 1 A1 32 (enT y) 8 i0 Tryz.underlying23 hi0 hz1 hn1 (by rw [hmA]; rfl) (hsrcY W1 ((hb1.block _ hbl).trans hb)) (by rw [hA1s, hzl]; show i * 8 + 8 ≤ _; omega) (oneT_cell y)
    rw [hA1l] at hC1
    generalize hA2 : (tCells (M.take i) ++ zs).take (i * 8) ++ enT y ++ (tCells (M.take i) ++ zs).drop (i * 8 + (enT y).length) = A2 at *
    obtain ⟨W2, hW2⟩ : ∃ W2, W2 = W1.setRow w.heap.size A2.toArray := ⟨_, rfl⟩
    have hb2 : Below w.heap.size w W2 := by rw [hW2]; exact below_setRow hb1 (Nat.le_refl _) _
    have hn2 : W2.heap[w.heap.size]? = some (.cells A2.toArray 32 (0, 0)) := by rw [hW2]; exact setRow_heap _ _ _ _ _ _ hn1
    rw [← hW2] at hC1
    clear hW2 hA1l hA1s hn1 hA2
    have hC2 : ∀ ty, (Builtin.copy_ #[23, 23] ty #[.slice (some ⟨w.heap.size, (i + 1) * 8, none⟩) (M.length - i) (G - (i + 1)), .slice (some ⟨g, i * 8, none⟩) (M.length - i) (M.length - i)]).run Tryz.prog W2.drew = .ok (goInt (Nat.min (M.length - i) (M.length - i))) (W2.drew.setRow w.heap.size (A2.take ((i + 1) * 8) ++ tCells (M.drop i) ++ A2.drop ((i + 1) * 8 + (tCells (M.drop i)).length)).toArray) := fun ty => by
      have := run_copyN (P := Tryz.prog) W2.drew 23 23 ty 32 w.heap.size ((i + 1) * 8) (M.length - i) (G - (i + 1)) ⟨g, i * 8, none⟩ (M.length - i) (M.length - i) A2.toArray 32 (tCells (M.drop i)) 8 i0 Tryz.underlying23 hi0 hz1 hn2 (by rw [hmB, tCells_len, List.length_drop]) (fun j u hu => cells_from (w := W2.drew) ((hb2.block _ hgl).trans hg) j u (by
        rw [← tCells_drop M i hi, List.getElem?_drop] at hu
        simpa using hu)) (by rw [List.size_toArray, m1, hzl, tCells_len, List.length_drop]; omega) (oneTs_cell _)
      simpa using this
    obtain ⟨W3, hW3⟩ : ∃ W3, W3 = W2.drew.setRow w.heap.size (A2.take ((i + 1) * 8) ++ tCells (M.drop i) ++ A2.drop ((i + 1) * 8 + (tCells (M.drop i)).length)).toArray := ⟨_, rfl⟩
    have hn3 : W3.heap[w.heap.size]? = some (.cells (A2.take ((i + 1) * 8) ++ tCells (M.drop i) ++ A2.drop ((i + 1) * 8 + (tCells (M.drop i)).length)).toArray 32 (0, 0)) := by rw [hW3]; exact setRow_heap W2.drew _ _ _ _ _ hn2
    have hb3 : Below w.heap.size w W3 := by rw [hW3]; exact below_setRow hb2.drew (Nat.le_refl _) _
    rw [← hW3] at hC2
    clear hW3
    have HEnd : Hid (InP M i y w (.returned (.slice (some ⟨w.heap.size, 0, none⟩) (M.length + 1) G)) W3) := ⟨G, rfl, row_of_heap hn3 (insL_len M i y) (by simpa using m2) (by omega) hG2, hb3⟩
    have HZ : Hid (∀ ty, (Builtin.append_ #[23, 3] ty #[.slice (some ⟨g, 0, none⟩) i M.length, .int .i64 ((M.length : Int) + 1 - (i : Int))]).run Tryz.prog w = .ok (.slice (some ⟨w.heap.size, 0, none⟩) (M.length + 1) G) W1) := hZ
    have HC1 : Hid (∀ ty, (Builtin.copy_ #[23, 23] ty #[.slice (some ⟨w.heap.size, i * 8, none⟩) (M.length + 1 - i) (G - i), .slice (some ⟨b, 0, none⟩) 1 1]).run Tryz.prog W1 = .ok (goInt (Nat.min 1 (M.length + 1 - i))) W2) := hC1
    have HC2 : Hid (∀ ty, (Builtin.copy_ #[23, 23] ty #[.slice (some ⟨w.heap.size, (i + 1) * 8, none⟩) (M.length - i) (G - (i + 1)), .slice (some ⟨g, i * 8, none⟩) (M.length - i) (M.length - i)]).run Tryz.prog W2.drew = .ok (goInt (Nat.min (M.length - i) (M.length - i))) W3) := hC2
    have dn : ((i : Int) == (M.length : Int)) = false := by rw [beq_eq_false_iff_ne]; omega
    have dc : decide ((M.length : Int) < (M.length : Int) + 1) = true := decide_eq_true (by omega)
    have g1 : G ≠ i := by omega
    have g2 : G ≠ i + 1 := by omega
    have g3 : M.length ≠ i := by omega
    clear hmA hmB hZ hC1 hC2 hn2 hn3 hb1 hb2 hb3 m1 m2 hzl l1 hsrcY hg hb hi0 hz0 hz1 hz2 hG2 hin
    go_enter Tryz.func49, Tryz.ntmps49
    have hC1 := HC1.out
    go_wp2_with (at_builtin; go_loud (refine Lib.wpList_append_run _ rfl (.tmp 34) (.tmp 39) _ _ rfl _ _ rfl rfl _ _ (HZ.out _) ?_))
    clear hC1 HC1 HZ
    have hC2 := HC2.out
    have wi : IntKind.i64.wrap ((i : Int) + 1) = (i : Int) + 1 := by rw [IntKind.wrap_i64]; omega
    have tn : ((i : Int) + 1).toNat = i + 1 := by omega
    have c1 : (0 : Int) ≤ (i : Int) + 1 := by omega
    have c2 : (i : Int) + 1 ≤ (M.length : Int) + 1 := by omega
    refine wp_region_held_drew (S := fun _ => True) (by kernel_rfl) trivial (fun hHeld => ?_)
    refine wpAnyH_take (i := 0) (v := ?_) rfl (by kernel_rfl) (by kernel_rfl) (by kernel_rfl) (fun _ _ _ h => h) (Or.inl ⟨by rfl, ?_⟩) hHeld ?_
    rotate_left 1
    · intro w9 hSw; clear hSw; go_simp; try with_reducible rfl
    change wpAnyH _ _ _ _ _ _ _ (Act.put _ (some 46) _) _
    simp only [Act.put, List.setIfInBounds_toArray, List.set_cons_zero, List.set_cons_succ]
    refine wpAnyH_take (i := 1) (v := ?_) rfl (by kernel_rfl) (by kernel_rfl) (by kernel_rfl) (fun _ _ _ h => h) (Or.inl ⟨by rfl, ?_⟩) hHeld ?_
    rotate_left 1
    · intro w9 hSw; clear hSw; go_simp; try with_reducible rfl
    change wpAnyH _ _ _ _ _ _ _ (Act.put _ (some 47) _) _
    simp only [Act.put, List.setIfInBounds_toArray, List.set_cons_zero, List.set_cons_succ]
    refine wpAnyH_take (i := 2) (v := ?_) rfl (by kernel_rfl) (by kernel_rfl) (by kernel_rfl) (fun _ _ _ h => h) (Or.inl ⟨by rfl, ?_⟩) hHeld ?_
    rotate_left 1
    · intro w9 hSw; clear hSw; go_simp; try with_reducible rfl
    change wpAnyH _ _ _ _ _ _ _ (Act.put _ (some 48) _) _
    simp only [Act.put, List.setIfInBounds_toArray, List.set_cons_zero, List.set_cons_succ]
    refine wpAnyH_take (i := 3) (v := ?_) rfl (by kernel_rfl) (by kernel_rfl) (by kernel_rfl) (fun _ _ _ h => h) (Or.inl ⟨by rfl, ?_⟩) hHeld ?_
    rotate_left 1
    · intro w9 hSw; clear hSw; go_simp; try with_reducible rfl
    change wpAnyH _ _ _ _ _ _ _ (Act.put _ (some 49) _) _
    simp only [Act.put, List.setIfInBounds_toArray, List.set_cons_zero, List.set_cons_succ]
    refine wpAnyH_take (i := 4) (v := ?_) rfl (by kernel_rfl) (by kernel_rfl) (by kernel_rfl) (fun _ _ _ h => h) (Or.inl ⟨by rfl, ?_⟩) hHeld ?_
    rotate_left 1
    · intro w9 hSw; clear hSw; go_simp; try with_reducible rfl
    change wpAnyH _ _ _ _ _ _ _ (Act.put _ (some 50) _) _
    simp only [Act.put, List.setIfInBounds_toArray, List.set_cons_zero, List.set_cons_succ]
    refine wpAnyH_take (i := 5) (v := ?_) rfl (by kernel_rfl) (by kernel_rfl) (by kernel_rfl) (fun _ _ _ h => h) (Or.inl ⟨by rfl, ?_⟩) hHeld ?_
    rotate_left 1
    · intro w9 hSw; clear hSw; go_simp; try with_reducible rfl
    change wpAnyH _ _ _ _ _ _ _ (Act.put _ (some 51) _) _
    simp only [Act.put, List.setIfInBounds_toArray, List.set_cons_zero, List.set_cons_succ]
    refine wpAnyH_take (i := 6) (v := ?_) rfl (by kernel_rfl) (by kernel_rfl) (by kernel_rfl) (fun _ _ _ h => h) (Or.inl ⟨by rfl, ?_⟩) hHeld ?_
    rotate_left 1
    · intro w9 hSw; clear hSw; go_simp; try with_reducible rfl
    change wpAnyH _ _ _ _ _ _ _ (Act.put _ (some 52) _) _
    simp only [Act.put, List.setIfInBounds_toArray, List.set_cons_zero, List.set_cons_succ]
    refine wpAnyH_take (i := 7) (v := ?_) rfl (by kernel_rfl) (by kernel_rfl) (by kernel_rfl) (fun _ _ _ h => h) (Or.inl ⟨by rfl, ?_⟩) hHeld ?_
    rotate_left 1
    · intro w9 hSw; clear hSw; go_simp; try with_reducible rfl
    change wpAnyH _ _ _ _ _ _ _ (Act.put _ (some 53) _) _
    simp only [Act.put, List.setIfInBounds_toArray, List.set_cons_zero, List.set_cons_succ]
    refine wpAnyH_ready (rs := [8]) (by kernel_rfl) (by simp) ?_
    refine AllReadyH.cons rfl (fun K hK => ?_) AllReadyH.nil
    go_simp
    refine hK.out _ _ trivial (fun hHeld => ?_)
    clear hK K
    refine wpAnyH_done (by kernel_rfl) ?_ _
    clear hC2 HC2
    go_wp2
    go_ret
    exact HEnd.out
end Go.Proofs.YticlejkeaagfjaaGreatDoor
