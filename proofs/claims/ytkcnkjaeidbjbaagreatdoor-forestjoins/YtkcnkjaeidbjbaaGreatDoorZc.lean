/- schema.kindOf, schema.parseField: walks. -/
import Derived.Test.YtkcnkjaeidbjbaaGreatDoorZi
import Derived.Lib.SplitLaws
import Derived.Lib.AppendZeros
import Derived.Maps.AppendAt
import Derived.Test.YtkcnkjaeidbjbaaGreatDoorZa
namespace Go.Proofs.YtkcnkjaeidbjbaaGreatDoor
open Go.RowKit

def wordK : Nat → List UInt8
  | 1 => [105, 110, 116]
  | 2 => [116, 101, 120, 116]
  | 3 => [98, 111, 111, 108]
  | _ => [98, 121, 116, 101, 115]
/-- The kind of a word. -/
def kindW (s : List UInt8) : Int := if s = wordK 1 then 1 else if s = wordK 2 then 2 else if s = wordK 3 then 3 else if s = wordK 4 then 4 else 0
theorem kindW_at {s : List UInt8} {k : Nat} (h1 : 1 ≤ k) (h2 : k < 5) (hb : ∀ j, 1 ≤ j → j < k → s ≠ wordK j) (hk : s = wordK k) : kindW s = (k : Int) := by
  have : k = 1 ∨ k = 2 ∨ k = 3 ∨ k = 4 := by omega
  unfold kindW
  rcases this with rfl | rfl | rfl | rfl
  · rw [if_pos hk]; rfl
  · rw [if_neg (hb 1 (by omega) (by omega)), if_pos hk]; rfl
  · rw [if_neg (hb 1 (by omega) (by omega)), if_neg (hb 2 (by omega) (by omega)), if_pos hk]; rfl
  · rw [if_neg (hb 1 (by omega) (by omega)), if_neg (hb 2 (by omega) (by omega)), if_neg (hb 3 (by omega) (by omega)), if_pos hk]; rfl
theorem kindW_no {s : List UInt8} (hb : ∀ j, 1 ≤ j → j < 5 → s ≠ wordK j) : kindW s = 0 := by
  unfold kindW
  rw [if_neg (hb 1 (by omega) (by omega)), if_neg (hb 2 (by omega) (by omega)), if_neg (hb 3 (by omega) (by omega)), if_neg (hb 4 (by omega) (by omega))]
end Go.Proofs.YtkcnkjaeidbjbaaGreatDoor
/- schema.parseField: its walk. -/
namespace Go.Proofs.YtkcnkjaeidbjbaaGreatDoor
open Go.RowKit

/-- The field that a text says. -/
def parseF (s : List UInt8) : Fd := ⟨str (Lib.cut s [32]).1, kindW (Lib.trimSuffix (Lib.cut s [32]).2.1 [33]), Lib.hasSuffix (Lib.cut s [32]).2.1 [33]⟩
theorem results_cell1 {fn : Func} {p : Tmp} {ty : TypeId} (h : fn.results = #[.cell p ty]) (tmps : Array Value) (P : Program) (w : World) :
    (results fn tmps).run P w = ((asAddr (tmps.getD p undef)).run P w).andThen fun a w₁ => (loadVar ty a).run P w₁ := by
  simp only [results, h]
  simp [Sem.run_bind, Result.andThen]
theorem cut_le (s sep : List UInt8) : (Lib.cut s sep).2.1.length ≤ s.length := by
  unfold Lib.cut
  split <;> simp
end Go.Proofs.YtkcnkjaeidbjbaaGreatDoor
/- schema.Parse: its walk. -/
namespace Go.Proofs.YtkcnkjaeidbjbaaGreatDoor
open Go.RowKit

theorem split_size (sep : ByteArray) : ∀ (k : Nat) (s x : ByteArray), x ∈ Lib.splitB sep 0 k s → x.size ≤ s.size
  | 0, s, x, h => by
    obtain rfl : x = s := by simpa [Lib.splitB] using h
    exact Nat.le_refl _
  | k + 1, s, x, h => by
    unfold Lib.splitB at h
    split at h
    · obtain rfl : x = s := by simpa using h
      exact Nat.le_refl _
    · rcases List.mem_cons.1 h with rfl | h
      · rw [ByteArray.size_extract]; omega
      · have := split_size sep k _ x h
        rw [ByteArray.size_extract] at this
        omega
theorem cut_le1 (s sep : List UInt8) : (Lib.cut s sep).1.length ≤ s.length := by
  unfold Lib.cut
  split <;> simp <;> omega
/-- The pieces of a line, and the fields that they say. -/
def pL (s : ByteArray) : List ByteArray := Lib.splitB ⟨#[44, 32]⟩ 0 (min 25 (s.size + 1) - 1) s
def parseL (s : ByteArray) : List Fd := (pL s).map fun x => parseF x.data.toList
theorem pL_len (s : ByteArray) : (pL s).length ≤ min 25 (s.size + 1) := by
  have := Lib.splitB_length_le ⟨#[44, 32]⟩ 0 (min 25 (s.size + 1) - 1) s
  unfold pL
  omega
theorem parse_nm (s : ByteArray) (hs : s.size ≤ 1000000) : NmF (parseL s) := by
  intro x hx
  obtain ⟨y, hy, rfl⟩ := List.mem_map.1 hx
  have h1 := split_size _ _ _ _ hy
  have h2 := cut_le1 y.data.toList [32]
  have h3 : y.data.toList.length = y.size := by simp
  show (str (Lib.cut y.data.toList [32]).1).size ≤ _
  rw [str_size]
  omega
theorem parse_take (s : ByteArray) (k : Nat) (hk : k < (pL s).length) : fCells (((pL s).take (k + 1)).map fun x => parseF x.data.toList) = fCells (((pL s).take k).map fun x => parseF x.data.toList) ++ enF (parseF (pL s)[k].data.toList) := by
  rw [List.take_succ_eq_append_getElem hk, List.map_append, fCells, List.flatMap_append]
  simp [fCells]
/-- What a line says: the fields, and the error. -/
def parseR (s : ByteArray) : List Fd × Int := if s.data.toList = [45] then ([], 0) else if chkF (parseL s) = true then (parseL s, 0) else ([], 3)
def PrPost (s : ByteArray) (w : World) (e : Ending) (w' : World) : Prop :=
  ∃ v, e = .returned (.tuple #[v, .int .i64 (parseR s).2]) ∧ IsRow w' 3 v (parseR s).1.length (fCells (parseR s).1) ∧ Below w.heap.size w w'
theorem info_fd : (Tryz.prog.info? 81).map (fun i => (i.zero, i.size, i.bytes)) = some (some (.agg #[.string ⟨#[]⟩, .int .i64 0, .bool false]), 3, 32) := by kernel_rfl
theorem wpl_appE {P : Program} (wr : World) {ops : Array Oper} {rest : List Oper} {o : Oper} {a : Act} {Q : Exit → Act → World → Prop} (hgd : o.guard = none) (s x : Operand) (t e : TypeId)
    (ho : o.op = .call { callee := .builtin .append, args := #[s, x], argTypes := #[t, t] })
    (i : TypeInfo) (z : Value) (size bytes : Nat) (ht : P.underlying t = some (.slice e)) (hi : P.info? e = some i) (hz : i.zero = some z)
    (hsize : i.size = size) (hby : i.bytes = bytes) (hzs : z.cells.size = size) (hsz : 0 < size)
    (base : Nat) (v : Value) (n : Nat) (xs : List Value) (hs : a.eval s = v) (hown : wr.ownsRow base e size v n xs)
    (es : List Value) (hes : es.length = size) (C : Array Value) (hC : C = es.toArray) (hx : a.eval x = .slice (some ⟨wr.heap.size, 0, none⟩) 1 1) (h1 : ∀ u ∈ es, u.oneCell' = true)
    (hbytes : (n + 1) * bytes ≤ 140737488355328) (h63 : n + 1 ≤ maxLen) (hbase : base ≤ wr.heap.size)
    (h : ∀ v' w', w'.ownsRow base e size v' (n + 1) (xs ++ es) → Below base wr w' → wpList P ops Q rest (a.put o.dst v') w') :
    wpList P ops Q (o :: rest) a (wr.alloc (.cells C e)) := by
  subst hC
  refine wpList_append_own _ hgd s x t ho base e i z size bytes ht hi hz hsize hby hzs hsz v n xs hs (hown.alloc _) ⟨wr.heap.size, 0, none⟩ 1 1 es hx (by omega) ?_ h1 h63 hbytes ?_ ?_
  · intro j u hj
    have : (⟨wr.heap.size, 0, none⟩ : Addr).add j = ⟨wr.heap.size, j, none⟩ := by unfold Addr.add; split <;> simp_all
    rw [this]
    simp
    exact hj
  · simp; omega
  · intro v' w' h2 h3 _
    exact h v' w' h2 (((Below.refl _ _).alloc hbase _).grown h3 (by simp; omega) (fun k hk => (hown.lt k hk).1))
theorem own_belowE {w w1 : World} {base : Nat} {e : TypeId} {sz : Nat} {v : Value} {n : Nat} {xs : List Value} (h : w.ownsRow base e sz v n xs) (hb : Below w.heap.size w w1) : w1.ownsRow base e sz v n xs :=
  h.kept (row := none) ⟨hb.os, hb.tape, hb.output, hb.size, fun k hk _ => hb.block k hk⟩ (by cases hv : v.ownBlock <;> simp)
def sVals (l : List ByteArray) : List Value := l.map Value.string
theorem s_at {w : World} {a : Option Addr} {cap n : Nat} {l : List ByteArray} (h : IsRow w 1 (.slice a n cap) l.length (sVals l)) (h0 : 0 < l.length) :
    ∃ b off, a = some ⟨b, off, none⟩ ∧ n = l.length ∧ b < w.heap.size ∧ l.length ≤ cap ∧ ∀ (k : Nat) (hk : k < l.length), w.cell? ⟨b, off + k, none⟩ = some (.string l[k]) := by
  obtain ⟨b, off, cap', hv, hlt, q1, q2, hc⟩ := h.open (by omega)
  simp only [Value.slice.injEq] at hv
  exact ⟨b, off, hv.1, hv.2.1, hlt, by omega, fun k hk => hc k _ (by simp [sVals, hk])⟩
theorem split_row (s : ByteArray) (w : World) : IsRow (w.alloc (.cells (Lib.cellsOf (pL s) (min 25 (s.size + 1))) 9)) 1 (.slice (some ⟨w.heap.size, 0, none⟩) (pL s).length (min 25 (s.size + 1))) (pL s).length (sVals (pL s)) := by
  refine ⟨by simp [sVals], .inr ⟨w.heap.size, 0, min 25 (s.size + 1), rfl, by simp, pL_len s, by unfold maxLen; omega, ?_⟩⟩
  intro j u hu
  have hj : j < (pL s).length := by
    have := (List.getElem?_eq_some_iff.1 hu).1
    simpa [sVals] using this
  rw [Lib.cell_of_heap (new_at w _)]
  simp only [Lib.cellsOf, Nat.zero_add, List.getElem?_toArray]
  rw [List.getElem?_append_left (by simpa using hj)]
  exact hu
end Go.Proofs.YtkcnkjaeidbjbaaGreatDoor
/- schema.Merge where it tells an error: its walk. -/
namespace Go.Proofs.YtkcnkjaeidbjbaaGreatDoor
open Go.RowKit

/-- Has one of the fields a name that is there? -/
def clashL (a b : List Fd) : Bool := b.any fun x => (getF a x.n).isSome
/-- What Merge tells ahead of sorting. -/
def mergeE (a b : List Fd) : Int := if chkF a = true ∧ chkF b = true then (if clashL a b = true then 9 else 0) else 1
theorem clash_at {a b : List Fd} {k : Nat} (h : k < b.length) (hk : (getF a b[k].n).isSome = true) : clashL a b = true := List.any_eq_true.2 ⟨_, List.getElem_mem h, hk⟩
theorem clash_no {a b : List Fd} (h : ∀ (k : Nat) (hk : k < b.length), (getF a b[k].n).isSome = false) : clashL a b = false := by
  unfold clashL
  rw [List.any_eq_false]
  intro y hy
  obtain ⟨j, hj, rfl⟩ := List.getElem_of_mem hy
  rw [h j hj]
  exact Bool.false_ne_true
set_option maxRecDepth 100000 in
set_option maxHeartbeats 4000000 in
theorem merge_bad (v u : Value) (l a : List Fd) (w : World) (hr : IsRow w 3 v l.length (fCells l)) (hq : IsRow w 3 u a.length (fCells a)) (hl : l.length ≤ 1000000) (hal : a.length ≤ 1000000) (hn : NmF l) (hna : NmF a) (hT : UT w) (hM : ML w) (hbad : mergeE l a ≠ 0) :
    Calls Tryz.prog 44 #[v, u] w fun e w' => e = .returned (.tuple #[.slice none 0 0, .int .i64 (mergeE l a)]) ∧ Below w.heap.size w w' := by
  obtain ⟨a0, cap0, rfl⟩ := hr.form
  obtain ⟨a1, cap1, rfl⟩ := hq.form
  have HQ : Hid (∀ w', Below w.heap.size w w' → IsRow w' 3 (.slice a1 a.length cap1) a.length (fCells a)) := fun w' h => hq.below h
  have HCF : Hid (Calls Tryz.prog 41 #[.slice a0 l.length cap0] w fun e w'' => e = .returned (.bool (chkF l)) ∧ Below w.heap.size w w'') := checkF_any _ l w hr hl hn hT hM
  have HCA : Hid (∀ w', Below w.heap.size w w' → Calls Tryz.prog 41 #[.slice a1 a.length cap1] w' fun e w'' => e = .returned (.bool (chkF a)) ∧ Below w'.heap.size w' w'') := fun w' h => checkF_any _ a w' (hq.below h) hal hna (Utf8Tabs_below hT h) (ML_below hM h)
  have HF : Hid (∀ (k : Nat) (hk : k < a.length) w', Below w.heap.size w w' → Calls Tryz.prog 88 #[.slice a0 l.length cap0, .string a[k].n] w' fun e w'' => e = .returned (.tuple #[fV ((getF l a[k].n).getD zF), .bool (getF l a[k].n).isSome]) ∧ Below w'.heap.size w' w'') := fun k hk w' h => find_any _ l _ w' (hr.below h) hl hn (hna _ (List.getElem_mem hk)) (Utf8Tabs_below hT h)
  clear hr hq hn hna hT hM
  cases hcl : chkF l with
  | false =>
    have e0 : mergeE l a = 1 := by unfold mergeE; rw [hcl]; simp
    rw [hcl] at HCF
    rw [e0]
    clear hbad
    go_enter Tryz.func44, Tryz.ntmps44
    go_wp2_with fail
    refine HCF.out.mono ?_
    rintro e w1 ⟨rfl, hb⟩
    have HB : Hid (Below w.heap.size w w1) := hb
    clear hb
    go_wp2
    go_ret2
    exact ⟨rfl, HB.out⟩
  | true =>
  rw [hcl] at HCF
  cases hca : chkF a with
  | false =>
    have e0 : mergeE l a = 1 := by unfold mergeE; rw [hca]; simp
    rw [hca] at HCA
    rw [e0]
    clear hbad
    go_enter Tryz.func44, Tryz.ntmps44
    go_wp2_with fail
    refine HCF.out.mono ?_
    rintro e w1 ⟨rfl, hb⟩
    have HB : Hid (Below w.heap.size w w1) := hb
    clear hb
    go_wp2_with fail
    refine (HCA.out w1 HB.out).mono ?_
    rintro e w2 ⟨rfl, hb⟩
    have HB2 : Hid (Below w.heap.size w w2) := HB.out.trans (hb.mono HB.out.size)
    clear hb
    go_wp2
    go_ret2
    exact ⟨rfl, HB2.out⟩
  | true =>
  rw [hca] at HCA
  have hcls : clashL l a = true := by
    cases h : clashL l a with
    | true => rfl
    | false => exact absurd (by unfold mergeE; rw [hcl, hca, h]; rfl) hbad
  have e0 : mergeE l a = 9 := by unfold mergeE; rw [hcl, hca, hcls]; rfl
  rw [e0]
  have HX : Hid (clashL l a = true) := hcls
  clear hcl hca hbad hcls e0
  go_enter Tryz.func44, Tryz.ntmps44
  go_wp2_with fail
  refine HCF.out.mono ?_
  rintro e w1 ⟨rfl, hb⟩
  have HB : Hid (Below w.heap.size w w1) := hb
  clear hb
  go_wp2_with fail
  refine (HCA.out w1 HB.out).mono ?_
  rintro e w2 ⟨rfl, hb⟩
  have HB2 : Hid (Below w.heap.size w w2) := HB.out.trans (hb.mono HB.out.size)
  clear hb
  go_wp2_with fail
  go_loopw [4, 5, 20] (fun r r5 i wr => r = .slice none 0 0 ∧ r5 = .int .i64 0 ∧ ∃ k : Nat, k ≤ a.length ∧ i = .int .i64 (k : Int) ∧ Hid (∀ (j : Nat) (hj : j < a.length), j < k → (getF l a[j].n).isSome = false) ∧ Below w.heap.size w wr) (fun _ _ i _ => a.length - (intOf i).toNat)
  case atStart => exact ⟨rfl, rfl, 0, Nat.zero_le _, rfl, fun j h hj => absurd hj (Nat.not_lt_zero _), HB2.out⟩
  case round =>
    obtain ⟨rfl, rfl, k, hk, rfl, HO, hB⟩ := hrel
    by_cases hlk : k < a.length
    · have dk : decide ((k : Int) < a.length) = true := by simp; omega
      obtain ⟨b, off, rfl, hlt, hcap, hc⟩ := f_at (HQ.out wr hB) (by omega)
      obtain ⟨ck0, ck1, ck2⟩ := hc k hlk
      have hAl := al_b wr (.cells #[.string a[k].n, .int .i64 a[k].k, .bool a[k].m] 81)
      have hB1 := hB.trans (hAl.mono hB.size)
      have HFk : Hid (Calls Tryz.prog 88 #[.slice a0 l.length cap0, .string a[k].n] (wr.alloc (.cells #[.string a[k].n, .int .i64 a[k].k, .bool a[k].m] 81)) fun e w'' => e = .returned (.tuple #[fV ((getF l a[k].n).getD zF), .bool (getF l a[k].n).isSome]) ∧ Below (wr.alloc (.cells #[.string a[k].n, .int .i64 a[k].k, .bool a[k].m] 81)).heap.size (wr.alloc (.cells #[.string a[k].n, .int .i64 a[k].k, .bool a[k].m] 81)) w'') := HF.out k hlk _ hB1
      have HN : Hid (∀ w', Below (wr.alloc (.cells #[.string a[k].n, .int .i64 a[k].k, .bool a[k].m] 81)).heap.size (wr.alloc (.cells #[.string a[k].n, .int .i64 a[k].k, .bool a[k].m] 81)) w' → Below w.heap.size w w') := fun w' h => hB1.trans (h.mono hB1.size)
      have HO2 : Hid ((getF l a[k].n).isSome = false → ∀ (j : Nat) (hj : j < a.length), j < k + 1 → (getF l a[j].n).isSome = false) := fun hs j h hj => by
        by_cases e : j = k
        · subst e; exact hs
        · exact HO.out j h (by omega)
      generalize (getF l a[k].n).isSome = q at *
      generalize (getF l a[k].n).getD zF = f at *
      generalize a[k]'hlk = x at *
      obtain ⟨n, kk, mm⟩ := x
      obtain ⟨fn, fk, fm⟩ := f
      clear hc HO hAl hB1 hB
      cases q with
      | true =>
        go_wp2_with fail
        refine HFk.out.mono ?_
        rintro e w3 ⟨rfl, hb⟩
        have HBB : Hid (Below w.heap.size w w3) := HN.out w3 hb
        clear hb HFk
        go_wp2
        go_ret2
        exact ⟨rfl, HBB.out.trans ((al_b w3 _).mono HBB.out.size)⟩
      | false =>
        go_wp2_with fail
        refine HFk.out.mono ?_
        rintro e w3 ⟨rfl, hb⟩
        have HBB : Hid (Below w.heap.size w w3) := HN.out w3 hb
        clear hb HFk
        go_wp2
        go_roundw
        case rel => exact ⟨rfl, rfl, k + 1, by omega, by simp, HO2.out (by trivial), HBB.out.trans ((al_b w3 _).mono HBB.out.size)⟩
        case measure => simp [intOf]; omega
    · have hk' : k = a.length := by omega
      subst hk'
      have := clash_no (a := l) (fun j hj => HO.out j hj hj)
      rw [HX.out] at this
      exact absurd this (by simp)
end Go.Proofs.YtkcnkjaeidbjbaaGreatDoor
/- slices.Clone, slices.Grow of nothing, slices.Concat of two, at fields: walks. -/
namespace Go.Proofs.YtkcnkjaeidbjbaaGreatDoor
open Go.RowKit Go.ChangeMaps

theorem run_app0S {P : Program} (w : World) (t ty e : TypeId) (i : TypeInfo) (ht : P.underlying t = some (.slice e)) (hi : P.info? e = some i) (a : Option Addr) (n c : Nat) (hc : n ≤ c) (xa : Option Addr) (xc : Nat) :
    (Builtin.append_ #[t, t] ty #[.slice a n c, .slice xa 0 xc]).run P w = .ok (.slice a n c) w := by
  have hs : (sizeOf e).run P w = .ok i.size w := by simp [sizeOf, typeInfo, hi, Sem.run_bind]
  cases xa <;> cases a <;> simp [Builtin.append_, run_underlying ht, hs, Builtin.lenOf, Builtin.firstCells, loadCells, loadCellsFrom, storeCells, Result.andThen, hc]
theorem grown_reflS (w : World) (r : Option Nat) : w.grownBy w r := ⟨rfl, rfl, rfl, Nat.le_refl _, fun _ _ _ => rfl⟩
theorem oneF_cell (l : List Fd) : ∀ u ∈ fCells l, u.oneCell' = true := by
  intro u hu
  obtain ⟨x, -, hx⟩ := List.mem_flatMap.1 hu
  simp only [enF, List.mem_cons, List.not_mem_nil, or_false] at hx
  rcases hx with rfl | rfl | rfl <;> rfl
theorem fCells_app (a b : List Fd) : fCells (a ++ b) = fCells a ++ fCells b := by simp [fCells]
/-- A row of fields is appended to one that is owned. -/
theorem wpl_fds (w : World) {ops : Array Oper} {rest : List Oper} {o : Oper} {a : Act} {Q : Exit → Act → World → Prop} (hgd : o.guard = none) (s x : Operand)
    (ho : o.op = .call { callee := .builtin .append, args := #[s, x], argTypes := #[23, 23] })
    (base : Nat) (v xv : Value) (l news : List Fd) (hs : a.eval s = v) (hx : a.eval x = xv) (h : w.ownsRow base 81 3 v l.length (fCells l)) (hr : IsRow w 3 xv news.length (fCells news)) (hl : l.length + news.length ≤ 1000000) (hbase : base ≤ w.heap.size)
    (hk : ∀ v' w', w'.ownsRow base 81 3 v' (l ++ news).length (fCells (l ++ news)) → Below base w w' → wpList Tryz.prog ops Q rest (a.put o.dst v') w') : wpList Tryz.prog ops Q (o :: rest) a w := by
  obtain ⟨i0, hi0, hz0, hz1, hz2⟩ := info_parts info_fd
  rcases hr.2 with ⟨h0, xa, xc, rfl⟩ | ⟨b, off, cap, rfl, hb, hc, hm, hcell⟩
  · refine wpList_plain hgd fun K hK => ?_
    have hn : news = [] := List.eq_nil_of_length_eq_zero h0
    subst hn
    have hv : ∃ va vc, v = .slice va l.length vc ∧ l.length ≤ vc := by
      rcases h.2 with ⟨rfl, h1⟩ | ⟨g, cap, cur, rfl, _, _, hlc, _⟩
      · rw [h1]; exact ⟨none, 0, rfl, Nat.le_refl _⟩
      · exact ⟨_, cap, rfl, hlc⟩
    obtain ⟨va, vc, rfl, hvc⟩ := hv
    have hrun := run_app0S (P := Tryz.prog) w 23 o.type 81 i0 Tryz.underlying23 hi0 va l.length vc hvc xa xc
    unfold Oper.wp execOp
    simp only [ho, resolve, invoke, builtin, Sem.run_bind, Sem.run_pure, Result.andThen_ok, List.map_toArray, List.map_cons, List.map_nil, hs, hx, hrun]
    exact hK _ _ (hk _ w (by rw [List.append_nil]; exact h) (Below.refl _ _))
  · refine wpList_append_own_at w hgd s x 23 ho base 81 i0 _ 3 32 Tryz.underlying23 hi0 hz0 hz1 hz2 rfl (by decide) v l.length (fCells l) hs h ⟨b, off, none⟩ news.length cap (fCells news) hx (fCells_len _) (fun j u hu => ?_) (oneF_cell _) (by unfold maxLen; omega) (by omega) hbase fun v' w' h1 h2 _ h4 => hk v' w' ?_ ?_
    · have hadd : (⟨b, off, none⟩ : Addr).add j = ⟨b, off + j, none⟩ := by unfold Addr.add; split <;> simp_all
      rw [hadd]; exact hcell j u hu
    · rw [List.length_append, fCells_app]; exact h1
    · exact (Below.refl _ _).grown h2 hbase (fun k hk => (h.lt k hk).1)
def ClF (l : List Fd) (w : World) (e : Ending) (w' : World) : Prop := ∃ v, e = .returned v ∧ w'.ownsRow w.heap.size 81 3 v l.length (fCells l) ∧ Below w.heap.size w w'
set_option maxRecDepth 100000 in
set_option maxHeartbeats 1000000 in
theorem cloneF_any (v : Value) (l : List Fd) (w : World) (hr : IsRow w 3 v l.length (fCells l)) (hl : l.length ≤ 1000) :
    Calls Tryz.prog 46 #[v] w fun e w' => ClF l w e w' := by
  obtain ⟨a0, cap0, rfl⟩ := hr.form
  cases a0 with
  | none =>
    have hn : l.length = 0 := by
      rcases hr.2 with ⟨h, -⟩ | ⟨b, off, cap, hv, -⟩
      · exact h
      · cases hv
    obtain rfl : l = [] := List.eq_nil_of_length_eq_zero hn
    have heq : ∀ w, (binOp BinOp.eql 23 (.slice none 0 cap0) (.slice none 0 0)).run Tryz.prog w = .ok (.bool true) w := fun w => by kernel_rfl
    clear hr hn
    go_enter Tryz.func46, Tryz.ntmps46
    go_wp2
    go_ret
    exact ⟨_, rfl, ⟨rfl, .inl ⟨rfl, rfl⟩⟩, Below.refl _ _⟩
  | some a =>
    have HW : Hid ((w.alloc (.cells #[] 81)).ownsRow w.heap.size 81 3 (.slice (some ⟨w.heap.size, 0, none⟩) 0 0) ([] : List Fd).length (fCells [])) := ⟨rfl, .inr ⟨w.heap.size, 0, #[], rfl, Nat.le_refl _, new_at w _, Nat.le_refl _, Nat.zero_le _, rfl, rfl⟩⟩
    have HB : Hid (Below w.heap.size w (w.alloc (.cells #[] 81))) := al_b w _
    have HR : Hid (IsRow (w.alloc (.cells #[] 81)) 3 (.slice (some a) l.length cap0) l.length (fCells l)) := hr.below (al_b w _)
    have heq : ∀ w, (binOp BinOp.eql 23 (.slice (some a) l.length cap0) (.slice none 0 0)).run Tryz.prog w = .ok (.bool false) w := fun w => by kernel_rfl
    clear hr
    go_enter Tryz.func46, Tryz.ntmps46
    go_wp2_with (at_builtin; go_loud (refine wpl_fds (w.alloc (.cells #[] 81)) rfl (.tmp 5) (.tmp 6) rfl w.heap.size (.slice (some ⟨w.heap.size, 0, none⟩) 0 0) (.slice (some a) l.length cap0) [] l rfl rfl HW.out HR.out (by simp; omega) (by simp) ?_; intro v4 w4 hown4 hb4))
    rw [List.nil_append] at hown4
    have HO : Hid (w4.ownsRow w.heap.size 81 3 v4 l.length (fCells l)) := hown4
    have HB4 : Hid (Below w.heap.size w w4) := HB.out.trans hb4
    clear hown4 hb4 HW HR
    go_wp2
    go_ret
    exact ⟨_, rfl, HO.out, HB4.out⟩
theorem zc_size (z : Array Value) (n : Nat) : (Builtin.zeroCells z n).size = n * z.size := by
  induction n with
  | zero => simp [Builtin.zeroCells]
  | succ n ih => simp_all [Builtin.zeroCells]
set_option maxRecDepth 100000 in
set_option maxHeartbeats 1000000 in
theorem growF_nil (n : Nat) (w : World) (hn : n ≤ 1000) :
    Calls Tryz.prog 116 #[.slice none 0 0, .int .i64 (n : Int)] w fun e w' => ClF [] w e w' := by
  obtain ⟨i0, hi0, hz0, hz1, hz2⟩ := info_parts info_fd
  by_cases h0 : n = 0
  · subst h0
    go_enter Tryz.func116, Tryz.ntmps116
    go_wp2
    go_ret
    exact ⟨_, rfl, ⟨rfl, .inl ⟨rfl, rfl⟩⟩, Below.refl _ _⟩
  · have hr : ∀ ty, (Builtin.append_ #[23, 3] ty #[.slice none 0 0, .int .i64 (n : Int)]).run Tryz.prog w = .ok (.slice (some ⟨w.heap.size, 0, none⟩) n (grownCap w n 0 81)) (w.drew.alloc (.cells (Builtin.zeroCells (#[.string ⟨#[]⟩, .int .i64 0, .bool false] : Array Value) n ++ Builtin.zeroCells #[.string ⟨#[]⟩, .int .i64 0, .bool false] (grownCap w n 0 81 - n)) 81)) := fun ty =>
      Lib.run_append_nil_zeros w 23 3 ty 81 i0 _ .i64 .i64 Tryz.underlying23 Tryz.underlying3 hi0 hz0 n (by omega) (by omega) (by omega) (by rw [hz2]; omega)
    have hG := grownCap_ge w n 0 81
    have hG2 := grownCap_le_maxLen w n 0 81 (by unfold maxLen; omega)
    generalize grownCap w n 0 81 = G at *
    have HO : Hid (ClF [] w (.returned (.slice (some ⟨w.heap.size, 0, none⟩) 0 G)) (w.drew.alloc (.cells (Builtin.zeroCells (#[.string ⟨#[]⟩, .int .i64 0, .bool false] : Array Value) n ++ Builtin.zeroCells #[.string ⟨#[]⟩, .int .i64 0, .bool false] (G - n)) 81))) := by
      refine ⟨_, rfl, ⟨rfl, .inr ⟨w.heap.size, G, _, rfl, Nat.le_refl _, new_at w.drew _, Nat.zero_le _, hG2, ?_, rfl⟩⟩, ?_⟩
      · rw [Array.size_append, zc_size, zc_size]
        show n * 3 + (G - n) * 3 = G * 3
        omega
      · exact ((Below.refl _ _).drew).alloc (Nat.le_refl _) _
    have hG3 : G ≤ 9223372036854775807 := by unfold maxLen at hG2; omega
    have d0 : ¬ ((n : Int) < 0) := by omega
    have d1 : (0 : Int) < (n : Int) := by omega
    generalize (w.drew.alloc (.cells (Builtin.zeroCells (#[.string ⟨#[]⟩, .int .i64 0, .bool false] : Array Value) n ++ Builtin.zeroCells #[.string ⟨#[]⟩, .int .i64 0, .bool false] (G - n)) 81)) = W at *
    go_enter Tryz.func116, Tryz.ntmps116
    go_wp2_with (at_builtin; refine Lib.wpList_append_run _ rfl _ _ _ _ rfl _ _ rfl rfl _ _ (hr _) ?_)
    go_wp2
    go_ret
    exact HO.out
end Go.Proofs.YtkcnkjaeidbjbaaGreatDoor
/- slices.Concat of two rows of fields: its walk. -/
namespace Go.Proofs.YtkcnkjaeidbjbaaGreatDoor
open Go.RowKit Go.ChangeMaps

def pre2 (a b : List Fd) (k : Nat) : List Fd := if k = 0 then [] else if k = 1 then a else a ++ b
set_option maxRecDepth 100000 in
set_option maxHeartbeats 2000000 in
theorem concatF_any (B : Nat) (v u : Value) (a b : List Fd) (w : World) (hr : IsRow w 3 v a.length (fCells a)) (hq : IsRow w 3 u b.length (fCells b)) (c0 : w.cell? ⟨B, 0, none⟩ = some v) (c1 : w.cell? ⟨B, 1, none⟩ = some u) (ha : a.length ≤ 100) (hb : b.length ≤ 100) :
    Calls Tryz.prog 90 #[.slice (some ⟨B, 0, none⟩) 2 2] w fun e w' => ClF (a ++ b) w e w' := by
  have hB : B < w.heap.size := World.block_lt_of_cell? _ _ c0
  obtain ⟨a0, cap0, rfl⟩ := hr.form
  obtain ⟨a1, cap1, rfl⟩ := hq.form
  have HA : Hid (∀ W, Below w.heap.size w W → (W.cell? ⟨B, 0, none⟩ = some (.slice a0 a.length cap0) ∧ W.cell? ⟨B, 1, none⟩ = some (.slice a1 b.length cap1)) ∧ IsRow W 3 (.slice a0 a.length cap0) a.length (fCells a) ∧ IsRow W 3 (.slice a1 b.length cap1) b.length (fCells b)) := fun W h => ⟨⟨(h.cell (p := ⟨B, 0, none⟩) hB).trans c0, (h.cell (p := ⟨B, 1, none⟩) hB).trans c1⟩, hr.below h, hq.below h⟩
  clear hr hq
  go_enter Tryz.func90, Tryz.ntmps90
  go_wp2_with fail
  go_loopw [3, 11] (fun s i wr => ∃ k : Nat, k ≤ 2 ∧ i = .int .i64 (k : Int) ∧ s = .int .i64 ((pre2 a b k).length : Int) ∧ w = wr) (fun _ i _ => 2 - (intOf i).toNat)
  case atStart => exact ⟨0, by omega, rfl, rfl, rfl⟩
  case round =>
    obtain ⟨k, hk, rfl, rfl, rfl⟩ := hrel
    obtain rfl | rfl | rfl : k = 0 ∨ k = 1 ∨ k = 2 := by omega
    · have e0 : (pre2 a b 0).length = 0 := rfl
      have e1 : Hid ((pre2 a b 1).length = a.length) := rfl
      have nn : ¬ ((a.length : Int) < 0) := by omega
      rw [e0]
      clear e0
      go_wp2
      go_roundw
      case rel => exact ⟨1, by omega, rfl, by rw [e1.out], trivial⟩
      case measure => simp [intOf]
    · have e0 : (pre2 a b 1).length = a.length := rfl
      have e1 : Hid ((pre2 a b 2).length = a.length + b.length) := by
        show (a ++ b).length = _
        exact List.length_append
      have nn : ¬ ((a.length : Int) + (b.length : Int) < 0) := by omega
      have wz : IntKind.i64.wrap ((a.length : Int) + (b.length : Int)) = (a.length : Int) + (b.length : Int) := by
        rw [IntKind.wrap_i64]; omega
      rw [e0]
      clear e0
      go_wp2
      go_roundw
      case rel => exact ⟨2, by omega, rfl, by rw [e1.out]; simp, trivial⟩
      case measure => simp [intOf]
    · have e0 : (pre2 a b 2).length = a.length + b.length := by
        show (a ++ b).length = _
        exact List.length_append
      have HG : Hid (Calls Tryz.prog 116 #[.slice none 0 0, .int .i64 ((pre2 a b 2).length : Int)] w fun e w' => ClF [] w e w') := growF_nil _ w (by rw [e0]; omega)
      clear e0
      generalize (pre2 a b 2).length = n at *
      go_wp2_with fail
      refine HG.out.mono ?_
      rintro e w1 ⟨v1, rfl, ho1, hb1⟩
      have HO1 : Hid (w1.ownsRow w.heap.size 81 3 v1 (pre2 a b 0).length (fCells (pre2 a b 0))) := ho1
      have HB1 : Hid (Below w.heap.size w w1) := hb1
      clear ho1 hb1 HG
      go_wp2_with fail
      go_loopw [6, 27] (fun s i wr => ∃ k : Nat, k ≤ 2 ∧ i = .int .i64 (k : Int) ∧ Hid (wr.ownsRow w.heap.size 81 3 s (pre2 a b k).length (fCells (pre2 a b k))) ∧ Hid (Below w.heap.size w wr)) (fun _ i _ => 2 - (intOf i).toNat)
      case atStart => exact ⟨0, by omega, rfl, HO1, HB1⟩
      case round =>
        clear HO1 HB1 c0 c1
        obtain ⟨k, hk, rfl, HO, HB⟩ := hrel
        obtain ⟨⟨c0, c1⟩, r0, r1⟩ := HA.out wr HB.out
        have HR0 : Hid (IsRow wr 3 (.slice a0 a.length cap0) a.length (fCells a)) := r0
        have HR1 : Hid (IsRow wr 3 (.slice a1 b.length cap1) b.length (fCells b)) := r1
        have hsz := HB.out.size
        clear r0 r1
        obtain rfl | rfl | rfl : k = 0 ∨ k = 1 ∨ k = 2 := by omega
        · go_wp2_with (at_builtin; go_loud (refine wpl_fds wr rfl (.tmp 31) (.tmp 32) rfl w.heap.size u6 (.slice a0 a.length cap0) [] a rfl rfl HO.out HR0.out (by simp; omega) hsz ?_; intro v4 w4 hown4 hb4))
          have HO4 : Hid (w4.ownsRow w.heap.size 81 3 v4 (pre2 a b 1).length (fCells (pre2 a b 1))) := hown4
          have HB4 : Hid (Below w.heap.size w w4) := HB.out.trans hb4
          clear hown4 hb4 HO HR0 HR1
          go_wp2
          go_roundw
          case rel => exact ⟨1, by omega, rfl, HO4, HB4⟩
          case measure => simp [intOf]
        · go_wp2_with (at_builtin; go_loud (refine wpl_fds wr rfl (.tmp 31) (.tmp 32) rfl w.heap.size u6 (.slice a1 b.length cap1) a b rfl rfl HO.out HR1.out (by omega) hsz ?_; intro v4 w4 hown4 hb4))
          have HO4 : Hid (w4.ownsRow w.heap.size 81 3 v4 (pre2 a b 2).length (fCells (pre2 a b 2))) := hown4
          have HB4 : Hid (Below w.heap.size w w4) := HB.out.trans hb4
          clear hown4 hb4 HO HR0 HR1
          go_wp2
          go_roundw
          case rel => exact ⟨2, by omega, rfl, HO4, HB4⟩
          case measure => simp [intOf]
        · clear HR0 HR1
          go_wp2
          go_ret
          exact ⟨_, rfl, HO.out, HB.out⟩
end Go.Proofs.YtkcnkjaeidbjbaaGreatDoor
/- How bytes stand: plain. -/
namespace Go.Proofs.YtkcnkjaeidbjbaaGreatDoor
open Go.RowKit

theorem cmp_self : ∀ l : List UInt8, Lib.compareBytes l l = 0
  | [] => rfl
  | b :: l => by simp [Lib.compareBytes, cmp_self l]
theorem cmp_zero : ∀ (a b : List UInt8), Lib.compareBytes a b = 0 → a = b
  | [], [] => fun _ => rfl
  | [], b :: l => by simp [Lib.compareBytes]
  | a :: k, [] => by simp [Lib.compareBytes]
  | a :: k, b :: l => by
    simp only [Lib.compareBytes]
    split
    · intro h; cases h
    split
    · intro h; cases h
    · rename_i h1 h2
      intro h
      have e : a = b := UInt8.le_antisymm (UInt8.not_lt.1 h2) (UInt8.not_lt.1 h1)
      rw [e, cmp_zero k l h]
theorem cmp_anti : ∀ (a b : List UInt8), Lib.compareBytes a b = - Lib.compareBytes b a
  | [], [] => rfl
  | [], b :: l => by simp [Lib.compareBytes]
  | a :: k, [] => by simp [Lib.compareBytes]
  | a :: k, b :: l => by
    simp only [Lib.compareBytes]
    by_cases h1 : a < b
    · have h2 : ¬ b < a := UInt8.lt_asymm h1
      simp [h1, h2]
    · by_cases h2 : b < a
      · simp [h1, h2]
      · simp [h1, h2, cmp_anti k l]
theorem cmp_vals : ∀ (a b : List UInt8), Lib.compareBytes a b = -1 ∨ Lib.compareBytes a b = 0 ∨ Lib.compareBytes a b = 1
  | [], [] => by simp [Lib.compareBytes]
  | [], b :: l => by simp [Lib.compareBytes]
  | a :: k, [] => by simp [Lib.compareBytes]
  | a :: k, b :: l => by
    simp only [Lib.compareBytes]
    split
    · simp
    split
    · simp
    · exact cmp_vals k l
theorem cmp_trans : ∀ (a b c : List UInt8), Lib.compareBytes a b = -1 → Lib.compareBytes b c = -1 → Lib.compareBytes a c = -1
  | [], [], c => by simp [Lib.compareBytes]
  | [], b :: l, [] => by simp [Lib.compareBytes]
  | [], b :: l, c :: m => by simp [Lib.compareBytes]
  | a :: k, [], c => by simp [Lib.compareBytes]
  | a :: k, b :: l, [] => by simp [Lib.compareBytes]
  | a :: k, b :: l, c :: m => by
    have ih := cmp_trans k l m
    simp only [Lib.compareBytes]
    by_cases h1 : a < b
    · by_cases h3 : b < c
      · have h5 : a < c := UInt8.lt_trans h1 h3
        simp [h5]
      · by_cases h4 : c < b
        · simp [h3, h4]
        · have e : b = c := UInt8.le_antisymm (UInt8.not_lt.1 h4) (UInt8.not_lt.1 h3)
          subst e
          simp [h1]
    · by_cases h2 : b < a
      · simp [h1, h2]
      · have e : a = b := UInt8.le_antisymm (UInt8.not_lt.1 h2) (UInt8.not_lt.1 h1)
        subst e
        by_cases h3 : a < c
        · simp [h3]
        · by_cases h4 : c < a
          · simp [h3, h4]
          · simp only [h1, h3, h4, if_false]
            exact ih

end Go.Proofs.YtkcnkjaeidbjbaaGreatDoor
/- Fields that are sorted: plain mathematics of a merge. -/
namespace Go.Proofs.YtkcnkjaeidbjbaaGreatDoor
open Go.RowKit

/-- Ahead, by the names. -/
def ltF (x y : Fd) : Prop := cmpL x.n.data.toList y.n.data.toList = -1
theorem cmpL_lt {a b : List UInt8} : cmpL a b < 0 ↔ cmpL a b = -1 := by
  have := cmp_vals (foldL a) (foldL b)
  unfold cmpL
  omega
theorem ltF_trans {x y z : Fd} (h1 : ltF x y) (h2 : ltF y z) : ltF x z := cmp_trans _ _ _ h1 h2
theorem ltF_irr (x : Fd) : ¬ ltF x x := by
  unfold ltF cmpL
  rw [cmp_self]
  decide
/-- Not the same names. -/
def neF (x y : Fd) : Prop := sameL x.n.data.toList y.n.data.toList = false
theorem neF_symm {x y : Fd} (h : neF x y) : neF y x := by
  unfold neF sameL at *
  rw [decide_eq_false_iff_not] at *
  exact fun e => h e.symm
theorem ltF_ne {x y : Fd} (h : ltF x y) : neF x y := by
  unfold neF sameL
  rw [decide_eq_false_iff_not]
  intro e
  unfold ltF cmpL at h
  rw [e, cmp_self] at h
  cases h
theorem ltF_of {x y : Fd} (h1 : ¬ cmpL y.n.data.toList x.n.data.toList < 0) (h2 : neF x y) : ltF x y := by
  unfold ltF
  have hv := cmp_vals (foldL x.n.data.toList) (foldL y.n.data.toList)
  have ha := cmp_anti (foldL y.n.data.toList) (foldL x.n.data.toList)
  unfold cmpL at *
  rcases hv with h | h | h
  · exact h
  · have := cmp_zero _ _ h
    unfold neF sameL at h2
    rw [decide_eq_false_iff_not] at h2
    exact absurd this h2
  · omega
theorem chk_sorted {l : List Fd} (h : chkF l = true) : l.Pairwise ltF := by
  unfold chkF at h
  simp only [Bool.and_eq_true, decide_eq_true_eq] at h
  have key : ∀ (j i : Nat) (hi : i < j) (hj : j < l.length), ltF (l[i]'(by omega)) l[j] := by
    intro j
    induction j with
    | zero => intro i hi; omega
    | succ j ih =>
      intro i hi hj
      have h1 : ltF l[j] l[j + 1] := cmpL_lt.1 ((h.2 (j + 1) hj).2 j rfl)
      by_cases e : i = j
      · subst e; exact h1
      · exact ltF_trans (ih i (by omega) (by omega)) h1
  rw [List.pairwise_iff_getElem]
  exact fun i j hi hj hij => key j i hij hj
theorem chk_mayF {l : List Fd} (h : chkF l = true) : ∀ x ∈ l, mayF x = true := by
  unfold chkF at h
  simp only [Bool.and_eq_true, decide_eq_true_eq] at h
  intro x hx
  obtain ⟨i, hi, rfl⟩ := List.mem_iff_getElem.1 hx
  exact (h.2 i hi).1
theorem chk_of {l : List Fd} (h1 : l.length ≤ 24) (h2 : ∀ x ∈ l, mayF x = true) (h3 : l.Pairwise ltF) : chkF l = true := by
  unfold chkF
  simp only [Bool.and_eq_true, decide_eq_true_eq]
  refine ⟨h1, fun k hk => ⟨h2 _ (List.getElem_mem hk), fun j e => ?_⟩⟩
  subst e
  exact cmpL_lt.2 ((List.pairwise_iff_getElem.1 h3) j (j + 1) (by omega) hk (by omega))
/-- Not behind. -/
def leF (x y : Fd) : Prop := ¬ cmpL y.n.data.toList x.n.data.toList < 0
/-- What two schemas make together, sorted. -/
def MrgD (a b D : List Fd) : Prop := D.Perm (a ++ b) ∧ D.Pairwise ltF
theorem clash_iff {a b : List Fd} : clashL a b = false ↔ ∀ x ∈ a, ∀ y ∈ b, neF x y := by
  unfold clashL
  rw [List.any_eq_false]
  constructor
  · intro h x hx y hy
    have := h y hy
    unfold neF
    cases e : sameL x.n.data.toList y.n.data.toList
    · rfl
    · exfalso
      apply this
      unfold getF
      rw [List.find?_isSome]
      exact ⟨x, hx, e⟩
  · intro h y hy hs
    unfold getF at hs
    rw [List.find?_isSome] at hs
    obtain ⟨x, hx, e⟩ := hs
    have := h x hx y hy
    unfold neF at this
    rw [this] at e
    cases e
theorem clash_symm (a b : List Fd) : clashL a b = clashL b a := by
  have key : ∀ a b : List Fd, clashL a b = false → clashL b a = false := fun a b h => clash_iff.2 fun x hx y hy => neF_symm (clash_iff.1 h y hy x hx)
  cases h1 : clashL a b <;> cases h2 : clashL b a <;> first | rfl | (rw [key _ _ h1] at h2; cases h2) | (rw [key _ _ h2] at h1; cases h1)
theorem mergeE_symm (a b : List Fd) : mergeE a b = mergeE b a := by
  unfold mergeE
  rw [clash_symm a b]
  by_cases h1 : chkF a = true <;> by_cases h2 : chkF b = true <;> simp [h1, h2]
theorem mergeE_ok {a b : List Fd} (h : mergeE a b = 0) : chkF a = true ∧ chkF b = true ∧ clashL a b = false := by
  unfold mergeE at h
  split at h
  · rename_i hc
    split at h
    · cases h
    · rename_i hn
      exact ⟨hc.1, hc.2, by simpa using hn⟩
  · cases h
theorem app_ne {a b : List Fd} (h : mergeE a b = 0) : (a ++ b).Pairwise neF := by
  obtain ⟨ha, hb, hc⟩ := mergeE_ok h
  rw [List.pairwise_append]
  exact ⟨(chk_sorted ha).imp ltF_ne, (chk_sorted hb).imp ltF_ne, clash_iff.1 hc⟩
theorem app_may {a b : List Fd} (h : mergeE a b = 0) : ∀ x ∈ a ++ b, mayF x = true := by
  obtain ⟨ha, hb, -⟩ := mergeE_ok h
  intro x hx
  rcases List.mem_append.1 hx with hx | hx
  · exact chk_mayF ha x hx
  · exact chk_mayF hb x hx
/-- What is sorted so is what both make together. -/
theorem mrg_of {a b D : List Fd} (h : mergeE a b = 0) (hp : D.Perm (a ++ b)) (hs : D.Pairwise leF) : MrgD a b D := by
  refine ⟨hp, ?_⟩
  have hne : D.Pairwise neF := (hp.pairwise_iff neF_symm).2 (app_ne h)
  exact (hs.and hne).imp fun ⟨h1, h2⟩ => ltF_of h1 h2
theorem mrg_chk {a b D : List Fd} (h : mergeE a b = 0) (hm : MrgD a b D) (hl : a.length + b.length ≤ 24) : chkF D = true :=
  chk_of (by rw [hm.1.length_eq, List.length_append]; exact hl) (fun x hx => app_may h x (hm.1.mem_iff.1 hx)) hm.2
theorem mrg_uniq {a b D D' : List Fd} (h : MrgD a b D) (h' : MrgD b a D') : D = D' := by
  refine List.Perm.eq_of_pairwise (le := ltF) (fun x y _ _ h1 h2 => ?_) h.2 h'.2 (h.1.trans (List.perm_append_comm.trans h'.1.symm))
  exact absurd (ltF_trans h1 h2) (ltF_irr x)
theorem mrg_len {a b D : List Fd} (h : MrgD a b D) : D.length = a.length + b.length := by rw [h.1.length_eq, List.length_append]
theorem sameF_self (x : Fd) : sameF x x = true := by simp [sameF, sameL]
theorem mrg_within {a b D : List Fd} (h : MrgD a b D) : withinL a D = true ∧ withinL b D = true := by
  have key : ∀ x ∈ D, isInL x D = true := fun x hx => List.any_eq_true.2 ⟨x, hx, sameF_self x⟩
  exact ⟨List.all_eq_true.2 fun x hx => key x (h.1.mem_iff.2 (by simp [hx])), List.all_eq_true.2 fun x hx => key x (h.1.mem_iff.2 (by simp [hx]))⟩
/-! ### what fits a part fits the whole -/
theorem fit1_iff (l : List Fd) : ∀ a : List At, fit1 l a = 0 ↔ ∀ y ∈ a, ∃ f, getF l y.n = some f ∧ f.k = y.k
  | [] => by simp [fit1]
  | y :: a => by
    rw [fit1]
    have ih := fit1_iff l a
    constructor
    · intro h z hz
      cases hg : getF l y.n with
      | none => rw [hg] at h; cases h
      | some f =>
        rw [hg] at h
        dsimp only at h
        split at h
        · rename_i hk
          rcases List.mem_cons.1 hz with rfl | hz
          · exact ⟨f, hg, hk⟩
          · exact ih.1 h z hz
        · cases h
    · intro h
      obtain ⟨f, hg, hk⟩ := h y (by simp)
      rw [hg]
      dsimp only
      rw [if_pos hk]
      exact ih.2 fun z hz => h z (by simp [hz])
theorem fit2_iff (a : List At) : ∀ l : List Fd, fit2 a l = 0 ↔ ∀ f ∈ l, f.m = true → (getA a f.n).isSome = true
  | [] => by simp [fit2]
  | f :: l => by
    rw [fit2]
    have ih := fit2_iff a l
    constructor
    · intro h g hg hm
      split at h
      · cases h
      · rename_i hn
        rcases List.mem_cons.1 hg with rfl | hg
        · cases e : (getA a g.n).isSome
          · exact absurd ⟨hm, e⟩ hn
          · rfl
        · exact ih.1 h g hg hm
    · intro h
      rw [if_neg (fun hh => by have := h f (by simp) hh.1; rw [this] at hh; exact absurd hh.2 (by decide))]
      exact ih.2 fun g hg => h g (by simp [hg])
theorem getF_mem {l : List Fd} {s : ByteArray} {f : Fd} (h : getF l s = some f) : f ∈ l ∧ sameL f.n.data.toList s.data.toList = true := ⟨List.mem_of_find?_eq_some h, by have := List.find?_some h; exact this⟩
theorem pair_ne {D : List Fd} (h : D.Pairwise ltF) {x y : Fd} (hx : x ∈ D) (hy : y ∈ D) (hs : sameL x.n.data.toList y.n.data.toList = true) : x = y := by
  obtain ⟨i, hi, rfl⟩ := List.mem_iff_getElem.1 hx
  obtain ⟨j, hj, rfl⟩ := List.mem_iff_getElem.1 hy
  have hp := List.pairwise_iff_getElem.1 h
  rcases Nat.lt_trichotomy i j with e | e | e
  · have := ltF_ne (hp i j hi hj e)
    unfold neF at this
    rw [this] at hs
    cases hs
  · subst e; rfl
  · have := neF_symm (ltF_ne (hp j i hj hi e))
    unfold neF at this
    rw [this] at hs
    cases hs
theorem fits_more {a b D : List Fd} {x : List At} (h : mergeE a b = 0) (hm : MrgD a b D) (hl : a.length + b.length ≤ 24) (hb : ∀ y ∈ b, y.m = false) (hf : fitsL a x = 0) : fitsL D x = 0 := by
  unfold fitsL at hf ⊢
  split at hf
  · rename_i hc
    split at hf
    · rename_i h1
      have g1 : fit1 D x = 0 := (fit1_iff D x).2 fun y hy => by
        obtain ⟨f, hg, hk⟩ := (fit1_iff a x).1 h1 y hy
        obtain ⟨m1, m2⟩ := getF_mem hg
        have hfD : f ∈ D := hm.1.mem_iff.2 (by simp [m1])
        have hs : (getF D y.n).isSome = true := by
          unfold getF
          rw [List.find?_isSome]
          exact ⟨f, hfD, m2⟩
        obtain ⟨f', hg'⟩ := Option.isSome_iff_exists.1 hs
        obtain ⟨n1, n2⟩ := getF_mem hg'
        have : f' = f := pair_ne hm.2 n1 hfD (by
          unfold sameL at *
          simp only [decide_eq_true_eq] at *
          rw [n2, m2])
        subst this
        exact ⟨f', hg', hk⟩
      have g2 : fit2 x D = 0 := (fit2_iff x D).2 fun f hfD hmu => by
        rcases List.mem_append.1 (hm.1.mem_iff.1 hfD) with hfa | hfb
        · exact (fit2_iff x a).1 hf f hfa hmu
        · rw [hb f hfb] at hmu; cases hmu
      rw [if_pos ⟨mrg_chk h hm hl, hc.2⟩, if_pos g1]
      exact g2
    · exact absurd hf (by assumption)
  · cases hf
end Go.Proofs.YtkcnkjaeidbjbaaGreatDoor
