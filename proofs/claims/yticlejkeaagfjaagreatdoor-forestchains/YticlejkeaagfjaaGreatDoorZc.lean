/- schema.kindOf, schema.parseField: walks. -/
import Derived.Test.YticlejkeaagfjaaGreatDoorEE
import Derived.Test.YticlejkeaagfjaaGreatDoorEF
import Derived.Lib.SplitLaws
namespace Go.Proofs.YticlejkeaagfjaaGreatDoor
open Go.RowKit

def wordK : Nat → List UInt8
  | 1 => [105, 110, 116]
  | 2 => [116, 101, 120, 116]
  | 3 => [98, 111, 111, 108]
  | _ => [98, 121, 116, 101, 115]
/-- The kind of a word. -/
def kindW (s : List UInt8) : Int := if s = wordK 1 then 1 else if s = wordK 2 then 2 else if s = wordK 3 then 3 else if s = wordK 4 then 4 else 0
theorem kindW_at {s : List UInt8} {k : Nat} (h1 : 1 ≤ k) (h2 : k < 5) (hb : ∀ j, 1 ≤ j → j < k → s ≠ wordK j) (hk : s = wordK k) : kindW s = (k : Int) := by
  have : k = 1 ∨ k = 2 ∨ k = 3 ∨ k = 4 := by omega
  unfold kindW
  rcases this with rfl | rfl | rfl | rfl
  · rw [if_pos hk]; rfl
  · rw [if_neg (hb 1 (by omega) (by omega)), if_pos hk]; rfl
  · rw [if_neg (hb 1 (by omega) (by omega)), if_neg (hb 2 (by omega) (by omega)), if_pos hk]; rfl
  · rw [if_neg (hb 1 (by omega) (by omega)), if_neg (hb 2 (by omega) (by omega)), if_neg (hb 3 (by omega) (by omega)), if_pos hk]; rfl
theorem kindW_no {s : List UInt8} (hb : ∀ j, 1 ≤ j → j < 5 → s ≠ wordK j) : kindW s = 0 := by
  unfold kindW
  rw [if_neg (hb 1 (by omega) (by omega)), if_neg (hb 2 (by omega) (by omega)), if_neg (hb 3 (by omega) (by omega)), if_neg (hb 4 (by omega) (by omega))]
end Go.Proofs.YticlejkeaagfjaaGreatDoor
/- schema.parseField: its walk. -/
namespace Go.Proofs.YticlejkeaagfjaaGreatDoor
open Go.RowKit

/-- The field that a text says. -/
def parseF (s : List UInt8) : Fd := ⟨str (Lib.cut s [32]).1, kindW (Lib.trimSuffix (Lib.cut s [32]).2.1 [33]), Lib.hasSuffix (Lib.cut s [32]).2.1 [33]⟩
theorem results_cell1 {fn : Func} {p : Tmp} {ty : TypeId} (h : fn.results = #[.cell p ty]) (tmps : Array Value) (P : Program) (w : World) :
    (results fn tmps).run P w = ((asAddr (tmps.getD p undef)).run P w).andThen fun a w₁ => (loadVar ty a).run P w₁ := by
  simp only [results, h]
  simp [Sem.run_bind, Result.andThen]
theorem cut_le (s sep : List UInt8) : (Lib.cut s sep).2.1.length ≤ s.length := by
  unfold Lib.cut
  split <;> simp
end Go.Proofs.YticlejkeaagfjaaGreatDoor
/- schema.Parse: its walk. -/
namespace Go.Proofs.YticlejkeaagfjaaGreatDoor
open Go.RowKit

theorem split_size (sep : ByteArray) : ∀ (k : Nat) (s x : ByteArray), x ∈ Lib.splitB sep 0 k s → x.size ≤ s.size
  | 0, s, x, h => by
    obtain rfl : x = s := by simpa [Lib.splitB] using h
    exact Nat.le_refl _
  | k + 1, s, x, h => by
    unfold Lib.splitB at h
    split at h
    · obtain rfl : x = s := by simpa using h
      exact Nat.le_refl _
    · rcases List.mem_cons.1 h with rfl | h
      · rw [ByteArray.size_extract]; omega
      · have := split_size sep k _ x h
        rw [ByteArray.size_extract] at this
        omega
theorem cut_le1 (s sep : List UInt8) : (Lib.cut s sep).1.length ≤ s.length := by
  unfold Lib.cut
  split <;> simp <;> omega
/-- The pieces of a line, and the fields that they say. -/
def pL (s : ByteArray) : List ByteArray := Lib.splitB ⟨#[44, 32]⟩ 0 (min 25 (s.size + 1) - 1) s
def parseL (s : ByteArray) : List Fd := (pL s).map fun x => parseF x.data.toList
theorem pL_len (s : ByteArray) : (pL s).length ≤ min 25 (s.size + 1) := by
  have := Lib.splitB_length_le ⟨#[44, 32]⟩ 0 (min 25 (s.size + 1) - 1) s
  unfold pL
  omega
theorem parse_nm (s : ByteArray) (hs : s.size ≤ 1000000) : NmF (parseL s) := by
  intro x hx
  obtain ⟨y, hy, rfl⟩ := List.mem_map.1 hx
  have h1 := split_size _ _ _ _ hy
  have h2 := cut_le1 y.data.toList [32]
  have h3 : y.data.toList.length = y.size := by simp
  show (str (Lib.cut y.data.toList [32]).1).size ≤ _
  rw [str_size]
  omega
theorem parse_take (s : ByteArray) (k : Nat) (hk : k < (pL s).length) : fCells (((pL s).take (k + 1)).map fun x => parseF x.data.toList) = fCells (((pL s).take k).map fun x => parseF x.data.toList) ++ enF (parseF (pL s)[k].data.toList) := by
  rw [List.take_succ_eq_append_getElem hk, List.map_append, fCells, List.flatMap_append]
  simp [fCells]
/-- What a line says: the fields, and the error. -/
def parseR (s : ByteArray) : List Fd × Int := if s.data.toList = [45] then ([], 0) else if chkF (parseL s) = true then (parseL s, 0) else ([], 3)
def PrPost (s : ByteArray) (w : World) (e : Ending) (w' : World) : Prop :=
  ∃ v, e = .returned (.tuple #[v, .int .i64 (parseR s).2]) ∧ IsRow w' 3 v (parseR s).1.length (fCells (parseR s).1) ∧ Below w.heap.size w w'
theorem info_fd : (Tryz.prog.info? 93).map (fun i => (i.zero, i.size, i.bytes)) = some (some (.agg #[.string ⟨#[]⟩, .int .i64 0, .bool false]), 3, 32) := by kernel_rfl
theorem wpl_appE {P : Program} (wr : World) {ops : Array Oper} {rest : List Oper} {o : Oper} {a : Act} {Q : Exit → Act → World → Prop} (hgd : o.guard = none) (s x : Operand) (t e : TypeId)
    (ho : o.op = .call { callee := .builtin .append, args := #[s, x], argTypes := #[t, t] })
    (i : TypeInfo) (z : Value) (size bytes : Nat) (ht : P.underlying t = some (.slice e)) (hi : P.info? e = some i) (hz : i.zero = some z)
    (hsize : i.size = size) (hby : i.bytes = bytes) (hzs : z.cells.size = size) (hsz : 0 < size)
    (base : Nat) (v : Value) (n : Nat) (xs : List Value) (hs : a.eval s = v) (hown : wr.ownsRow base e size v n xs)
    (es : List Value) (hes : es.length = size) (C : Array Value) (hC : C = es.toArray) (hx : a.eval x = .slice (some ⟨wr.heap.size, 0, none⟩) 1 1) (h1 : ∀ u ∈ es, u.oneCell' = true)
    (hbytes : (n + 1) * bytes ≤ 140737488355328) (h63 : n + 1 ≤ maxLen) (hbase : base ≤ wr.heap.size)
    (h : ∀ v' w', w'.ownsRow base e size v' (n + 1) (xs ++ es) → Below base wr w' → wpList P ops Q rest (a.put o.dst v') w') :
    wpList P ops Q (o :: rest) a (wr.alloc (.cells C e)) := by
  subst hC
  refine wpList_append_own _ hgd s x t ho base e i z size bytes ht hi hz hsize hby hzs hsz v n xs hs (hown.alloc _) ⟨wr.heap.size, 0, none⟩ 1 1 es hx (by omega) ?_ h1 h63 hbytes ?_ ?_
  · intro j u hj
    have : (⟨wr.heap.size, 0, none⟩ : Addr).add j = ⟨wr.heap.size, j, none⟩ := by unfold Addr.add; split <;> simp_all
    rw [this]
    simp
    exact hj
  · simp; omega
  · intro v' w' h2 h3 _
    exact h v' w' h2 (((Below.refl _ _).alloc hbase _).grown h3 (by simp; omega) (fun k hk => (hown.lt k hk).1))
theorem own_belowE {w w1 : World} {base : Nat} {e : TypeId} {sz : Nat} {v : Value} {n : Nat} {xs : List Value} (h : w.ownsRow base e sz v n xs) (hb : Below w.heap.size w w1) : w1.ownsRow base e sz v n xs :=
  h.kept (row := none) ⟨hb.os, hb.tape, hb.output, hb.size, fun k hk _ => hb.block k hk⟩ (by cases hv : v.ownBlock <;> simp)
def sVals (l : List ByteArray) : List Value := l.map Value.string
theorem s_at {w : World} {a : Option Addr} {cap n : Nat} {l : List ByteArray} (h : IsRow w 1 (.slice a n cap) l.length (sVals l)) (h0 : 0 < l.length) :
    ∃ b off, a = some ⟨b, off, none⟩ ∧ n = l.length ∧ b < w.heap.size ∧ l.length ≤ cap ∧ ∀ (k : Nat) (hk : k < l.length), w.cell? ⟨b, off + k, none⟩ = some (.string l[k]) := by
  obtain ⟨b, off, cap', hv, hlt, q1, q2, hc⟩ := h.open (by omega)
  simp only [Value.slice.injEq] at hv
  exact ⟨b, off, hv.1, hv.2.1, hlt, by omega, fun k hk => hc k _ (by simp [sVals, hk])⟩
theorem split_row (s : ByteArray) (w : World) : IsRow (w.alloc (.cells (Lib.cellsOf (pL s) (min 25 (s.size + 1))) 9)) 1 (.slice (some ⟨w.heap.size, 0, none⟩) (pL s).length (min 25 (s.size + 1))) (pL s).length (sVals (pL s)) := by
  refine ⟨by simp [sVals], .inr ⟨w.heap.size, 0, min 25 (s.size + 1), rfl, by simp, pL_len s, by unfold maxLen; omega, ?_⟩⟩
  intro j u hu
  have hj : j < (pL s).length := by
    have := (List.getElem?_eq_some_iff.1 hu).1
    simpa [sVals] using this
  rw [Lib.cell_of_heap (new_at w _)]
  simp only [Lib.cellsOf, Nat.zero_add, List.getElem?_toArray]
  rw [List.getElem?_append_left (by simpa using hj)]
  exact hu
end Go.Proofs.YticlejkeaagfjaaGreatDoor
/- schema.Merge where it tells an error: its walk. -/
namespace Go.Proofs.YticlejkeaagfjaaGreatDoor
open Go.RowKit

/-- Has one of the fields a name that is there? -/
def clashL (a b : List Fd) : Bool := b.any fun x => (getF a x.n).isSome
/-- What Merge tells ahead of sorting. -/
def mergeE (a b : List Fd) : Int := if chkF a = true ∧ chkF b = true then (if clashL a b = true then 9 else 0) else 1
theorem clash_at {a b : List Fd} {k : Nat} (h : k < b.length) (hk : (getF a b[k].n).isSome = true) : clashL a b = true := List.any_eq_true.2 ⟨_, List.getElem_mem h, hk⟩
theorem clash_no {a b : List Fd} (h : ∀ (k : Nat) (hk : k < b.length), (getF a b[k].n).isSome = false) : clashL a b = false := by
  unfold clashL
  rw [List.any_eq_false]
  intro y hy
  obtain ⟨j, hj, rfl⟩ := List.getElem_of_mem hy
  rw [h j hj]
  exact Bool.false_ne_true
set_option maxRecDepth 100000 in
set_option maxHeartbeats 4000000 in
theorem merge_bad (v u : Value) (l a : List Fd) (w : World) (hr : IsRow w 3 v l.length (fCells l)) (hq : IsRow w 3 u a.length (fCells a)) (hl : l.length ≤ 1000000) (hal : a.length ≤ 1000000) (hn : NmF l) (hna : NmF a) (hT : UT w) (hM : ML w) (hbad : mergeE l a ≠ 0) :
    Calls Tryz.prog 65 #[v, u] w fun e w' => e = .returned (.tuple #[.slice none 0 0, .int .i64 (mergeE l a)]) ∧ Below w.heap.size w w' := by
  obtain ⟨a0, cap0, rfl⟩ := hr.form
  obtain ⟨a1, cap1, rfl⟩ := hq.form
  have HQ : Hid (∀ w', Below w.heap.size w w' → IsRow w' 3 (.slice a1 a.length cap1) a.length (fCells a)) := fun w' h => hq.below h
  have HCF : Hid (Calls Tryz.prog 44 #[.slice a0 l.length cap0] w fun e w'' => e = .returned (.bool (chkF l)) ∧ Below w.heap.size w w'') := checkF_any _ l w hr hl hn hT hM
  have HCA : Hid (∀ w', Below w.heap.size w w' → Calls Tryz.prog 44 #[.slice a1 a.length cap1] w' fun e w'' => e = .returned (.bool (chkF a)) ∧ Below w'.heap.size w' w'') := fun w' h => checkF_any _ a w' (hq.below h) hal hna (Utf8Tabs_below hT h) (ML_below hM h)
  have HF : Hid (∀ (k : Nat) (hk : k < a.length) w', Below w.heap.size w w' → Calls Tryz.prog 96 #[.slice a0 l.length cap0, .string a[k].n] w' fun e w'' => e = .returned (.tuple #[fV ((getF l a[k].n).getD zF), .bool (getF l a[k].n).isSome]) ∧ Below w'.heap.size w' w'') := fun k hk w' h => find_any _ l _ w' (hr.below h) hl hn (hna _ (List.getElem_mem hk)) (Utf8Tabs_below hT h)
  clear hr hq hn hna hT hM
  cases hcl : chkF l with
  | false =>
    have e0 : mergeE l a = 1 := by unfold mergeE; rw [hcl]; simp
    rw [hcl] at HCF
    rw [e0]
    clear hbad
    go_enter Tryz.func65, Tryz.ntmps65
    go_wp2_with fail
    refine HCF.out.mono ?_
    rintro e w1 ⟨rfl, hb⟩
    have HB : Hid (Below w.heap.size w w1) := hb
    clear hb
    go_wp2
    go_ret2
    exact ⟨rfl, HB.out⟩
  | true =>
  rw [hcl] at HCF
  cases hca : chkF a with
  | false =>
    have e0 : mergeE l a = 1 := by unfold mergeE; rw [hca]; simp
    rw [hca] at HCA
    rw [e0]
    clear hbad
    go_enter Tryz.func65, Tryz.ntmps65
    go_wp2_with fail
    refine HCF.out.mono ?_
    rintro e w1 ⟨rfl, hb⟩
    have HB : Hid (Below w.heap.size w w1) := hb
    clear hb
    go_wp2_with fail
    refine (HCA.out w1 HB.out).mono ?_
    rintro e w2 ⟨rfl, hb⟩
    have HB2 : Hid (Below w.heap.size w w2) := HB.out.trans (hb.mono HB.out.size)
    clear hb
    go_wp2
    go_ret2
    exact ⟨rfl, HB2.out⟩
  | true =>
  rw [hca] at HCA
  have hcls : clashL l a = true := by
    cases h : clashL l a with
    | true => rfl
    | false => exact absurd (by unfold mergeE; rw [hcl, hca, h]; rfl) hbad
  have e0 : mergeE l a = 9 := by unfold mergeE; rw [hcl, hca, hcls]; rfl
  rw [e0]
  have HX : Hid (clashL l a = true) := hcls
  clear hcl hca hbad hcls e0
  go_enter Tryz.func65, Tryz.ntmps65
  go_wp2_with fail
  refine HCF.out.mono ?_
  rintro e w1 ⟨rfl, hb⟩
  have HB : Hid (Below w.heap.size w w1) := hb
  clear hb
  go_wp2_with fail
  refine (HCA.out w1 HB.out).mono ?_
  rintro e w2 ⟨rfl, hb⟩
  have HB2 : Hid (Below w.heap.size w w2) := HB.out.trans (hb.mono HB.out.size)
  clear hb
  go_wp2_with fail
  go_loopw [4, 5, 20] (fun r r5 i wr => r = .slice none 0 0 ∧ r5 = .int .i64 0 ∧ ∃ k : Nat, k ≤ a.length ∧ i = .int .i64 (k : Int) ∧ Hid (∀ (j : Nat) (hj : j < a.length), j < k → (getF l a[j].n).isSome = false) ∧ Below w.heap.size w wr) (fun _ _ i _ => a.length - (intOf i).toNat)
  case atStart => exact ⟨rfl, rfl, 0, Nat.zero_le _, rfl, fun j h hj => absurd hj (Nat.not_lt_zero _), HB2.out⟩
  case round =>
    obtain ⟨rfl, rfl, k, hk, rfl, HO, hB⟩ := hrel
    by_cases hlk : k < a.length
    · have dk : decide ((k : Int) < a.length) = true := by simp; omega
      obtain ⟨b, off, rfl, hlt, hcap, hc⟩ := f_at (HQ.out wr hB) (by omega)
      obtain ⟨ck0, ck1, ck2⟩ := hc k hlk
      have hAl := al_b wr (.cells #[.string a[k].n, .int .i64 a[k].k, .bool a[k].m] 93)
      have hB1 := hB.trans (hAl.mono hB.size)
      have HFk : Hid (Calls Tryz.prog 96 #[.slice a0 l.length cap0, .string a[k].n] (wr.alloc (.cells #[.string a[k].n, .int .i64 a[k].k, .bool a[k].m] 93)) fun e w'' => e = .returned (.tuple #[fV ((getF l a[k].n).getD zF), .bool (getF l a[k].n).isSome]) ∧ Below (wr.alloc (.cells #[.string a[k].n, .int .i64 a[k].k, .bool a[k].m] 93)).heap.size (wr.alloc (.cells #[.string a[k].n, .int .i64 a[k].k, .bool a[k].m] 93)) w'') := HF.out k hlk _ hB1
      have HN : Hid (∀ w', Below (wr.alloc (.cells #[.string a[k].n, .int .i64 a[k].k, .bool a[k].m] 93)).heap.size (wr.alloc (.cells #[.string a[k].n, .int .i64 a[k].k, .bool a[k].m] 93)) w' → Below w.heap.size w w') := fun w' h => hB1.trans (h.mono hB1.size)
      have HO2 : Hid ((getF l a[k].n).isSome = false → ∀ (j : Nat) (hj : j < a.length), j < k + 1 → (getF l a[j].n).isSome = false) := fun hs j h hj => by
        by_cases e : j = k
        · subst e; exact hs
        · exact HO.out j h (by omega)
      generalize (getF l a[k].n).isSome = q at *
      generalize (getF l a[k].n).getD zF = f at *
      generalize a[k]'hlk = x at *
      obtain ⟨n, kk, mm⟩ := x
      obtain ⟨fn, fk, fm⟩ := f
      clear hc HO hAl hB1 hB
      cases q with
      | true =>
        go_wp2_with fail
        refine HFk.out.mono ?_
        rintro e w3 ⟨rfl, hb⟩
        have HBB : Hid (Below w.heap.size w w3) := HN.out w3 hb
        clear hb HFk
        go_wp2
        go_ret2
        exact ⟨rfl, HBB.out.trans ((al_b w3 _).mono HBB.out.size)⟩
      | false =>
        go_wp2_with fail
        refine HFk.out.mono ?_
        rintro e w3 ⟨rfl, hb⟩
        have HBB : Hid (Below w.heap.size w w3) := HN.out w3 hb
        clear hb HFk
        go_wp2
        go_roundw
        case rel => exact ⟨rfl, rfl, k + 1, by omega, by simp, HO2.out (by trivial), HBB.out.trans ((al_b w3 _).mono HBB.out.size)⟩
        case measure => simp [intOf]; omega
    · have hk' : k = a.length := by omega
      subst hk'
      have := clash_no (a := l) (fun j hj => HO.out j hj hj)
      rw [HX.out] at this
      exact absurd this (by simp)
end Go.Proofs.YticlejkeaagfjaaGreatDoor
