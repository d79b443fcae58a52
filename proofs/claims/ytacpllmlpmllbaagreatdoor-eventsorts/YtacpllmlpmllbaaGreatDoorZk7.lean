/- schema.Parse: its walk. -/
import Derived.Test.YtacpllmlpmllbaaGreatDoorZk6
import Derived.Lib.SplitLaws
import Derived.WalkMore
namespace Go.Proofs.YtacpllmlpmllbaaGreatDoor
open Go.RowKit

theorem split_size (sep : ByteArray) : ∀ (k : Nat) (s x : ByteArray), x ∈ Lib.splitB sep 0 k s → x.size ≤ s.size
  | 0, s, x, h => by
    obtain rfl : x = s := by simpa [Lib.splitB] using h
    exact Nat.le_refl _
  | k + 1, s, x, h => by
    unfold Lib.splitB at h
    split at h
    · obtain rfl : x = s := by simpa using h
      exact Nat.le_refl _
    · rcases List.mem_cons.1 h with rfl | h
      · rw [ByteArray.size_extract]; omega
      · have := split_size sep k _ x h
        rw [ByteArray.size_extract] at this
        omega
theorem cut_le1 (s sep : List UInt8) : (Lib.cut s sep).1.length ≤ s.length := by
  unfold Lib.cut
  split <;> simp <;> omega
/-- The pieces of a line, and the fields that they say. -/
def pL (s : ByteArray) : List ByteArray := Lib.splitB ⟨#[44, 32]⟩ 0 (min 25 (s.size + 1) - 1) s
def parseL (s : ByteArray) : List Fd := (pL s).map fun x => parseF x.data.toList
theorem pL_len (s : ByteArray) : (pL s).length ≤ min 25 (s.size + 1) := by
  have := Lib.splitB_length_le ⟨#[44, 32]⟩ 0 (min 25 (s.size + 1) - 1) s
  unfold pL
  omega
theorem parse_nm (s : ByteArray) (hs : s.size ≤ 1000000) : NmF (parseL s) := by
  intro x hx
  obtain ⟨y, hy, rfl⟩ := List.mem_map.1 hx
  have h1 := split_size _ _ _ _ hy
  have h2 := cut_le1 y.data.toList [32]
  have h3 : y.data.toList.length = y.size := by simp
  show (str (Lib.cut y.data.toList [32]).1).size ≤ _
  rw [str_size]
  omega
theorem parse_take (s : ByteArray) (k : Nat) (hk : k < (pL s).length) : fCells (((pL s).take (k + 1)).map fun x => parseF x.data.toList) = fCells (((pL s).take k).map fun x => parseF x.data.toList) ++ enF (parseF (pL s)[k].data.toList) := by
  rw [List.take_succ_eq_append_getElem hk, List.map_append, fCells, List.flatMap_append]
  simp [fCells]
/-- What a line says: the fields, and the error. -/
def parseR (s : ByteArray) : List Fd × Int := if s.data.toList = [45] then ([], 0) else if chkF (parseL s) = true then (parseL s, 0) else ([], 3)
def PrPost (s : ByteArray) (w : World) (e : Ending) (w' : World) : Prop :=
  ∃ v, e = .returned (.tuple #[v, .int .i64 (parseR s).2]) ∧ IsRow w' 3 v (parseR s).1.length (fCells (parseR s).1) ∧ Below w.heap.size w w'
theorem info_fd : (Tryz.prog.info? 110).map (fun i => (i.zero, i.size, i.bytes)) = some (some (.agg #[.string ⟨#[]⟩, .int .i64 0, .bool false]), 3, 32) := by kernel_rfl
theorem wpl_appE {P : Program} (wr : World) {ops : Array Oper} {rest : List Oper} {o : Oper} {a : Act} {Q : Exit → Act → World → Prop} (hgd : o.guard = none) (s x : Operand) (t e : TypeId)
    (ho : o.op = .call { callee := .builtin .append, args := #[s, x], argTypes := #[t, t] })
    (i : TypeInfo) (z : Value) (size bytes : Nat) (ht : P.underlying t = some (.slice e)) (hi : P.info? e = some i) (hz : i.zero = some z)
    (hsize : i.size = size) (hby : i.bytes = bytes) (hzs : z.cells.size = size) (hsz : 0 < size)
    (base : Nat) (v : Value) (n : Nat) (xs : List Value) (hs : a.eval s = v) (hown : wr.ownsRow base e size v n xs)
    (es : List Value) (hes : es.length = size) (C : Array Value) (hC : C = es.toArray) (hx : a.eval x = .slice (some ⟨wr.heap.size, 0, none⟩) 1 1) (h1 : ∀ u ∈ es, u.oneCell' = true)
    (hbytes : (n + 1) * bytes ≤ 140737488355328) (h63 : n + 1 ≤ maxLen) (hbase : base ≤ wr.heap.size)
    (h : ∀ v' w', w'.ownsRow base e size v' (n + 1) (xs ++ es) → Below base wr w' → wpList P ops Q rest (a.put o.dst v') w') :
    wpList P ops Q (o :: rest) a (wr.alloc (.cells C e)) := by
  subst hC
  refine wpList_append_own _ hgd s x t ho base e i z size bytes ht hi hz hsize hby hzs hsz v n xs hs (hown.alloc _) ⟨wr.heap.size, 0, none⟩ 1 1 es hx (by omega) ?_ h1 h63 hbytes ?_ ?_
  · intro j u hj
    have : (⟨wr.heap.size, 0, none⟩ : Addr).add j = ⟨wr.heap.size, j, none⟩ := by unfold Addr.add; split <;> simp_all
    rw [this]
    simp
    exact hj
  · simp; omega
  · intro v' w' h2 h3 _
    exact h v' w' h2 (((Below.refl _ _).alloc hbase _).grown h3 (by simp; omega) (fun k hk => (hown.lt k hk).1))
theorem own_belowE {w w1 : World} {base : Nat} {e : TypeId} {sz : Nat} {v : Value} {n : Nat} {xs : List Value} (h : w.ownsRow base e sz v n xs) (hb : Below w.heap.size w w1) : w1.ownsRow base e sz v n xs :=
  h.kept (row := none) ⟨hb.os, hb.tape, hb.output, hb.size, fun k hk _ => hb.block k hk⟩ (by cases hv : v.ownBlock <;> simp)
def sVals (l : List ByteArray) : List Value := l.map Value.string
theorem s_at {w : World} {a : Option Addr} {cap n : Nat} {l : List ByteArray} (h : IsRow w 1 (.slice a n cap) l.length (sVals l)) (h0 : 0 < l.length) :
    ∃ b off, a = some ⟨b, off, none⟩ ∧ n = l.length ∧ b < w.heap.size ∧ l.length ≤ cap ∧ ∀ (k : Nat) (hk : k < l.length), w.cell? ⟨b, off + k, none⟩ = some (.string l[k]) := by
  obtain ⟨b, off, cap', hv, hlt, q1, q2, hc⟩ := h.open (by omega)
  simp only [Value.slice.injEq] at hv
  exact ⟨b, off, hv.1, hv.2.1, hlt, by omega, fun k hk => hc k _ (by simp [sVals, hk])⟩
theorem split_row (s : ByteArray) (w : World) : IsRow (w.alloc (.cells (Lib.cellsOf (pL s) (min 25 (s.size + 1))) 9)) 1 (.slice (some ⟨w.heap.size, 0, none⟩) (pL s).length (min 25 (s.size + 1))) (pL s).length (sVals (pL s)) := by
  refine ⟨by simp [sVals], .inr ⟨w.heap.size, 0, min 25 (s.size + 1), rfl, by simp, pL_len s, by unfold maxLen; omega, ?_⟩⟩
  intro j u hu
  have hj : j < (pL s).length := by
    have := (List.getElem?_eq_some_iff.1 hu).1
    simpa [sVals] using this
  rw [Lib.cell_of_heap (new_at w _)]
  simp only [Lib.cellsOf, Nat.zero_add, List.getElem?_toArray]
  rw [List.getElem?_append_left (by simpa using hj)]
  exact hu
end Go.Proofs.YtacpllmlpmllbaaGreatDoor
/- schema.Merge where it tells an error: its walk. -/
namespace Go.Proofs.YtacpllmlpmllbaaGreatDoor
open Go.RowKit

/-- Has one of the fields a name that is there? -/
def clashL (a b : List Fd) : Bool := b.any fun x => (getF a x.n).isSome
/-- What Merge tells ahead of sorting. -/
def mergeE (a b : List Fd) : Int := if chkF a = true ∧ chkF b = true then (if clashL a b = true then 9 else 0) else 1
theorem clash_at {a b : List Fd} {k : Nat} (h : k < b.length) (hk : (getF a b[k].n).isSome = true) : clashL a b = true := List.any_eq_true.2 ⟨_, List.getElem_mem h, hk⟩
theorem clash_no {a b : List Fd} (h : ∀ (k : Nat) (hk : k < b.length), (getF a b[k].n).isSome = false) : clashL a b = false := by
  unfold clashL
  rw [List.any_eq_false]
  intro y hy
  obtain ⟨j, hj, rfl⟩ := List.getElem_of_mem hy
  rw [h j hj]
  exact Bool.false_ne_true
set_option maxRecDepth 100000 in
set_option maxHeartbeats 4000000 in
theorem merge_bad (v u : Value) (l a : List Fd) (w : World) (hr : IsRow w 3 v l.length (fCells l)) (hq : IsRow w 3 u a.length (fCells a)) (hl : l.length ≤ 1000000) (hal : a.length ≤ 1000000) (hn : NmF l) (hna : NmF a) (hT : UT w) (hM : ML w) (hbad : mergeE l a ≠ 0) :
    Calls Tryz.prog 130 #[v, u] w fun e w' => e = .returned (.tuple #[.slice none 0 0, .int .i64 (mergeE l a)]) ∧ Below w.heap.size w w' := by
  obtain ⟨a0, cap0, rfl⟩ := hr.form
  obtain ⟨a1, cap1, rfl⟩ := hq.form
  have HQ : Hid (∀ w', Below w.heap.size w w' → IsRow w' 3 (.slice a1 a.length cap1) a.length (fCells a)) := fun w' h => hq.below h
  have HCF : Hid (Calls Tryz.prog 126 #[.slice a0 l.length cap0] w fun e w'' => e = .returned (.bool (chkF l)) ∧ Below w.heap.size w w'') := checkF_any _ l w hr hl hn hT hM
  have HCA : Hid (∀ w', Below w.heap.size w w' → Calls Tryz.prog 126 #[.slice a1 a.length cap1] w' fun e w'' => e = .returned (.bool (chkF a)) ∧ Below w'.heap.size w' w'') := fun w' h => checkF_any _ a w' (hq.below h) hal hna (Utf8Tabs_below hT h) (ML_below hM h)
  have HF : Hid (∀ (k : Nat) (hk : k < a.length) w', Below w.heap.size w w' → Calls Tryz.prog 69 #[.slice a0 l.length cap0, .string a[k].n] w' fun e w'' => e = .returned (.tuple #[fV ((getF l a[k].n).getD zF), .bool (getF l a[k].n).isSome]) ∧ Below w'.heap.size w' w'') := fun k hk w' h => find_any _ l _ w' (hr.below h) hl hn (hna _ (List.getElem_mem hk)) (Utf8Tabs_below hT h)
  clear hr hq hn hna hT hM
  cases hcl : chkF l with
  | false =>
    have e0 : mergeE l a = 1 := by unfold mergeE; rw [hcl]; simp
    rw [hcl] at HCF
    rw [e0]
    clear hbad
    go_enter Tryz.func130, Tryz.ntmps130
    go_wp2_with fail
    refine HCF.out.mono ?_
    rintro e w1 ⟨rfl, hb⟩
    have HB : Hid (Below w.heap.size w w1) := hb
    clear hb
    go_wp2
    go_ret2
    exact ⟨rfl, HB.out⟩
  | true =>
  rw [hcl] at HCF
  cases hca : chkF a with
  | false =>
    have e0 : mergeE l a = 1 := by unfold mergeE; rw [hca]; simp
    rw [hca] at HCA
    rw [e0]
    clear hbad
    go_enter Tryz.func130, Tryz.ntmps130
    go_wp2_with fail
    refine HCF.out.mono ?_
    rintro e w1 ⟨rfl, hb⟩
    have HB : Hid (Below w.heap.size w w1) := hb
    clear hb
    go_wp2_with fail
    refine (HCA.out w1 HB.out).mono ?_
    rintro e w2 ⟨rfl, hb⟩
    have HB2 : Hid (Below w.heap.size w w2) := HB.out.trans (hb.mono HB.out.size)
    clear hb
    go_wp2
    go_ret2
    exact ⟨rfl, HB2.out⟩
  | true =>
  rw [hca] at HCA
  have hcls : clashL l a = true := by
    cases h : clashL l a with
    | true => rfl
    | false => exact absurd (by unfold mergeE; rw [hcl, hca, h]; rfl) hbad
  have e0 : mergeE l a = 9 := by unfold mergeE; rw [hcl, hca, hcls]; rfl
  rw [e0]
  have HX : Hid (clashL l a = true) := hcls
  clear hcl hca hbad hcls e0
  go_enter Tryz.func130, Tryz.ntmps130
  go_wp2_with fail
  refine HCF.out.mono ?_
  rintro e w1 ⟨rfl, hb⟩
  have HB : Hid (Below w.heap.size w w1) := hb
  clear hb
  go_wp2_with fail
  refine (HCA.out w1 HB.out).mono ?_
  rintro e w2 ⟨rfl, hb⟩
  have HB2 : Hid (Below w.heap.size w w2) := HB.out.trans (hb.mono HB.out.size)
  clear hb
  go_wp2_with fail
  go_loopw [4, 5, 20] (fun r r5 i wr => r = .slice none 0 0 ∧ r5 = .int .i64 0 ∧ ∃ k : Nat, k ≤ a.length ∧ i = .int .i64 (k : Int) ∧ Hid (∀ (j : Nat) (hj : j < a.length), j < k → (getF l a[j].n).isSome = false) ∧ Below w.heap.size w wr) (fun _ _ i _ => a.length - (intOf i).toNat)
  case atStart => exact ⟨rfl, rfl, 0, Nat.zero_le _, rfl, fun j h hj => absurd hj (Nat.not_lt_zero _), HB2.out⟩
  case round =>
    obtain ⟨rfl, rfl, k, hk, rfl, HO, hB⟩ := hrel
    by_cases hlk : k < a.length
    · have dk : decide ((k : Int) < a.length) = true := by simp; omega
      obtain ⟨b, off, rfl, hlt, hcap, hc⟩ := f_at (HQ.out wr hB) (by omega)
      obtain ⟨ck0, ck1, ck2⟩ := hc k hlk
      have hAl := al_b wr (.cells #[.string a[k].n, .int .i64 a[k].k, .bool a[k].m] 110)
      have hB1 := hB.trans (hAl.mono hB.size)
      have HFk : Hid (Calls Tryz.prog 69 #[.slice a0 l.length cap0, .string a[k].n] (wr.alloc (.cells #[.string a[k].n, .int .i64 a[k].k, .bool a[k].m] 110)) fun e w'' => e = .returned (.tuple #[fV ((getF l a[k].n).getD zF), .bool (getF l a[k].n).isSome]) ∧ Below (wr.alloc (.cells #[.string a[k].n, .int .i64 a[k].k, .bool a[k].m] 110)).heap.size (wr.alloc (.cells #[.string a[k].n, .int .i64 a[k].k, .bool a[k].m] 110)) w'') := HF.out k hlk _ hB1
      have HN : Hid (∀ w', Below (wr.alloc (.cells #[.string a[k].n, .int .i64 a[k].k, .bool a[k].m] 110)).heap.size (wr.alloc (.cells #[.string a[k].n, .int .i64 a[k].k, .bool a[k].m] 110)) w' → Below w.heap.size w w') := fun w' h => hB1.trans (h.mono hB1.size)
      have HO2 : Hid ((getF l a[k].n).isSome = false → ∀ (j : Nat) (hj : j < a.length), j < k + 1 → (getF l a[j].n).isSome = false) := fun hs j h hj => by
        by_cases e : j = k
        · subst e; exact hs
        · exact HO.out j h (by omega)
      generalize (getF l a[k].n).isSome = q at *
      generalize (getF l a[k].n).getD zF = f at *
      generalize a[k]'hlk = x at *
      obtain ⟨n, kk, mm⟩ := x
      obtain ⟨fn, fk, fm⟩ := f
      clear hc HO hAl hB1 hB
      cases q with
      | true =>
        go_wp2_with fail
        refine HFk.out.mono ?_
        rintro e w3 ⟨rfl, hb⟩
        have HBB : Hid (Below w.heap.size w w3) := HN.out w3 hb
        clear hb HFk
        go_wp2
        go_ret2
        exact ⟨rfl, HBB.out.trans ((al_b w3 _).mono HBB.out.size)⟩
      | false =>
        go_wp2_with fail
        refine HFk.out.mono ?_
        rintro e w3 ⟨rfl, hb⟩
        have HBB : Hid (Below w.heap.size w w3) := HN.out w3 hb
        clear hb HFk
        go_wp2
        go_roundw
        case rel => exact ⟨rfl, rfl, k + 1, by omega, by simp, HO2.out (by trivial), HBB.out.trans ((al_b w3 _).mono HBB.out.size)⟩
        case measure => simp [intOf]; omega
    · have hk' : k = a.length := by omega
      subst hk'
      have := clash_no (a := l) (fun j hj => HO.out j hj hj)
      rw [HX.out] at this
      exact absurd this (by simp)
end Go.Proofs.YtacpllmlpmllbaaGreatDoor
/- The law's awake: its walk. -/
namespace Go.Proofs.YtacpllmlpmllbaaGreatDoor
open Go.RowKit

abbrev awS1 : ByteArray := ⟨#[97, 32, 105, 110, 116, 33, 44, 32, 98, 32, 116, 101, 120, 116]⟩
abbrev awS2 : ByteArray := ⟨#[97, 32, 98, 111, 111, 108]⟩
abbrev awL : List Fd := [⟨⟨#[97]⟩, 1, true⟩, ⟨⟨#[98]⟩, 2, false⟩]
abbrev awM : List Fd := [⟨⟨#[97]⟩, 3, false⟩]
theorem aw1 : parseR awS1 = (awL, 0) := by kernel_rfl
theorem aw2 : parseR awS2 = (awM, 0) := by kernel_rfl
theorem aw3 : mergeE awL awM = 9 := by kernel_rfl
theorem aw4 : fitsL awL [⟨⟨#[97]⟩, 1, 1, ⟨#[]⟩⟩] = 0 := by kernel_rfl
theorem aw5 : fitsL awL [⟨⟨#[98]⟩, 2, 0, ⟨#[120]⟩⟩] = 7 := by kernel_rfl
theorem aw6 : fitsL awL [⟨⟨#[97]⟩, 2, 0, ⟨#[120]⟩⟩] = 8 := by kernel_rfl
theorem aw7 : fitsL awL [⟨⟨#[97]⟩, 1, 1, ⟨#[]⟩⟩, ⟨⟨#[99]⟩, 1, 2, ⟨#[]⟩⟩] = 4 := by kernel_rfl
theorem rowA {w : World} {l : List At} {t : TypeId} {C : Array Value} (hC : C = (aCells l).toArray) (hl : l.length ≤ 1000) {w' : World} (hb : Below (w.alloc (.cells C t)).heap.size (w.alloc (.cells C t)) w') : IsRow w' 4 (.slice (some ⟨w.heap.size, 0, none⟩) l.length l.length) l.length (aCells l) := by
  subst hC
  refine IsRow.below ?_ hb
  refine ⟨aCells_len l, .inr ⟨w.heap.size, 0, l.length, rfl, by simp, Nat.le_refl _, by unfold maxLen; omega, ?_⟩⟩
  intro j u hu
  rw [Lib.cell_of_heap (new_at w _)]
  simpa using hu
theorem nmL : NmF awL := fun x hx => by simp at hx; rcases hx with rfl | rfl <;> decide
theorem nmM : NmF awM := fun x hx => by simp at hx; subst hx; decide
end Go.Proofs.YtacpllmlpmllbaaGreatDoor
/- The law's Few and FewAttrs: walks. -/
namespace Go.Proofs.YtacpllmlpmllbaaGreatDoor
open Go.RowKit

def okW (l : List Fd) (k : Nat) (h : k < l.length) : Prop := k ≤ 40 ∧ l[k].n.size ≤ 200
instance (l : List Fd) (k : Nat) (h : k < l.length) : Decidable (okW l k h) := by unfold okW; exact inferInstance
def fewF (l : List Fd) : Bool := decide (∀ (k : Nat) (h : k < l.length), okW l k h)
theorem fewF_no {l : List Fd} {k : Nat} (h : k < l.length) (hn : ¬ okW l k h) : fewF l = false := decide_eq_false fun hh => hn (hh k h)
def okWA (l : List At) (k : Nat) (h : k < l.length) : Prop := k ≤ 40 ∧ l[k].n.size ≤ 200 ∧ l[k].s.size ≤ 500
instance (l : List At) (k : Nat) (h : k < l.length) : Decidable (okWA l k h) := by unfold okWA; exact inferInstance
def fewA (l : List At) : Bool := decide (∀ (k : Nat) (h : k < l.length), okWA l k h)
theorem fewA_no {l : List At} {k : Nat} (h : k < l.length) (hn : ¬ okWA l k h) : fewA l = false := decide_eq_false fun hh => hn (hh k h)
set_option maxRecDepth 100000 in
set_option maxHeartbeats 2000000 in
theorem fewF_any (v : Value) (l : List Fd) (w : World) (hr : IsRow w 3 v l.length (fCells l)) (hl : l.length ≤ 140737488355328) :
    Calls Tryz.prog 24 #[v] w fun e w' => e = .returned (.bool (fewF l)) ∧ w' = w := by
  obtain ⟨a0, cap0, rfl⟩ := hr.form
  have HR : Hid (IsRow w 3 (.slice a0 l.length cap0) l.length (fCells l)) := hr
  clear hr
  go_enter Tryz.func24, Tryz.ntmps24
  go_wp2_with fail
  go_loopw [2, 3] (fun r i wr => r = .bool false ∧ ∃ k : Nat, k ≤ l.length ∧ k ≤ 41 ∧ i = .int .i64 (k : Int) ∧ Hid (∀ (j : Nat) (h : j < l.length), j < k → okW l j h) ∧ w = wr) (fun _ i _ => l.length - (intOf i).toNat)
  case atStart => exact ⟨rfl, 0, Nat.zero_le _, by omega, rfl, fun j h hj => absurd hj (Nat.not_lt_zero _), rfl⟩
  case round =>
    obtain ⟨rfl, k, hk, hk41, rfl, HO, rfl⟩ := hrel
    by_cases hlk : k < l.length
    · have dk : decide ((k : Int) < l.length) = true := by simp; omega
      obtain ⟨b, off, rfl, hlt, hcap, hc⟩ := f_at HR.out (by omega)
      obtain ⟨ck0, -, -⟩ := hc k hlk
      have HN : Hid (¬ okW l k hlk → fewF l = false) := fewF_no hlk
      by_cases h40 : k ≤ 40
      · have d40 : decide ((40 : Int) < (k : Int)) = false := by simp; omega
        by_cases h200 : l[k].n.size ≤ 200
        · have d200 : decide ((200 : Int) < (l[k].n.size : Int)) = false := by simp; omega
          have HO2 : Hid (∀ (j : Nat) (h : j < l.length), j < k + 1 → okW l j h) := fun j h hj => by
            by_cases e : j = k
            · subst e; exact ⟨h40, h200⟩
            · exact HO.out j h (by omega)
          generalize l[k].n = nm at *
          clear hc HO h200 HN
          go_wp2
          go_roundw
          case rel => exact ⟨rfl, k + 1, by omega, by omega, by simp, HO2, trivial⟩
          case measure => simp [intOf]; omega
        · have d200 : decide ((200 : Int) < (l[k].n.size : Int)) = true := by simp; omega
          have HNn : Hid (fewF l = false) := HN.out fun h => h200 h.2
          generalize l[k].n = nm at *
          clear hc HO h200 HN
          go_wp2
          go_ret
          exact ⟨by rw [HNn.out]; rfl, rfl⟩
      · have d40 : decide ((40 : Int) < (k : Int)) = true := by simp; omega
        have HNn : Hid (fewF l = false) := HN.out fun h => h40 h.1
        clear hc HO HN
        go_wp2
        go_ret
        exact ⟨by rw [HNn.out]; rfl, rfl⟩
    · have hk' : k = l.length := by omega
      subst hk'
      have dk : decide ((l.length : Int) < l.length) = false := by simp
      have HY : Hid (fewF l = true) := decide_eq_true fun j hj => HO.out j hj hj
      clear HO
      go_wp2
      go_ret
      exact ⟨by rw [HY.out]; rfl, rfl⟩
set_option maxRecDepth 100000 in
set_option maxHeartbeats 2000000 in
theorem fewA_any (v : Value) (l : List At) (w : World) (hr : IsRow w 4 v l.length (aCells l)) (hl : l.length ≤ 140737488355328) :
    Calls Tryz.prog 23 #[v] w fun e w' => e = .returned (.bool (fewA l)) ∧ w' = w := by
  obtain ⟨a0, cap0, rfl⟩ := hr.form
  have HR : Hid (IsRow w 4 (.slice a0 l.length cap0) l.length (aCells l)) := hr
  clear hr
  go_enter Tryz.func23, Tryz.ntmps23
  go_wp2_with fail
  go_loopw [2, 3] (fun r i wr => r = .bool false ∧ ∃ k : Nat, k ≤ l.length ∧ k ≤ 41 ∧ i = .int .i64 (k : Int) ∧ Hid (∀ (j : Nat) (h : j < l.length), j < k → okWA l j h) ∧ w = wr) (fun _ i _ => l.length - (intOf i).toNat)
  case atStart => exact ⟨rfl, 0, Nat.zero_le _, by omega, rfl, fun j h hj => absurd hj (Nat.not_lt_zero _), rfl⟩
  case round =>
    obtain ⟨rfl, k, hk, hk41, rfl, HO, rfl⟩ := hrel
    by_cases hlk : k < l.length
    · have dk : decide ((k : Int) < l.length) = true := by simp; omega
      obtain ⟨b, off, rfl, hlt, hcap, hc⟩ := a_at HR.out (by omega)
      obtain ⟨ck0, -, -, ck3⟩ := hc k hlk
      have HN : Hid (¬ okWA l k hlk → fewA l = false) := fewA_no hlk
      by_cases h40 : k ≤ 40
      · have d40 : decide ((40 : Int) < (k : Int)) = false := by simp; omega
        by_cases h200 : l[k].n.size ≤ 200
        · have d200 : decide ((200 : Int) < (l[k].n.size : Int)) = false := by simp; omega
          by_cases h500 : l[k].s.size ≤ 500
          · have d500 : decide ((500 : Int) < (l[k].s.size : Int)) = false := by simp; omega
            have HO2 : Hid (∀ (j : Nat) (h : j < l.length), j < k + 1 → okWA l j h) := fun j h hj => by
              by_cases e : j = k
              · subst e; exact ⟨h40, h200, h500⟩
              · exact HO.out j h (by omega)
            generalize l[k].n = nm at *
            generalize l[k].s = tx at *
            clear hc HO h200 h500 HN
            go_wp2
            go_roundw
            case rel => exact ⟨rfl, k + 1, by omega, by omega, by simp, HO2, trivial⟩
            case measure => simp [intOf]; omega
          · have d500 : decide ((500 : Int) < (l[k].s.size : Int)) = true := by simp; omega
            have HNn : Hid (fewA l = false) := HN.out fun h => h500 h.2.2
            generalize l[k].n = nm at *
            generalize l[k].s = tx at *
            clear hc HO h200 h500 HN
            go_wp2
            go_ret
            exact ⟨by rw [HNn.out]; rfl, rfl⟩
        · have d200 : decide ((200 : Int) < (l[k].n.size : Int)) = true := by simp; omega
          have HNn : Hid (fewA l = false) := HN.out fun h => h200 h.2.1
          generalize l[k].n = nm at *
          clear hc HO h200 HN
          go_wp2
          go_ret
          exact ⟨by rw [HNn.out]; rfl, rfl⟩
      · have d40 : decide ((40 : Int) < (k : Int)) = true := by simp; omega
        have HNn : Hid (fewA l = false) := HN.out fun h => h40 h.1
        clear hc HO HN
        go_wp2
        go_ret
        exact ⟨by rw [HNn.out]; rfl, rfl⟩
    · have hk' : k = l.length := by omega
      subst hk'
      have dk : decide ((l.length : Int) < l.length) = false := by simp
      have HY : Hid (fewA l = true) := decide_eq_true fun j hj => HO.out j hj hj
      clear HO
      go_wp2
      go_ret
      exact ⟨by rw [HY.out]; rfl, rfl⟩
end Go.Proofs.YtacpllmlpmllbaaGreatDoor
/- The law's Refs; the reference's Same of fields: walks. -/
namespace Go.Proofs.YtacpllmlpmllbaaGreatDoor
open Go.RowKit

/-- A row of fields, handed back. -/
def RfPost (l : List Fd) (w : World) (e : Ending) (w' : World) : Prop := ∃ v, e = .returned v ∧ IsRow w' 3 v l.length (fCells l) ∧ Below w.heap.size w w'
theorem info_rf : (Tryz.prog.info? 120).map (fun i => (i.zero, i.size, i.bytes)) = some (some (.agg #[.string ⟨#[]⟩, .int .i64 0, .bool false]), 3, 32) := by kernel_rfl
theorem f_take (l : List Fd) (k : Nat) (hk : k < l.length) : fCells (l.take (k + 1)) = fCells (l.take k) ++ enF l[k] := by
  rw [List.take_succ_eq_append_getElem hk, fCells, List.flatMap_append]
  simp [fCells]
set_option maxRecDepth 100000 in
set_option maxHeartbeats 2000000 in
theorem refs_any (v : Value) (l : List Fd) (w : World) (hr : IsRow w 3 v l.length (fCells l)) (hl : l.length ≤ 1000000) :
    Calls Tryz.prog 31 #[v] w fun e w' => RfPost l w e w' := by
  obtain ⟨a0, cap0, rfl⟩ := hr.form
  have HR : Hid (IsRow w 3 (.slice a0 l.length cap0) l.length (fCells l)) := hr
  clear hr
  obtain ⟨i0, hi0, hz0, hz1, hz2⟩ := info_parts info_rf
  go_enter Tryz.func31, Tryz.ntmps31
  go_wp2_with fail
  go_loopw [3, 4] (fun r i wr => ∃ k : Nat, k ≤ l.length ∧ i = .int .i64 (k : Int) ∧ wr.ownsRow w.heap.size 120 3 r k (fCells (l.take k)) ∧ Below w.heap.size w wr) (fun _ i _ => l.length - (intOf i).toNat)
  case atStart => exact ⟨0, Nat.zero_le _, rfl, World.ownsRow_nil _ _ _ _, Below.refl _ _⟩
  case round =>
    obtain ⟨k, hk, rfl, hown, hB⟩ := hrel
    have hsz := hB.size
    by_cases hlk : k < l.length
    · have dk : decide ((k : Int) < l.length) = true := by simp; omega
      obtain ⟨b, off, rfl, hlt, hcap, hc⟩ := f_at (HR.out.below hB) (by omega)
      obtain ⟨ck0, ck1, ck2⟩ := hc k hlk
      have HTh : Hid (fCells (l.take (k + 1)) = fCells (l.take k) ++ enF l[k]) := f_take l k hlk
      have HO : Hid (wr.ownsRow w.heap.size 120 3 u3 k (fCells (l.take k))) := hown
      generalize l[k]'hlk = x at *
      obtain ⟨fn, fk, fm⟩ := x
      clear hc hown
      go_wp2_with (at_builtin; go_loud (refine wpl_appE wr rfl (.tmp 11) (.tmp 16) 53 120 rfl i0 _ 3 32 Tryz.underlying53 hi0 hz0 hz1 hz2 rfl (by decide) w.heap.size u3 k _ rfl HO.out [.string fn, .int .i64 fk, .bool fm] rfl _ rfl rfl (by intro u hu; simp at hu; rcases hu with rfl | rfl | rfl <;> rfl) (by omega) (by unfold maxLen; omega) (by omega) ?_); intro v4 w4 hown4 hb4)
      have HO4 : Hid (w4.ownsRow w.heap.size 120 3 v4 (k + 1) (fCells (l.take (k + 1)))) := by show World.ownsRow _ _ _ _ _ _ _; rw [HTh.out]; exact hown4
      have HB4 : Hid (Below w.heap.size w w4) := hB.trans hb4
      clear hown4 hb4 HTh HO hB
      go_wp2
      go_roundw
      case rel => exact ⟨k + 1, by omega, by simp, HO4.out, HB4.out⟩
      case measure => simp [intOf]; omega
    · have hk' : k = l.length := by omega
      subst hk'
      have dk : decide ((l.length : Int) < l.length) = false := by simp
      rw [List.take_of_length_le (Nat.le_refl _)] at hown
      have HX : Hid (IsRow wr 3 u3 l.length (fCells l) ∧ Below w.heap.size w wr) := ⟨IsRow.own hown, hB⟩
      clear hown hB
      go_wp2
      go_ret
      exact ⟨_, rfl, HX.out.1, HX.out.2⟩
end Go.Proofs.YtacpllmlpmllbaaGreatDoor
/- The reference's Same of fields: its walk. -/
namespace Go.Proofs.YtacpllmlpmllbaaGreatDoor
open Go.RowKit

/-- The same in all. -/
def eqF (x y : Fd) : Bool := decide (x.n = y.n) && (decide (x.k = y.k) && decide (x.m = y.m))
theorem eqF_iff (x y : Fd) : eqF x y = true ↔ x = y := by
  obtain ⟨n, k, m⟩ := x
  obtain ⟨n', k', m'⟩ := y
  simp [eqF]
def sameR (a b : List Fd) : Bool := decide (a.length = b.length) && decide (∀ (k : Nat) (h : k < a.length) (h2 : k < b.length), eqF a[k] b[k] = true)
theorem sameR_iff (a b : List Fd) : sameR a b = true ↔ a = b := by
  unfold sameR
  rw [Bool.and_eq_true, decide_eq_true_eq, decide_eq_true_eq]
  constructor
  · intro ⟨h1, h2⟩
    exact List.ext_getElem h1 fun k h h' => (eqF_iff _ _).1 (h2 k h h')
  · rintro rfl
    exact ⟨rfl, fun k h h2 => (eqF_iff _ _).2 rfl⟩
theorem sameR_no {a b : List Fd} {k : Nat} (h : k < a.length) (h2 : k < b.length) (hn : eqF a[k] b[k] = false) : sameR a b = false := by
  unfold sameR
  rw [Bool.and_eq_false_iff]
  right
  rw [decide_eq_false_iff_not]
  exact fun hh => by rw [hh k h h2] at hn; cases hn
end Go.Proofs.YtacpllmlpmllbaaGreatDoor
/- forest.counts, IsID, climb: walks. -/
namespace Go.Proofs.YtacpllmlpmllbaaGreatDoor
open Go.RowKit

def cntI (n : Int) : Bool := decide (1 ≤ n) && decide (n ≤ 1099511627775)
/-- May an identity be? -/
def idB (a b c : Int) : Bool := decide (1 ≤ a) && (decide (a ≤ 15) && (cntI b && cntI c))
abbrev idV (a b c : Int) : Value := .agg #[.int .i64 a, .int .i64 b, .int .i64 c]
theorem countsI_any (n : Int) (w : World) : Calls Tryz.prog 86 #[.int .i64 n] w fun e w' => e = .returned (.bool (cntI n)) ∧ w' = w := by
  by_cases h1 : 1 ≤ n
  · have d1 : decide (1 ≤ n) = true := decide_eq_true h1
    have e : cntI n = decide (n ≤ 1099511627775) := by unfold cntI; rw [d1, Bool.true_and]
    rw [e]
    clear e
    go_enter Tryz.func86, Tryz.ntmps86
    go_wp2
    go_ret
    exact ⟨rfl, rfl⟩
  · have d1 : decide (1 ≤ n) = false := decide_eq_false h1
    have e : cntI n = false := by unfold cntI; rw [d1, Bool.false_and]
    rw [e]
    clear e
    go_enter Tryz.func86, Tryz.ntmps86
    go_wp2
    go_ret
    exact ⟨rfl, rfl⟩
set_option maxRecDepth 100000 in
set_option maxHeartbeats 1000000 in
theorem isID_any (a b c : Int) (w : World) : Calls Tryz.prog 41 #[idV a b c] w fun e w' => e = .returned (.bool (idB a b c)) ∧ Below w.heap.size w w' := by
  have HB : Hid (Below w.heap.size w (w.alloc (.cells #[.int .i64 a, .int .i64 b, .int .i64 c] 23))) := al_b w _
  have HC : Hid (∀ n W, Calls Tryz.prog 86 #[.int .i64 n] W fun e w' => e = .returned (.bool (cntI n)) ∧ w' = W) := fun n W => countsI_any n W
  by_cases h1 : 1 ≤ a
  · have d1 : decide (1 ≤ a) = true := decide_eq_true h1
    by_cases h2 : a ≤ 15
    · have d2 : decide (a ≤ 15) = true := decide_eq_true h2
      have e0 : idB a b c = (cntI b && cntI c) := by unfold idB; rw [d1, d2, Bool.true_and, Bool.true_and]
      rw [e0]
      cases hb : cntI b
      · rw [Bool.false_and]
        have HCb := HC.out b
        rw [hb] at HCb
        clear e0 hb h1 h2
        go_enter Tryz.func41, Tryz.ntmps41
        go_wp2_with fail
        refine (HCb _).mono ?_
        rintro e w1 ⟨rfl, h1⟩
        obtain rfl := h1.symm
        go_wp2
        go_ret
        exact ⟨rfl, HB.out⟩
      · rw [Bool.true_and]
        have HCb := HC.out b
        rw [hb] at HCb
        have HCc := HC.out c
        generalize cntI c = cc at *
        clear e0 hb h1 h2 HC
        go_enter Tryz.func41, Tryz.ntmps41
        go_wp2_with fail
        refine (HCb _).mono ?_
        rintro e w1 ⟨rfl, h1⟩
        obtain rfl := h1.symm
        go_wp2_with fail
        refine (HCc _).mono ?_
        rintro e w2 ⟨rfl, h2⟩
        obtain rfl := h2.symm
        go_wp2
        go_ret
        exact ⟨rfl, HB.out⟩
    · have d2 : decide (a ≤ 15) = false := decide_eq_false h2
      have e0 : idB a b c = false := by unfold idB; rw [d1, d2, Bool.true_and, Bool.false_and]
      rw [e0]
      clear e0 HC h1 h2
      go_enter Tryz.func41, Tryz.ntmps41
      go_wp2
      go_ret
      exact ⟨rfl, HB.out⟩
  · have d1 : decide (1 ≤ a) = false := decide_eq_false h1
    have e0 : idB a b c = false := by unfold idB; rw [d1, Bool.false_and]
    rw [e0]
    clear e0 HC h1
    go_enter Tryz.func41, Tryz.ntmps41
    go_wp2
    go_ret
    exact ⟨rfl, HB.out⟩
/-- How far up the names are names, none the same as one below it: the names, folded. -/
def clm : List (List UInt8) → List ByteArray → List (List UInt8)
  | b, [] => b
  | b, s :: r => if checkL s.data.toList = 0 ∧ ¬ foldL s.data.toList ∈ b then clm (b ++ [foldL s.data.toList]) r else b
theorem clm_len : ∀ (ch : List ByteArray) (b : List (List UInt8)), (clm b ch).length ≤ b.length + ch.length
  | [], b => by simp [clm]
  | s :: r, b => by
    rw [clm]
    split
    · have := clm_len r (b ++ [foldL s.data.toList])
      rw [List.length_append, List.length_singleton] at this
      rw [List.length_cons]
      omega
    · omega
def fVs (b : List (List UInt8)) : List Value := b.map fun x => .string (str x)
theorem info_st : (Tryz.prog.info? 9).map (fun i => (i.zero, i.size, i.bytes)) = some (some (.string ⟨#[]⟩), 1, 16) := by kernel_rfl
theorem fV_at {w : World} {v : Value} {b : List (List UInt8)} (h : IsRow w 1 v b.length (fVs b)) (h0 : 0 < b.length) :
    ∃ g off cap, v = .slice (some ⟨g, off, none⟩) b.length cap ∧ g < w.heap.size ∧ ∀ (k : Nat) (hk : k < b.length), w.cell? ⟨g, off + k, none⟩ = some (.string (str b[k])) := by
  obtain ⟨g, off, cap, hv, hlt, q1, q2, hc⟩ := h.open (by omega)
  exact ⟨g, off, cap, hv, hlt, fun k hk => hc k _ (by simp [fVs, hk])⟩
theorem strEq (A B : List UInt8) : ((str A).toList == (str B).toList) = decide (A = B) := by
  rw [ByteArray.toList_eq, ByteArray.toList_eq, str_data, str_data, Bool.eq_iff_iff]
  simp
set_option maxRecDepth 100000 in
set_option maxHeartbeats 2000000 in
theorem climb_any (v : Value) (ch : List ByteArray) (w : World) (hr : IsRow w 1 v ch.length (sVals ch)) (hl : ch.length ≤ 100) (hn : ∀ s ∈ ch, s.size ≤ 1000000) (hU : UT w) :
    Calls Tryz.prog 125 #[v] w fun e w' => e = .returned (.int .i64 ((clm [] ch).length : Int)) ∧ Below w.heap.size w w' := by
  obtain ⟨a0, cap0, rfl⟩ := hr.form
  obtain ⟨i0, hi0, hz0, hz1, hz2⟩ := info_parts info_st
  have HR : Hid (∀ W, Below w.heap.size w W → IsRow W 1 (.slice a0 ch.length cap0) ch.length (sVals ch)) := fun W h => hr.below h
  have HC : Hid (∀ (k : Nat) (hk : k < ch.length) W, Calls Tryz.prog 42 #[.string ch[k]] W fun e w' => e = .returned (.int .i64 (checkL ch[k].data.toList)) ∧ Below W.heap.size W w') := fun k hk W => check_any _ W (Nat.le_trans (hn _ (List.getElem_mem hk)) (by decide))
  have HF : Hid (∀ (k : Nat) (hk : k < ch.length) W, Below w.heap.size w W → Calls Tryz.prog 114 #[.string ch[k]] W fun e w' => e = .returned (.string (str (foldL ch[k].data.toList))) ∧ Below W.heap.size W w') := fun k hk W hW => fold_any _ W (hn _ (List.getElem_mem hk)) (Utf8Tabs_below hU hW)
  clear hr hn hU
  go_enter Tryz.func125, Tryz.ntmps125
  go_wp2_with fail
  go_step3
  go_wp2_with fail
  go_step3
  go_wp2_with fail
  go_loopw [3, 11] (fun o i wr => ∃ (k : Nat) (B : List (List UInt8)) (va : Option Addr) (vc : Nat), k ≤ ch.length ∧ i = .int .i64 (k : Int) ∧ o = .slice va B.length vc ∧ B.length ≤ k ∧ Hid (clm [] ch = clm B (ch.drop k)) ∧ Hid (wr.ownsRow w.heap.size 9 1 (.slice va B.length vc) B.length (fVs B)) ∧ Hid (Below w.heap.size w wr)) (fun _ i _ => ch.length - (intOf i).toNat)
  case atStart => exact ⟨0, [], none, 0, Nat.zero_le _, rfl, rfl, Nat.le_refl _, rfl, World.ownsRow_nil _ _ _ _, Below.refl _ _⟩
  case round =>
    obtain ⟨k, B, va, vc, hk, rfl, rfl, hBk, HQ, HO, HB⟩ := hrel
    have hsz := HB.out.size
    by_cases hlk : k < ch.length
    · have dk : decide ((k : Int) < ch.length) = true := by simp; omega
      obtain ⟨b, off, rfl, -, hlt, hcap, hcc⟩ := s_at (HR.out _ HB.out) (by omega)
      have c0 := hcc k hlk
      have HCk := HC.out k hlk wr
      have HFk := HF.out k hlk
      have HFk' : Hid (∀ W, Below w.heap.size w W → Calls Tryz.prog 114 #[.string ch[k]] W fun e w' => e = .returned (.string (str (foldL ch[k].data.toList))) ∧ Below W.heap.size W w') := HFk
      have HStop : Hid (¬ (checkL ch[k].data.toList = 0 ∧ ¬ foldL ch[k].data.toList ∈ B) → clm [] ch = B) := fun hh => by
        rw [HQ.out, List.drop_eq_getElem_cons hlk, clm, if_neg hh]
      have HGo : Hid (checkL ch[k].data.toList = 0 → ¬ foldL ch[k].data.toList ∈ B → clm [] ch = clm (B ++ [foldL ch[k].data.toList]) (ch.drop (k + 1))) := fun h1 h2 => by
        rw [HQ.out, List.drop_eq_getElem_cons hlk, clm, if_pos ⟨h1, h2⟩]
      generalize ch[k]'hlk = s at *
      generalize checkL s.data.toList = C at *
      generalize foldL s.data.toList = F at *
      clear hcc HR HC HF HQ HFk
      by_cases h0 : C = 0
      · subst h0
        go_wp2_with fail
        refine HCk.mono ?_
        rintro e w1 ⟨rfl, hb1⟩
        have HB1 : Hid (Below w.heap.size w w1) := HB.out.trans (hb1.mono hsz)
        have HO1 : Hid (w1.ownsRow w.heap.size 9 1 (.slice va B.length vc) B.length (fVs B)) := own_belowE HO.out hb1
        clear hb1 HCk HO c0
        go_wp2_with fail
        refine (HFk'.out w1 HB1.out).mono ?_
        rintro e w2 ⟨rfl, hb2⟩
        have HB2 : Hid (Below w.heap.size w w2) := HB1.out.trans (hb2.mono HB1.out.size)
        have HO2 : Hid (w2.ownsRow w.heap.size 9 1 (.slice va B.length vc) B.length (fVs B)) := own_belowE HO1.out hb2
        have hs2 := HB2.out.size
        clear hb2 HFk' HO1
        go_wp2_with fail
        go_loopw [22] (fun i wr => ∃ j : Nat, j ≤ B.length ∧ i = .int .i64 (j : Int) ∧ Hid (∀ (t : Nat) (h : t < B.length), t < j → B[t] ≠ F) ∧ w2 = wr) (fun i _ => B.length - (intOf i).toNat)
        case atStart => exact ⟨0, Nat.zero_le _, rfl, (fun t h ht => absurd ht (Nat.not_lt_zero _)), rfl⟩
        case round =>
          obtain ⟨j, hj, rfl, HN, rfl⟩ := hrel
          by_cases hjk : j < B.length
          · have dj : decide (j < B.length) = true := by simp; omega
            have dj' : decide ((j : Int) < (B.length : Int)) = true := by simp; omega
            obtain ⟨g, goff, gcap, hgv, hglt, hgc⟩ := fV_at (IsRow.own HO2.out) (by omega)
            obtain ⟨rfl, -, rfl⟩ := Value.slice.inj hgv
            have d0 := hgc j hjk
            have q1 : (0 : Int) ≤ (j : Int) := by omega
            have q2 : (j : Int) < (B.length : Int) := by omega
            have eS := strEq B[j] F
            by_cases he : B[j] = F
            · rw [decide_eq_true he] at eS
              have HSt : Hid (clm [] ch = B) := HStop.out (fun hh => hh.2 (he ▸ List.getElem_mem hjk))
              clear he hgc hgv HN HStop HGo
              go_wp2
              try rw [Exit.noGoto_ret]
              go_ret
              exact ⟨by rw [HSt.out]; rfl, HB2.out⟩
            · rw [decide_eq_false he] at eS
              have HN2 : Hid (∀ (t : Nat) (h : t < B.length), t < j + 1 → B[t] ≠ F) := fun t h ht => by
                by_cases e : t = j
                · subst e; exact he
                · exact HN.out t h (by omega)
              clear he hgc hgv HN HStop HGo
              go_wp2
              go_roundw
              case rel => exact ⟨j + 1, by omega, by simp, HN2, trivial⟩
              case measure => simp [intOf]; omega
          · have dj : decide (j < B.length) = false := by simp; omega
            have dj' : decide ((j : Int) < (B.length : Int)) = false := by simp; omega
            have hnm : ¬ F ∈ B := fun hm => by
              obtain ⟨t, ht, e⟩ := List.mem_iff_getElem.1 hm
              exact HN.out t ht (by omega) e
            have HG : Hid (clm [] ch = clm (B ++ [F]) (ch.drop (k + 1))) := HGo.out (by trivial) hnm
            clear hnm HN HStop HGo
            go_wp2_with (at_builtin; go_loud (refine wpl_appE w2 rfl (.tmp 30) (.tmp 32) 65 9 rfl i0 _ 1 16 Tryz.underlying65 hi0 hz0 hz1 hz2 rfl (by decide) w.heap.size (.slice va B.length vc) B.length (fVs B) rfl HO2.out [.string (str F)] rfl _ rfl rfl (by simp [Value.oneCell']) (by omega) (by unfold maxLen; omega) (by omega) ?_; intro v4 w4 ho4 hb4; obtain ⟨va4, vc4, rfl⟩ := (IsRow.own ho4).form))
            have HB4 : Hid (Below w.heap.size w w4) := HB2.out.trans hb4
            have HO4 : Hid (w4.ownsRow w.heap.size 9 1 (.slice va4 (B ++ [F]).length vc4) (B ++ [F]).length (fVs (B ++ [F]))) := by
              show World.ownsRow _ _ _ _ _ _ _
              have e : fVs (B ++ [F]) = fVs B ++ [.string (str F)] := by simp [fVs]
              rw [e, List.length_append, List.length_singleton]
              exact ho4
            clear ho4 hb4 HO2
            go_wp2
            go_roundw
            case rel => exact ⟨k + 1, B ++ [F], va4, vc4, by omega, by simp, by simp, by simp; omega, HG, HO4, HB4⟩
            case measure => simp [intOf]; omega
      · have nb : (C != 0) = true := by simpa using h0
        have HSt : Hid (clm [] ch = B) := HStop.out (fun hh => h0 hh.1)
        clear h0 HStop HGo HFk'
        go_wp2_with fail
        refine HCk.mono ?_
        rintro e w1 ⟨rfl, hb1⟩
        have HB1 : Hid (Below w.heap.size w w1) := HB.out.trans (hb1.mono hsz)
        clear hb1 HCk HO c0
        go_wp2
        try rw [Exit.noGoto_ret]
        go_ret
        exact ⟨by rw [HSt.out]; rfl, HB1.out⟩
    · have dk : decide ((k : Int) < ch.length) = false := by simp; omega
      have HSt : Hid (clm [] ch = B) := by
        show _ = _
        rw [HQ.out, List.drop_eq_nil_of_le (by omega)]
        rfl
      clear HQ HR HC HF
      go_wp2
      try rw [Exit.noGoto_ret]
      go_ret
      exact ⟨by rw [HSt.out]; rfl, HB.out⟩
end Go.Proofs.YtacpllmlpmllbaaGreatDoor
