/- schema.Parse: its walk. -/
import Derived.Test.YtfbnlkgopncejaaGreatDoorEI
import Derived.Lib.SplitLaws
namespace Go.Proofs.YtfbnlkgopncejaaGreatDoor
open Go.RowKit

theorem split_size (sep : ByteArray) : ∀ (k : Nat) (s x : ByteArray), x ∈ Lib.splitB sep 0 k s → x.size ≤ s.size
  | 0, s, x, h => by
    obtain rfl : x = s := by simpa [Lib.splitB] using h
    exact Nat.le_refl _
  | k + 1, s, x, h => by
    unfold Lib.splitB at h
    split at h
    · obtain rfl : x = s := by simpa using h
      exact Nat.le_refl _
    · rcases List.mem_cons.1 h with rfl | h
      · rw [ByteArray.size_extract]; omega
      · have := split_size sep k _ x h
        rw [ByteArray.size_extract] at this
        omega
theorem cut_le1 (s sep : List UInt8) : (Lib.cut s sep).1.length ≤ s.length := by
  unfold Lib.cut
  split <;> simp <;> omega
/-- The pieces of a line, and the fields that they say. -/
def pL (s : ByteArray) : List ByteArray := Lib.splitB ⟨#[44, 32]⟩ 0 (min 25 (s.size + 1) - 1) s
def parseL (s : ByteArray) : List Fd := (pL s).map fun x => parseF x.data.toList
theorem pL_len (s : ByteArray) : (pL s).length ≤ min 25 (s.size + 1) := by
  have := Lib.splitB_length_le ⟨#[44, 32]⟩ 0 (min 25 (s.size + 1) - 1) s
  unfold pL
  omega
theorem parse_nm (s : ByteArray) (hs : s.size ≤ 1000000) : NmF (parseL s) := by
  intro x hx
  obtain ⟨y, hy, rfl⟩ := List.mem_map.1 hx
  have h1 := split_size _ _ _ _ hy
  have h2 := cut_le1 y.data.toList [32]
  have h3 : y.data.toList.length = y.size := by simp
  show (str (Lib.cut y.data.toList [32]).1).size ≤ _
  rw [str_size]
  omega
theorem parse_take (s : ByteArray) (k : Nat) (hk : k < (pL s).length) : fCells (((pL s).take (k + 1)).map fun x => parseF x.data.toList) = fCells (((pL s).take k).map fun x => parseF x.data.toList) ++ enF (parseF (pL s)[k].data.toList) := by
  rw [List.take_succ_eq_append_getElem hk, List.map_append, fCells, List.flatMap_append]
  simp [fCells]
/-- What a line says: the fields, and the error. -/
def parseR (s : ByteArray) : List Fd × Int := if s.data.toList = [45] then ([], 0) else if chkF (parseL s) = true then (parseL s, 0) else ([], 3)
def PrPost (s : ByteArray) (w : World) (e : Ending) (w' : World) : Prop :=
  ∃ v, e = .returned (.tuple #[v, .int .i64 (parseR s).2]) ∧ IsRow w' 3 v (parseR s).1.length (fCells (parseR s).1) ∧ Below w.heap.size w w'
theorem info_fd : (Tryz.prog.info? 35).map (fun i => (i.zero, i.size, i.bytes)) = some (some (.agg #[.string ⟨#[]⟩, .int .i64 0, .bool false]), 3, 32) := by kernel_rfl
theorem wpl_appE {P : Program} (wr : World) {ops : Array Oper} {rest : List Oper} {o : Oper} {a : Act} {Q : Exit → Act → World → Prop} (hgd : o.guard = none) (s x : Operand) (t e : TypeId)
    (ho : o.op = .call { callee := .builtin .append, args := #[s, x], argTypes := #[t, t] })
    (i : TypeInfo) (z : Value) (size bytes : Nat) (ht : P.underlying t = some (.slice e)) (hi : P.info? e = some i) (hz : i.zero = some z)
    (hsize : i.size = size) (hby : i.bytes = bytes) (hzs : z.cells.size = size) (hsz : 0 < size)
    (base : Nat) (v : Value) (n : Nat) (xs : List Value) (hs : a.eval s = v) (hown : wr.ownsRow base e size v n xs)
    (es : List Value) (hes : es.length = size) (C : Array Value) (hC : C = es.toArray) (hx : a.eval x = .slice (some ⟨wr.heap.size, 0, none⟩) 1 1) (h1 : ∀ u ∈ es, u.oneCell' = true)
    (hbytes : (n + 1) * bytes ≤ 140737488355328) (h63 : n + 1 ≤ maxLen) (hbase : base ≤ wr.heap.size)
    (h : ∀ v' w', w'.ownsRow base e size v' (n + 1) (xs ++ es) → Below base wr w' → wpList P ops Q rest (a.put o.dst v') w') :
    wpList P ops Q (o :: rest) a (wr.alloc (.cells C e)) := by
  subst hC
  refine wpList_append_own _ hgd s x t ho base e i z size bytes ht hi hz hsize hby hzs hsz v n xs hs (hown.alloc _) ⟨wr.heap.size, 0, none⟩ 1 1 es hx (by omega) ?_ h1 h63 hbytes ?_ ?_
  · intro j u hj
    have : (⟨wr.heap.size, 0, none⟩ : Addr).add j = ⟨wr.heap.size, j, none⟩ := by unfold Addr.add; split <;> simp_all
    rw [this]
    simp
    exact hj
  · simp; omega
  · intro v' w' h2 h3 _
    exact h v' w' h2 (((Below.refl _ _).alloc hbase _).grown h3 (by simp; omega) (fun k hk => (hown.lt k hk).1))
theorem own_belowE {w w1 : World} {base : Nat} {e : TypeId} {sz : Nat} {v : Value} {n : Nat} {xs : List Value} (h : w.ownsRow base e sz v n xs) (hb : Below w.heap.size w w1) : w1.ownsRow base e sz v n xs :=
  h.kept (row := none) ⟨hb.os, hb.tape, hb.output, hb.size, fun k hk _ => hb.block k hk⟩ (by cases hv : v.ownBlock <;> simp)
def sVals (l : List ByteArray) : List Value := l.map Value.string
theorem s_at {w : World} {a : Option Addr} {cap n : Nat} {l : List ByteArray} (h : IsRow w 1 (.slice a n cap) l.length (sVals l)) (h0 : 0 < l.length) :
    ∃ b off, a = some ⟨b, off, none⟩ ∧ n = l.length ∧ b < w.heap.size ∧ l.length ≤ cap ∧ ∀ (k : Nat) (hk : k < l.length), w.cell? ⟨b, off + k, none⟩ = some (.string l[k]) := by
  obtain ⟨b, off, cap', hv, hlt, q1, q2, hc⟩ := h.open (by omega)
  simp only [Value.slice.injEq] at hv
  exact ⟨b, off, hv.1, hv.2.1, hlt, by omega, fun k hk => hc k _ (by simp [sVals, hk])⟩
theorem split_row (s : ByteArray) (w : World) : IsRow (w.alloc (.cells (Lib.cellsOf (pL s) (min 25 (s.size + 1))) 9)) 1 (.slice (some ⟨w.heap.size, 0, none⟩) (pL s).length (min 25 (s.size + 1))) (pL s).length (sVals (pL s)) := by
  refine ⟨by simp [sVals], .inr ⟨w.heap.size, 0, min 25 (s.size + 1), rfl, by simp, pL_len s, by unfold maxLen; omega, ?_⟩⟩
  intro j u hu
  have hj : j < (pL s).length := by
    have := (List.getElem?_eq_some_iff.1 hu).1
    simpa [sVals] using this
  rw [Lib.cell_of_heap (new_at w _)]
  simp only [Lib.cellsOf, Nat.zero_add, List.getElem?_toArray]
  rw [List.getElem?_append_left (by simpa using hj)]
  exact hu
set_option maxRecDepth 100000 in
set_option maxHeartbeats 4000000 in
theorem parse_any (s : ByteArray) (w : World) (hs : s.size ≤ 1000000) (hT : UT w) (hM : ML w) (hW : WT w) :
    Calls Tryz.prog 12 #[.string s] w fun e w' => PrPost s w e w' := by
  by_cases h45 : s.data.toList = [45]
  · have e2 : (s.toList == [45]) = true := by
      rw [ByteArray.toList_eq, h45]; rfl
    have HE : Hid (parseR s = ([], 0)) := if_pos h45
    clear h45
    go_enter Tryz.func12, Tryz.ntmps12
    go_wp2
    go_ret2
    exact ⟨_, by rw [HE.out]; rfl, by rw [HE.out]; exact IsRow.nil _ _, Below.refl _ _⟩
  have e2 : (s.toList == [45]) = false := by
    rw [beq_eq_false_iff_ne, ByteArray.toList_eq]; exact h45
  have HE : Hid (parseR s = if chkF (parseL s) = true then (parseL s, 0) else ([], 3)) := if_neg h45
  obtain ⟨m, hm⟩ := hM
  have hsp := Tryz.strings_SplitN s ⟨#[44, 32]⟩ 25 m w (by omega) hm (by decide) (by decide) (by decide)
  have HS : Hid (Calls Tryz.prog 24 #[.string s, .string ⟨#[44, 32]⟩, .int .i64 25] w fun e w' => e = .returned (.slice (some ⟨w.heap.size, 0, none⟩) (pL s).length (min 25 (s.size + 1))) ∧ w' = w.alloc (.cells (Lib.cellsOf (pL s) (min 25 (s.size + 1))) 9)) := hsp
  have hA := al_b w (.cells (Lib.cellsOf (pL s) (min 25 (s.size + 1))) 9)
  have HR : Hid (∀ w', Below (w.alloc (.cells (Lib.cellsOf (pL s) (min 25 (s.size + 1))) 9)).heap.size (w.alloc (.cells (Lib.cellsOf (pL s) (min 25 (s.size + 1))) 9)) w' → IsRow w' 1 (.slice (some ⟨w.heap.size, 0, none⟩) (pL s).length (min 25 (s.size + 1))) (pL s).length (sVals (pL s))) := fun w' h => (split_row s w).below h
  have HP : Hid (∀ (k : Nat) (hk : k < (pL s).length) w', Below w.heap.size w w' → Calls Tryz.prog 25 #[.string (pL s)[k]] w' fun e w'' => e = .returned (fV (parseF (pL s)[k].data.toList)) ∧ Below w'.heap.size w' w'') := fun k hk w' h =>
    parseField_any _ w' (Nat.le_trans (split_size _ _ _ _ (List.getElem_mem hk)) hs) (ML_below ⟨m, hm⟩ h) (WT_below hW h)
  have HC : Hid (∀ v w', IsRow w' 3 v (parseL s).length (fCells (parseL s)) → Below w.heap.size w w' → Calls Tryz.prog 9 #[v] w' fun e w'' => e = .returned (.bool (chkF (parseL s))) ∧ Below w'.heap.size w' w'') := fun v w' h hb =>
    checkF_any v _ w' h (by have := pL_len s; unfold parseL; rw [List.length_map]; omega) (parse_nm s hs) (Utf8Tabs_below hT hb) (ML_below ⟨m, hm⟩ hb)
  have HT : Hid (∀ (k : Nat) (hk : k < (pL s).length), fCells (((pL s).take (k + 1)).map fun x => parseF x.data.toList) = fCells (((pL s).take k).map fun x => parseF x.data.toList) ++ enF (parseF (pL s)[k].data.toList)) := parse_take s
  have hpl := pL_len s
  have hLs : parseL s = (pL s).map fun x => parseF x.data.toList := rfl
  have HBA : Hid (Below w.heap.size w (w.alloc (.cells (Lib.cellsOf (pL s) (min 25 (s.size + 1))) 9))) := hA
  clear hsp hm hT hW h45 hA
  rw [hLs] at HC HE
  clear hLs
  obtain ⟨i0, hi0, hz0, hz1, hz2⟩ := info_parts info_fd
  have hcp : min 25 (s.size + 1) ≤ 25 := Nat.min_le_left _ _
  generalize min 25 (s.size + 1) = cp at *
  generalize pL s = L at *
  go_enter Tryz.func12, Tryz.ntmps12
  go_wp2_with fail
  refine HS.out.mono ?_
  rintro e w1 ⟨rfl, hw⟩
  rw [← hw] at HR HBA
  clear hw HS
  go_wp2_with fail
  go_loopw [4, 12] (fun r i wr => ∃ k : Nat, k ≤ L.length ∧ i = .int .i64 (k : Int) ∧ wr.ownsRow w1.heap.size 35 3 r k (fCells ((L.take k).map fun x => parseF x.data.toList)) ∧ Below w1.heap.size w1 wr) (fun _ i _ => L.length - (intOf i).toNat)
  case atStart => exact ⟨0, Nat.zero_le _, rfl, World.ownsRow_nil _ _ _ _, Below.refl _ _⟩
  case round =>
    obtain ⟨k, hk, rfl, hown, hB⟩ := hrel
    have hsz := hB.size
    by_cases hlk : k < L.length
    · have dk : decide ((k : Int) < L.length) = true := by simp; omega
      obtain ⟨b, off, hbo, -, hlt, hcap, hc⟩ := s_at (HR.out wr hB) (by omega)
      simp only [Option.some.injEq, Addr.mk.injEq, and_true] at hbo
      obtain ⟨rfl, rfl⟩ := hbo
      have ck := hc k hlk
      rw [Nat.zero_add] at ck
      have hBw := HBA.out.trans (hB.mono HBA.out.size)
      have HPk := HP.out k hlk wr hBw
      have HTk := HT.out k hlk
      have HO : Hid (∀ w', Below wr.heap.size wr w' → w'.ownsRow w1.heap.size 35 3 u4 k (fCells ((L.take k).map fun x => parseF x.data.toList))) := fun w' h => own_belowE hown h
      have HTh : Hid (fCells ((L.take (k + 1)).map fun x => parseF x.data.toList) = fCells ((L.take k).map fun x => parseF x.data.toList) ++ enF (parseF L[k].data.toList)) := HTk
      have HPh : Hid (Calls Tryz.prog 25 #[.string L[k]] wr fun e w'' => e = .returned (fV (parseF L[k].data.toList)) ∧ Below wr.heap.size wr w'') := HPk
      generalize parseF L[k].data.toList = f at *
      obtain ⟨fn, fk, fm⟩ := f
      generalize L[k]'hlk = x at *
      clear hc hown HPk HTk
      go_wp2_with fail
      refine HPh.out.mono ?_
      rintro e w2 ⟨rfl, hb2⟩
      have HO2 : Hid (w2.ownsRow w1.heap.size 35 3 u4 k (fCells ((L.take k).map fun x => parseF x.data.toList))) := HO.out w2 hb2
      have hB2 := hB.trans (hb2.mono hsz)
      have hsz2 := hB2.size
      clear hb2 HO
      go_wp2_with (at_builtin; go_loud (refine wpl_appE w2 rfl (.tmp 16) (.tmp 19) 22 35 rfl i0 _ 3 32 Tryz.underlying22 hi0 hz0 hz1 hz2 rfl (by decide) w1.heap.size u4 k _ rfl HO2.out [.string fn, .int .i64 fk, .bool fm] rfl _ rfl rfl (by intro u hu; simp at hu; rcases hu with rfl | rfl | rfl <;> rfl) (by omega) (by unfold maxLen; omega) (by omega) ?_); intro v4 w4 hown4 hb4)
      have HO4 : Hid (w4.ownsRow w1.heap.size 35 3 v4 (k + 1) (fCells ((L.take (k + 1)).map fun x => parseF x.data.toList))) := by show World.ownsRow _ _ _ _ _ _ _; rw [HTh.out]; exact hown4
      have HB4 : Hid (Below w1.heap.size w1 w4) := hB2.trans hb4
      clear hown4 hb4 HTh HO2 hB hB2 hBw HPh
      go_wp2
      go_roundw
      case rel => exact ⟨k + 1, by omega, by simp, HO4.out, HB4.out⟩
      case measure => simp [intOf]; omega
    · have hk' : k = L.length := by omega
      subst hk'
      have dk : decide ((L.length : Int) < L.length) = false := by simp
      rw [List.take_of_length_le (Nat.le_refl _)] at hown
      have hrow : IsRow wr 3 u4 (L.map fun x => parseF x.data.toList).length (fCells (L.map fun x => parseF x.data.toList)) := by rw [List.length_map]; exact IsRow.own hown
      have hBw := HBA.out.trans (hB.mono HBA.out.size)
      have HCk := HC.out _ wr hrow hBw
      have HRw : Hid (∀ w', Below wr.heap.size wr w' → IsRow w' 3 u4 (L.map fun x => parseF x.data.toList).length (fCells (L.map fun x => parseF x.data.toList)) ∧ Below w.heap.size w w') := fun w' h => ⟨hrow.below h, hBw.trans (h.mono hBw.size)⟩
      clear hown hrow hB hBw
      generalize (L.map fun x => parseF x.data.toList) = F at *
      have HCh : Hid (Calls Tryz.prog 9 #[u4] wr fun e w'' => e = .returned (.bool (chkF F)) ∧ Below wr.heap.size wr w'') := HCk
      clear HCk
      generalize chkF F = c at *
      cases c with
      | true =>
        have HE2 : Hid (parseR s = (F, 0)) := by have := HE.out; show _ = _; simpa using this
        clear HE
        go_wp2_with fail
        refine HCh.out.mono ?_
        rintro e w2 ⟨rfl, hb2⟩
        have HX : Hid (IsRow w2 3 u4 F.length (fCells F) ∧ Below w.heap.size w w2) := HRw.out w2 hb2
        clear hb2
        go_wp2
        go_ret2
        exact ⟨_, by rw [HE2.out]; rfl, by rw [HE2.out]; exact HX.out.1, HX.out.2⟩
      | false =>
        have HE2 : Hid (parseR s = ([], 3)) := by have := HE.out; show _ = _; simpa using this
        clear HE
        go_wp2_with fail
        refine HCh.out.mono ?_
        rintro e w2 ⟨rfl, hb2⟩
        have HX : Hid (IsRow w2 3 u4 F.length (fCells F) ∧ Below w.heap.size w w2) := HRw.out w2 hb2
        clear hb2
        go_wp2
        go_ret2
        exact ⟨_, by rw [HE2.out]; rfl, by rw [HE2.out]; exact IsRow.nil _ _, HX.out.2⟩
end Go.Proofs.YtfbnlkgopncejaaGreatDoor
