/- Rows that are read: a slice, its elements cell by cell, wherever it lies. -/
import Derived.Test.YtdendpckihckeaaGreatDoorZb1
import Derived.Test.YtdendpckihckeaaGreatDoorZb9
import Derived.Lib.RuneCountTail
namespace Go.Proofs.YtdendpckihckeaaGreatDoor
open Go.RowKit

/-- The slice v has n elements of 'sz' cells each, and they hold xs. -/
def IsRow (w : World) (sz : Nat) (v : Value) (n : Nat) (xs : List Value) : Prop :=
  xs.length = n * sz ∧ ((n = 0 ∧ ∃ a cap, v = .slice a 0 cap) ∨
    ∃ b off cap, v = .slice (some ⟨b, off, none⟩) n cap ∧ b < w.heap.size ∧ n ≤ cap ∧ cap ≤ maxLen ∧ ∀ j u, xs[j]? = some u → w.cell? ⟨b, off + j, none⟩ = some u)

theorem IsRow.below {w w' : World} {sz : Nat} {v : Value} {n : Nat} {xs : List Value} (h : IsRow w sz v n xs) (hb : Below w.heap.size w w') : IsRow w' sz v n xs := by
  refine ⟨h.1, ?_⟩
  rcases h.2 with h | ⟨b, off, cap, rfl, hlt, hc, hm, hcell⟩
  · exact .inl h
  · exact .inr ⟨b, off, cap, rfl, Nat.lt_of_lt_of_le hlt hb.size, hc, hm, fun j u hu => (hb.cell (p := ⟨b, off + j, none⟩) hlt).trans (hcell j u hu)⟩

/-- What the call itself has made is such a row, too. -/
theorem IsRow.own {w : World} {base : Nat} {e : TypeId} {sz : Nat} {v : Value} {n : Nat} {xs : List Value} (h : w.ownsRow base e sz v n xs) : IsRow w sz v n xs := by
  obtain ⟨h1, h2⟩ := h
  refine ⟨h1, ?_⟩
  rcases h2 with ⟨hv, hn⟩ | ⟨g, cap, cur, rfl, hb, hg, hc, hm, hs, ht⟩
  · exact .inl ⟨hn, _, _, hv⟩
  · refine .inr ⟨g, 0, cap, rfl, (Array.getElem?_eq_some_iff.1 hg).1, hc, hm, fun j u hu => ?_⟩
    rw [Nat.zero_add, cell_of_row w g j cur e (0, 0) hg]
    rw [← ht, List.getElem?_take] at hu
    split at hu
    · simpa using hu
    · cases hu

theorem IsRow.nil (w : World) (sz : Nat) : IsRow w sz (.slice none 0 0) 0 [] := ⟨by simp, .inl ⟨rfl, _, _, rfl⟩⟩

/-- One that is not empty, laid open. -/
theorem IsRow.open {w : World} {sz : Nat} {v : Value} {n : Nat} {xs : List Value} (h : IsRow w sz v n xs) (hn : 0 < n) :
    ∃ b off cap, v = .slice (some ⟨b, off, none⟩) n cap ∧ b < w.heap.size ∧ n ≤ cap ∧ cap ≤ maxLen ∧ ∀ j u, xs[j]? = some u → w.cell? ⟨b, off + j, none⟩ = some u := by
  rcases h.2 with ⟨h0, _⟩ | h
  · omega
  · exact h
theorem IsRow.form {w : World} {sz : Nat} {v : Value} {n : Nat} {xs : List Value} (h : IsRow w sz v n xs) : ∃ a cap, v = .slice a n cap := by
  rcases h.2 with ⟨rfl, a, cap, rfl⟩ | ⟨b, off, cap, rfl, _⟩
  · exact ⟨a, cap, rfl⟩
  · exact ⟨_, _, rfl⟩

/-- An item: its kind, its number, its text. -/
structure It where
  k : Int
  n : Int
  s : ByteArray
def It.cells (x : It) : List Value := [.int .i64 x.k, .int .i64 x.n, .string x.s]
def itCells (l : List It) : List Value := l.flatMap It.cells
theorem itCells_len (l : List It) : (itCells l).length = l.length * 3 := by
  induction l with
  | nil => rfl
  | cons x l ih => simp only [itCells, List.flatMap_cons, List.length_append, List.length_cons] at ih ⊢; rw [ih]; simp [It.cells]; omega
theorem itCells_at (l : List It) (i : Nat) (h : i < l.length) : (itCells l)[3 * i]? = some (.int .i64 (l[i]'h).k) ∧ (itCells l)[3 * i + 1]? = some (.int .i64 (l[i]'h).n) ∧ (itCells l)[3 * i + 2]? = some (.string (l[i]'h).s) := by
  induction l generalizing i with
  | nil => simp at h
  | cons x l ih =>
    cases i with
    | zero => exact ⟨rfl, rfl, rfl⟩
    | succ i =>
      have h' : i < l.length := by simpa using h
      have := ih i h'
      have e : itCells (x :: l) = It.cells x ++ itCells l := by simp [itCells]
      have e0 : (It.cells x).length = 3 := rfl
      rw [e]
      refine ⟨?_, ?_, ?_⟩
      · rw [List.getElem?_append_right (by rw [e0]; omega), e0, show 3 * (i + 1) - 3 = 3 * i by omega]; exact this.1
      · rw [List.getElem?_append_right (by rw [e0]; omega), e0, show 3 * (i + 1) + 1 - 3 = 3 * i + 1 by omega]; exact this.2.1
      · rw [List.getElem?_append_right (by rw [e0]; omega), e0, show 3 * (i + 1) + 2 - 3 = 3 * i + 2 by omega]; exact this.2.2
theorem itCells_snoc (l : List It) (x : It) : itCells (l ++ [x]) = itCells l ++ It.cells x := by simp [itCells]
/-- A row of items, item i's cells, as the walk asks for them. -/
theorem items_at {w : World} {a : Option Addr} {cap : Nat} {l : List It} (h : IsRow w 3 (.slice a l.length cap) l.length (itCells l)) (i : Nat) (hi : i < l.length) :
    ∃ b off, a = some ⟨b, off, none⟩ ∧ b < w.heap.size ∧ w.cell? ⟨b, off + i * 3, none⟩ = some (.int .i64 (l[i]'hi).k) ∧ w.cell? ⟨b, off + i * 3 + 1, none⟩ = some (.int .i64 (l[i]'hi).n) ∧ w.cell? ⟨b, off + i * 3 + 2, none⟩ = some (.string (l[i]'hi).s) := by
  obtain ⟨b, off, cap', hv, hlt, _, _, hc⟩ := h.open (by omega)
  have := itCells_at l i hi
  simp only [Value.slice.injEq] at hv
  refine ⟨b, off, hv.1, hlt, ?_, ?_, ?_⟩
  · rw [show off + i * 3 = off + 3 * i by omega]; exact hc _ _ this.1
  · rw [show off + i * 3 + 1 = off + (3 * i + 1) by omega]; exact hc _ _ this.2.1
  · rw [show off + i * 3 + 2 = off + (3 * i + 2) by omega]; exact hc _ _ this.2.2
end Go.Proofs.YtdendpckihckeaaGreatDoor
/- The reference's Runes: its walk (as with names). -/
namespace Go.Proofs.YtdendpckihckeaaGreatDoor
open Go.RowKit Go.Lib

theorem wpl_apps {P : Program} (wr : World) {ops : Array Oper} {rest : List Oper} {o : Oper} {a : Act} {Q : Exit → Act → World → Prop} (hgd : o.guard = none) (s x : Operand) (t e : TypeId)
    (ho : o.op = .call { callee := .builtin .append, args := #[s, x], argTypes := #[t, t] })
    (i : TypeInfo) (z : Value) (bytes : Nat) (ht : P.underlying t = some (.slice e)) (hi : P.info? e = some i) (hz : i.zero = some z)
    (hsize : i.size = 1) (hby : i.bytes = bytes) (hzs : z.cells.size = 1)
    (base : Nat) (v : Value) (n : Nat) (xs : List Value) (hs : a.eval s = v) (hown : wr.ownsRow base e 1 v n xs)
    (el : Value) (N : Nat) (hN : N = wr.heap.size) (hx : a.eval x = .slice (some ⟨N, 0, none⟩) 1 1) (h1 : el.oneCell' = true)
    (hbytes : (n + 1) * bytes ≤ 140737488355328) (h63 : n + 1 ≤ maxLen) (hbase : base ≤ wr.heap.size)
    (h : ∀ v' w', w'.ownsRow base e 1 v' (n + 1) (xs ++ [el]) → Below base wr w' → (∀ b, b < wr.heap.size → v.ownBlock ≠ some b → w'.heap[b]? = wr.heap[b]?) → wpList P ops Q rest (a.put o.dst v') w') :
    wpList P ops Q (o :: rest) a (wr.alloc (.cells #[el] e)) := by
  subst hN
  refine wpList_append_own _ hgd s x t ho base e i z 1 bytes ht hi hz hsize hby hzs (by omega) v n xs hs (hown.alloc _) ⟨wr.heap.size, 0, none⟩ 1 1 [el] hx rfl ?_ ?_ h63 hbytes ?_ ?_
  · intro j u hj
    match j, hj with
    | 0, hj => simp at hj; subst hj; simp [Addr.add]
  · intro u hu; simp at hu; subst hu; exact h1
  · simp; omega
  · intro v' w' h2 h3 h4
    refine h v' w' h2 ?_ ?_
    · exact ((Below.refl _ _).alloc hbase _).grown h3 (by simp; omega) (fun k hk => (hown.lt k hk).1)
    · intro b hb hne
      rw [h3.block b (by simp; omega) (fun e => hne e.symm)]
      exact Below.heap_alloc _ _ _ hb

theorem owns_below' {w w1 : World} {base : Nat} {e : TypeId} {sz : Nat} {v : Value} {n : Nat} {xs : List Value} (h : w.ownsRow base e sz v n xs) (hb : Below w.heap.size w w1) : w1.ownsRow base e sz v n xs :=
  h.kept (row := none) ⟨hb.os, hb.tape, hb.output, hb.size, fun k hk _ => hb.block k hk⟩ (by cases hv : v.ownBlock <;> simp)
def icells (l : List Nat) : List Value := l.map fun (c : Nat) => Value.int .i64 (c : Int)
theorem info_int : (Tryz.prog.info? 3).map (fun i => (i.zero, i.size, i.bytes)) = some (some (.int .i64 0), 1, 8) := by kernel_rfl
/-- What Runes leaves. -/
def RnPost (l : List Nat) (w : World) (e : Ending) (w' : World) : Prop :=
  ∃ v, e = .returned v ∧ IsRow w' 1 v l.length (icells l) ∧ Below w.heap.size w w'
def RnRel (s : ByteArray) (w : World) (t i : Value) (wr : World) : Prop :=
  ∃ (pos : Nat) (acc : List Nat), pos ≤ s.size ∧ i = .int .i64 pos ∧ wr.ownsRow w.heap.size 3 1 t acc.length (icells acc) ∧ Below w.heap.size w wr ∧ acc ++ rns (s.data.toList.drop pos) = rns s.data.toList ∧ validD (s.data.toList.drop pos) = true ∧ acc.length ≤ pos

set_option maxRecDepth 100000 in
set_option maxHeartbeats 2000000 in
theorem refRunes_any (s : ByteArray) (w : World) (hs : s.size ≤ 1000000) (hvs : validD s.data.toList = true) :
    Calls Tryz.prog 26 #[.string s] w fun e w' => RnPost (rns s.data.toList) w e w' := by
  obtain ⟨i0, hi0, hz0, hz1, hz2⟩ := info_parts info_int
  go_enter Tryz.func26, Tryz.ntmps26
  go_wp2
  go_loopw [3, 4] (fun t i wr => RnRel s w t i wr) (fun _ i _ => s.size - (RowKit.intOf i).toNat)
  case atStart => exact ⟨0, [], Nat.zero_le _, rfl, World.ownsRow_nil _ _ _ _, Below.refl _ _, rfl, hvs, Nat.le_refl _⟩
  case round =>
    obtain ⟨pos, acc, hp, rfl, hown, hb, hck, hv, hal⟩ := hrel
    have HC : Hid (acc ++ rns (s.data.toList.drop pos) = rns s.data.toList) := hck
    have HV : Hid (validD (s.data.toList.drop pos) = true) := hv
    clear hck hv
    by_cases hlt : pos < s.size
    · have hi : (pos : Int) < s.size := by omega
      have hsl := slice_ok s pos
      have hwl := width_le s pos hlt
      have hw1 := Lib.decode_width_pos s pos hlt
      have hfa := fst_at s pos hlt
      have hbs := hb.size
      have hbad : ¬ ((Utf8.decode s pos).1 = 65533 ∧ (Utf8.decode s pos).2 = 1) := by
        intro h
        have := HV.out
        rw [valid_at s pos hlt, if_pos h] at this
        cases this
      have HV2 : Hid (validD (s.data.toList.drop (pos + (Utf8.decode s pos).2)) = true) := by
        have := HV.out
        rw [valid_at s pos hlt, if_neg hbad] at this
        exact this
      have HC2 : Hid ((acc ++ [(Utf8.decode s pos).1]) ++ rns (s.data.toList.drop (pos + (Utf8.decode s pos).2)) = rns s.data.toList) := by
        show _ = _
        rw [← HC.out, rns_at s pos hlt]
        simp
      rw [if_neg hbad] at hfa
      clear hbad HC HV
      generalize (Utf8.decode s pos) = dc at *
      obtain ⟨c, d⟩ := dc
      simp only at hwl hw1 HC2 HV2
      have hd0 : ((d : Int) == 0) = false := by rw [beq_eq_false_iff_ne]; omega
      have HX : Hid (icells acc ++ [Value.int .i64 (c : Nat)] = icells (acc ++ [c])) := by show _ = _; simp [icells]
      go_wp2_with fail
      refine (first_any _ _ (by omega)).mono ?_
      rintro e w1 ⟨rfl, hb1⟩
      rw [show (fst (s.extract pos s.size)).1 = c by rw [hfa], show (fst (s.extract pos s.size)).2 = d by rw [hfa]]
      have hb2 := hb.trans (hb1.mono hb.size)
      have hs1 := hb1.size
      have hown1 := owns_below' hown hb1
      clear hb1 hfa hown
      have hne : u3.ownBlock ≠ some w1.heap.size := fun e => by have := (hown1.lt _ e).2; omega
      have hownA := hown1.alloc (.cells #[Value.int .i64 c, .int .i64 d] 82)
      go_wp2_with (at_builtin; refine wpl_apps _ rfl (.tmp 18) (.tmp 21) 56 3 rfl i0 _ 8 Tryz.underlying56 hi0 hz0 hz1 hz2 rfl _ _ _ _ rfl hownA (.int .i64 (c : Nat)) (w1.heap.size + 1) (by simp) rfl rfl (by omega) (by unfold maxLen; omega) (by simp; omega) ?_; intro v3 w3 hown3 hb3 hst3; have hc3 : w3.cell? ⟨w1.heap.size, 1, none⟩ = some (.int .i64 d) := (World.cell?_of_block (a := ⟨w1.heap.size, 1, none⟩) (hst3 w1.heap.size (by simp) hne)).trans (by simp))
      have HO : Hid (w3.ownsRow w.heap.size 3 1 v3 (acc ++ [c]).length (icells (acc ++ [c]))) := by
        show World.ownsRow _ _ _ _ _ _ _
        rw [← HX.out, List.length_append]
        exact hown3
      have HB : Hid (Below w.heap.size w w3) := (hb2.alloc (by omega) _).trans hb3
      clear hst3 hown3 hb3 hown1 hownA hb2
      go_wp2
      go_roundw
      case rel => exact ⟨pos + d, acc ++ [c], hwl, by go_num, HO.out, HB.out, HC2.out, HV2.out, by simp; omega⟩
      case measure => simp [RowKit.intOf]; omega
    · have HC2 : Hid (acc = rns s.data.toList) := by show _ = _; rw [← HC.out, rns_end s pos hlt]; simp
      have HO : Hid (IsRow wr 1 u3 acc.length (icells acc)) := IsRow.own hown
      have hp' : pos = s.size := by omega
      clear HC hown HV
      subst hp'
      go_wp2
      go_ret
      refine ⟨_, rfl, ?_, hb⟩
      rw [← HC2.out]
      exact HO.out
end Go.Proofs.YtdendpckihckeaaGreatDoor
/- lex.Place and the reference's Find: walks. -/
namespace Go.Proofs.YtdendpckihckeaaGreatDoor
open Go.RowKit

/-- A line, and where in it. -/
def plc : List Nat → Int → Int → Int → Int × Int
  | [], _, line, col => (line, col)
  | c :: cs, at', line, col => if at' ≤ 0 then (line, col) else if c = 10 then plc cs (at' - 1) (line + 1) 1 else plc cs (at' - 1) line (col + 1)
def plcL (l : List UInt8) (at' : Int) : Int × Int := if Lib.validD l = true then plc (rns l) at' 1 1 else (0, 0)
/-- What holds of Place's loop at every round. -/
def PlRel (s : ByteArray) (w : World) (k0 : Nat) (R : Int × Int) (av lv cv : Value) (wr : World) : Prop :=
  ∃ (pos : Nat) (a : Int) (li co : Nat), av = .int .i64 a ∧ lv = .int .i64 (li : Int) ∧ cv = .int .i64 (co : Int) ∧ wr.heap[k0]? = some (.stringIter s pos) ∧ Below w.heap.size w wr ∧ pos ≤ s.size ∧
    (-9223372036854775808 ≤ a ∧ a ≤ 9223372036854775807) ∧ li ≤ pos + 1 ∧ co ≤ pos + 1 ∧ plc (rns (s.data.toList.drop pos)) a li co = R
set_option maxRecDepth 100000 in
set_option maxHeartbeats 4000000 in
theorem place_any (s : ByteArray) (at' : Int) (w : World) (hs : s.size ≤ 1000000) (hl : -9223372036854775808 ≤ at' ∧ at' ≤ 9223372036854775807) (hT : UT w) :
    Calls Tryz.prog 20 #[.string s, .int .i64 at'] w fun e w' => e = .returned (.tuple #[.int .i64 (plcL s.data.toList at').1, .int .i64 (plcL s.data.toList at').2]) ∧ Below w.heap.size w w' := by
  have HVs : Hid (∀ w, UT w → Calls Tryz.prog 37 #[.string s] w fun e w' => e = .returned (.bool (Lib.validD s.data.toList)) ∧ Below w.heap.size w w') := fun w hU => Tryz.utf8_ValidString s w (by omega) hU
  unfold plcL
  cases hv : Lib.validD s.data.toList
  · rw [hv] at HVs
    rw [if_neg (by decide)]
    clear hv
    go_enter Tryz.func20, Tryz.ntmps20
    go_wp2_with fail
    refine (HVs.out _ hT).mono ?_
    rintro e0 w1 ⟨rfl, hb1⟩
    go_wp2
    go_ret2
    exact ⟨rfl, hb1⟩
  · rw [hv] at HVs
    rw [if_pos rfl]
    obtain ⟨R, HR0⟩ : ∃ R, Hid (plc (rns s.data.toList) at' 1 1 = R) := ⟨_, rfl⟩
    rw [HR0.out]
    clear hv
    go_enter Tryz.func20, Tryz.ntmps20
    go_wp2_with fail
    refine (HVs.out _ hT).mono ?_
    rintro e0 w1 ⟨rfl, hb1⟩
    have hs1 := hb1.size
    go_wp2_with fail
    go_loopw [1, 4, 5] (fun a l c wr => PlRel s w w1.heap.size R a l c wr) (fun _ _ _ wr => s.size - wr.iterPos w1.heap.size)
    case atStart => exact ⟨0, at', 1, 1, rfl, rfl, rfl, World.iter_heap w1 s 0, hb1.alloc hs1 _, Nat.zero_le _, hl, by omega, by omega, HR0.out⟩
    case round =>
      obtain ⟨pos, a, li, co, rfl, rfl, rfl, hit, hbw, hps, ha, hli, hco, hck⟩ := hrel
      have HC : Hid (plc (rns (s.data.toList.drop pos)) a li co = R) := hck
      clear hck
      by_cases hp : pos < s.size
      · have hnx : ∀ ty, (Instr.next (.pointer (some ⟨w1.heap.size, 0, none⟩)) true ty).run Tryz.prog wr = _ := fun ty => Lib.run_next_any_at wr w1.heap.size s pos ty hit hp
        have hwd := Lib.decode_width_pos s pos hp
        have hit2 := Lib.iterAt_heap wr w1.heap.size s pos (pos + (Utf8.decode s pos).2) hit
        have hbw2 := Lib.below_iterAt hbw (k := w1.heap.size) hs1 s (pos + (Utf8.decode s pos).2)
        have hrl := Lib.rune_le s pos
        have hwl := width_le s pos hp
        have hmeas : Hid (s.size - (pos + (Utf8.decode s pos).2) < s.size - wr.iterPos w1.heap.size) := by
          show _ < _
          rw [iterPos_of hit]; omega
        have hmp : Hid ((wr.iterAt w1.heap.size s (pos + (Utf8.decode s pos).2)).iterPos w1.heap.size = pos + (Utf8.decode s pos).2) := iterPos_of hit2
        have HS : Hid (R = if a ≤ 0 then ((li : Int), (co : Int)) else if (Utf8.decode s pos).1 = 10 then plc (rns (s.data.toList.drop (pos + (Utf8.decode s pos).2))) (a - 1) (li + 1) 1 else plc (rns (s.data.toList.drop (pos + (Utf8.decode s pos).2))) (a - 1) li (co + 1)) := by
          show _ = _
          rw [← HC.out, rns_at s pos hp]
          rfl
        clear HC
        generalize (Utf8.decode s pos).1 = c at *
        generalize (Utf8.decode s pos).2 = d at *
        generalize hW : wr.iterAt w1.heap.size s (pos + d) = W at *
        clear hW
        by_cases ha0 : a ≤ 0
        · have HS2 : Hid (R = ((li : Int), (co : Int))) := HS.out.trans (if_pos ha0)
          have da : decide (a ≤ 0) = true := by simpa using ha0
          clear HS
          go_wp2
          go_ret2
          exact ⟨by rw [HS2.out]; rfl, hbw2⟩
        · have da : decide (a ≤ 0) = false := by simpa using ha0
          by_cases hc : c = 10
          · subst hc
            have HR : Hid (PlRel s w w1.heap.size R (.int .i64 (a - 1)) (.int .i64 ((li : Int) + 1)) (.int .i64 1) W) :=
              ⟨pos + d, a - 1, li + 1, 1, rfl, by simp, rfl, hit2, hbw2, hwl, by omega, by omega, by omega, by rw [HS.out, if_neg ha0, if_pos rfl]; simp⟩
            clear HS
            go_wp2
            go_roundw
            case rel => exact HR.out
            case measure => rw [hmp.out]; exact hmeas.out
          · have HR : Hid (PlRel s w w1.heap.size R (.int .i64 (a - 1)) (.int .i64 (li : Int)) (.int .i64 ((co : Int) + 1)) W) :=
              ⟨pos + d, a - 1, li, co + 1, rfl, rfl, by simp, hit2, hbw2, hwl, by omega, by omega, by omega, by rw [HS.out, if_neg ha0, if_neg hc]; simp⟩
            have dc : ((c : Int) == 10) = false := by rw [beq_eq_false_iff_ne]; omega
            clear HS
            go_wp2
            go_roundw
            case rel => exact HR.out
            case measure => rw [hmp.out]; exact hmeas.out
      · have hnx : ∀ ty, (Instr.next (.pointer (some ⟨w1.heap.size, 0, none⟩)) true ty).run Tryz.prog wr = _ := fun ty => Lib.run_next_end_at wr w1.heap.size s pos ty hit hp
        have HR : Hid (((li : Int), (co : Int)) = R) := by show _ = _; rw [← HC.out, rns_end s pos hp]; rfl
        clear HC
        go_wp2
        go_ret2
        exact ⟨by rw [← HR.out]; rfl, hbw⟩
/-- What Find hands back. -/
def plV (x : Int × Int) : Value := .agg #[.int .i64 x.1, .int .i64 x.2]
structure Two (b : Nat) (W : World) (x0 x1 : Value) : Prop where
  c0 : W.cell? ⟨b, 0, none⟩ = some x0
  c1 : W.cell? ⟨b, 1, none⟩ = some x1
  f : ∀ j, W.frozen? ⟨b, j, none⟩ = false
theorem Two.below {b B : Nat} {W W' : World} {x0 x1 : Value} (h : Two b W x0 x1) (hb : Below B W W') (hlt : b < B) : Two b W' x0 x1 :=
  ⟨(hb.cell (p := ⟨b, 0, none⟩) hlt).trans h.c0, (hb.cell (p := ⟨b, 1, none⟩) hlt).trans h.c1, fun j => (hb.frozen (p := ⟨b, j, none⟩) hlt).trans (h.f j)⟩
theorem Two.new (w : World) (x0 x1 : Value) (T : TypeId) : Two w.heap.size (w.alloc (.cells #[x0, x1] T)) x0 x1 := ⟨by simp, by simp, fun j => by simp⟩
theorem Two.s0 {b : Nat} {W : World} {x0 x1 : Value} (h : Two b W x0 x1) (y : Value) : Two b (W.setCell ⟨b, 0, none⟩ y) y x1 :=
  ⟨World.cell?_setCell_same _ _ _ h.c0, (World.cell?_setCell_other _ _ _ _ (fun e => by cases e)).trans h.c1, fun j => by simpa using h.f j⟩
theorem Two.s1 {b : Nat} {W : World} {x0 x1 : Value} (h : Two b W x0 x1) (y : Value) : Two b (W.setCell ⟨b, 1, none⟩ y) x0 y :=
  ⟨(World.cell?_setCell_other _ _ _ _ (fun e => by cases e)).trans h.c0, World.cell?_setCell_same _ _ _ h.c1, fun j => by simpa using h.f j⟩
theorem results_f1 {fn : Func} {p : Tmp} (h : fn.results = #[.cell p 44]) (tmps : Array Value) (W : World) (b : Nat) (hp : tmps.getD p undef = .pointer (some ⟨b, 0, none⟩)) {k n : Int} (c0 : W.cell? ⟨b, 0, none⟩ = some (.int .i64 k)) (c1 : W.cell? ⟨b, 1, none⟩ = some (.int .i64 n)) :
    (results fn tmps).run Tryz.prog W = .ok (plV (k, n)) W := by
  have e1 : (results fn tmps).run Tryz.prog W = ((asAddr (tmps.getD p undef)).run Tryz.prog W).andThen fun a w₁ => (loadVar 44 a).run Tryz.prog w₁ := by
    simp only [results, h]
    simp [Sem.run_bind, Result.andThen]
  rw [e1, hp]
  have e : (asAddr (.pointer (some ⟨b, 0, none⟩))).run Tryz.prog W = .ok ⟨b, 0, none⟩ W := rfl
  rw [e]
  simp only [Result.andThen]
  have e2 : (loadVar 44 ⟨b, 0, none⟩).run Tryz.prog W = .ok (.agg #[.int .i64 k, .int .i64 n]) W := by go_simp
  rw [e2]
  rfl
/-- What holds of Find's loop at every round. -/
def FnRel (l : List Nat) (at' : Int) (R : Int × Int) (w2 : World) (iv : Value) (wr : World) : Prop :=
  ∃ (i li co : Nat), iv = .int .i64 (i : Int) ∧ i ≤ l.length ∧ Two w2.heap.size wr (.int .i64 (li : Int)) (.int .i64 (co : Int)) ∧ Below w2.heap.size w2 wr ∧ li ≤ i + 1 ∧ co ≤ i + 1 ∧ plc (l.drop i) (at' - i) li co = R
set_option maxRecDepth 100000 in
set_option maxHeartbeats 4000000 in
theorem refFind_any (s : ByteArray) (at' : Int) (w : World) (hs : s.size ≤ 1000000) :
    Calls Tryz.prog 21 #[.string s, .int .i64 at'] w fun e w' => e = .returned (plV (plcL s.data.toList at')) ∧ Below w.heap.size w w' := by
  unfold plcL
  cases hv : Lib.validD s.data.toList
  · rw [if_neg (by decide)]
    go_enter Tryz.func21, Tryz.ntmps21
    go_wp2_with fail
    refine (refValid_any s _ (by omega)).mono ?_
    rintro e0 w1 ⟨rfl, hb1⟩
    rw [hv]
    have h2 : Hid (Two w.heap.size w1 (.int .i64 0) (.int .i64 0)) := (Two.new w _ _ 44).below hb1 (by simp)
    have hb : Hid (Below w.heap.size w w1) := ((Below.refl _ _).alloc (Nat.le_refl _) _).trans (hb1.mono (by simp))
    clear hb1
    obtain ⟨c0, c1, ff⟩ := h2.out
    go_wp2
    try simp only [Exit.inBlock, Exit.then]
    exact bodyPost_ret (results_f1 rfl _ _ w.heap.size rfl ((h2.out.s0 _).s1 _).c0 ((h2.out.s0 _).s1 _).c1) rfl ⟨rfl, (hb.out.setCell (p := ⟨w.heap.size, 0, none⟩) (Nat.le_refl _) _).setCell (p := ⟨w.heap.size, 1, none⟩) (Nat.le_refl _) _⟩
  · rw [if_pos rfl]
    have HRn : Hid (∀ w, Calls Tryz.prog 26 #[.string s] w fun e w' => RnPost (rns s.data.toList) w e w') := fun w => refRunes_any s w hs hv
    have hrl : (rns s.data.toList).length ≤ s.size := by rw [Lib.size_eq]; exact rns_len_le _ _
    obtain ⟨R, HR0⟩ : ∃ R, Hid (plc (rns s.data.toList) at' 1 1 = R) := ⟨_, rfl⟩
    rw [HR0.out]
    generalize rns s.data.toList = L at *
    go_enter Tryz.func21, Tryz.ntmps21
    go_wp2_with fail
    refine (refValid_any s _ (by omega)).mono ?_
    rintro e0 w1 ⟨rfl, hb1⟩
    rw [hv]
    clear hv
    have h2 : Hid (Two w.heap.size w1 (.int .i64 0) (.int .i64 0)) := (Two.new w _ _ 44).below hb1 (by simp)
    have hb : Hid (Below w.heap.size w w1) := ((Below.refl _ _).alloc (Nat.le_refl _) _).trans (hb1.mono (by simp))
    have hlt1 : w.heap.size < w1.heap.size := by have := hb1.size; simp at this; omega
    clear hb1
    go_wp2_with fail
    refine (HRn.out _).mono ?_
    rintro e0 w2 ⟨v, rfl, hrow, hb2⟩
    have h22 : Hid (Two w.heap.size w2 (.int .i64 0) (.int .i64 0)) := h2.out.below hb2 hlt1
    have hb22 : Hid (Below w.heap.size w w2) := hb.out.trans (hb2.mono hb.out.size)
    have hlt2 : w.heap.size < w2.heap.size := by have := hb2.size; omega
    obtain ⟨a0, cap0, rfl⟩ := hrow.form
    have HRW : Hid (IsRow w2 1 (.slice a0 L.length cap0) L.length (icells L)) := hrow
    clear hb2 h2 hb hrow HRn
    go_wp2_with fail
    go_loopw [7] (fun i wr => FnRel L at' R w2 i wr) (fun i _ => L.length - (RowKit.intOf i).toNat)
    case atStart => exact ⟨0, 1, 1, rfl, Nat.zero_le _, Two.new w2 _ _ _, (Below.refl _ _).alloc (Nat.le_refl _) _, by omega, by omega, by simpa using HR0.out⟩
    case round =>
      obtain ⟨i, li, co, rfl, hi, h2w, hbb, hli, hco, hck⟩ := hrel
      have H2 : Hid (Two w2.heap.size wr (.int .i64 (li : Int)) (.int .i64 (co : Int))) := h2w
      obtain ⟨c0, c1, ff⟩ := h2w
      have HC : Hid (plc (L.drop i) (at' - i) li co = R) := hck
      clear hck
      by_cases h1 : i < L.length
      · have d1 : decide ((i : Int) < L.length) = true := by simpa using h1
        by_cases h2 : (i : Int) < at'
        · have d2 : decide ((i : Int) < at') = true := by simpa using h2
          obtain ⟨b, off, cap', hv, hlt, _, _, hc⟩ := HRW.out.open (by omega)
          simp only [Value.slice.injEq] at hv
          obtain ⟨rfl, -, rfl⟩ := hv
          have hcell : w2.cell? ⟨b, off + i, none⟩ = some (.int .i64 ((L[i]'h1 : Nat) : Int)) := hc i _ (by simp [icells, h1])
          have hcr : wr.cell? ⟨b, off + i, none⟩ = some (.int .i64 ((L[i]'h1 : Nat) : Int)) := (hbb.cell (p := ⟨b, off + i, none⟩) hlt).trans hcell
          have hbn : b ≠ w2.heap.size := by omega
          have HS : Hid (plc (L.drop i) (at' - i) li co = if L[i]'h1 = 10 then plc (L.drop (i + 1)) (at' - i - 1) (li + 1) 1 else plc (L.drop (i + 1)) (at' - i - 1) li (co + 1)) := by
            show _ = _
            rw [List.drop_eq_getElem_cons h1]
            show (if _ then _ else _) = _
            rw [if_neg (by omega)]
          generalize L[i]'h1 = c at *
          have hcs : ∀ x, (wr.setCell ⟨w2.heap.size, 1, none⟩ x).cell? ⟨b, off + i, none⟩ = some (.int .i64 (c : Int)) := fun x => by
            rw [World.cell?_setCell_other _ _ _ _ (fun e' => hbn (congrArg Addr.block e').symm)]
            exact hcr
          clear hc hcell
          by_cases hc10 : c = 10
          · subst hc10
            go_wp2
            refine ⟨⟨i + 1, li + 1, 1, by simp, by omega, ((H2.out.s1 _).s0 _).s1 _, ((hbb.setCell (p := ⟨w2.heap.size, 1, none⟩) (Nat.le_refl _) _).setCell (p := ⟨w2.heap.size, 0, none⟩) (Nat.le_refl _) _).setCell (p := ⟨w2.heap.size, 1, none⟩) (Nat.le_refl _) _, by omega, by omega, ?_⟩, by simp [intOf]; omega⟩
            rw [← HC.out, HS.out, if_pos rfl]
            simp [Int.sub_sub]
          · have dc : ((c : Int) == 10) = false := by rw [beq_eq_false_iff_ne]; omega
            go_wp2
            refine ⟨⟨i + 1, li, co + 1, by simp, by omega, H2.out.s1 _, hbb.setCell (p := ⟨w2.heap.size, 1, none⟩) (Nat.le_refl _) _, by omega, by omega, ?_⟩, by simp [intOf]; omega⟩
            rw [← HC.out, HS.out, if_neg hc10]
            simp [Int.sub_sub]
        · have d2 : decide ((i : Int) < at') = false := by simpa using h2
          have HE : Hid (((li : Int), (co : Int)) = R) := by
            show _ = _
            rw [← HC.out, List.drop_eq_getElem_cons h1]
            show _ = (if _ then _ else _)
            rw [if_pos (by omega)]
          have HZ : Hid (Two w.heap.size wr (.int .i64 0) (.int .i64 0)) := h22.out.below hbb hlt2
          have HBw : Hid (Below w.heap.size w wr) := hb22.out.trans (hbb.mono hb22.out.size)
          obtain ⟨z0, z1, zf⟩ := HZ.out
          go_wp2
          try simp only [Exit.inBlock, Exit.then]
          exact bodyPost_ret (results_f1 rfl _ _ w.heap.size rfl ((HZ.out.s0 _).s1 _).c0 ((HZ.out.s0 _).s1 _).c1) rfl ⟨by rw [← HE.out], (HBw.out.setCell (p := ⟨w.heap.size, 0, none⟩) (Nat.le_refl _) _).setCell (p := ⟨w.heap.size, 1, none⟩) (Nat.le_refl _) _⟩
      · have d1 : decide ((i : Int) < L.length) = false := by simp; omega
        have HE : Hid (((li : Int), (co : Int)) = R) := by
          show _ = _
          rw [← HC.out, List.drop_of_length_le (by omega)]
          rfl
        have HZ : Hid (Two w.heap.size wr (.int .i64 0) (.int .i64 0)) := h22.out.below hbb hlt2
        have HBw : Hid (Below w.heap.size w wr) := hb22.out.trans (hbb.mono hb22.out.size)
        obtain ⟨z0, z1, zf⟩ := HZ.out
        go_wp2
        try simp only [Exit.inBlock, Exit.then]
        exact bodyPost_ret (results_f1 rfl _ _ w.heap.size rfl ((HZ.out.s0 _).s1 _).c0 ((HZ.out.s0 _).s1 _).c1) rfl ⟨by rw [← HE.out], (HBw.out.setCell (p := ⟨w.heap.size, 0, none⟩) (Nat.le_refl _) _).setCell (p := ⟨w.heap.size, 1, none⟩) (Nat.le_refl _) _⟩
end Go.Proofs.YtdendpckihckeaaGreatDoor
/- lex.wordSize, markSize, cut: walks. -/
namespace Go.Proofs.YtdendpckihckeaaGreatDoor
open Go.RowKit

theorem wsz_go (s : ByteArray) : wsz s.data.toList = if (Lib.decodeGo s).1 = 95 ∨ letterN (Lib.decodeGo s).1 = true then wgo s.data.toList else 0 := by
  unfold wsz
  by_cases hz : s.size = 0
  · have ed : Lib.decodeGo s = (65533, 0) := by unfold Lib.decodeGo; rw [if_pos hz]
    have e : s.data.toList = [] := List.eq_nil_of_length_eq_zero (by rw [← Lib.size_eq]; exact hz)
    rw [ed, e, if_neg (fun h => h.1 rfl)]
    decide +kernel
  · have hne : s.data.toList ≠ [] := fun e => hz (by rw [Lib.size_eq, e]; rfl)
    rw [dec_same s hz]
    by_cases h : (Lib.decodeL s.data.toList).1 = 95 ∨ letterN (Lib.decodeL s.data.toList).1 = true
    · rw [if_pos ⟨hne, h⟩, if_pos h]
    · rw [if_neg (fun e => h e.2), if_neg h]
set_option maxRecDepth 100000 in
set_option maxHeartbeats 2000000 in
theorem wordSize_any (s : ByteArray) (w : World) (hU : UT w) :
    Calls Tryz.prog 82 #[.string s] w fun e w' => e = .returned (.int .i64 (wsz s.data.toList : Nat)) ∧ Below w.heap.size w w' := by
  have HD : Hid (∀ w, UT w → Calls Tryz.prog 87 #[.string s] w fun e w' => e = .returned (.tuple #[.int .i32 (Lib.decodeGo s).1, .int .i64 (Lib.decodeGo s).2]) ∧ Below w.heap.size w w') := fun w h => Tryz.utf8_DecodeRuneInString s w h
  have hcl : (Lib.decodeGo s).1 ≤ 1114111 := by have := (decGo_ok s).1; unfold scal at this; omega
  have HW : Hid (∀ w, Calls Tryz.prog 81 #[.string s] w fun e w' => e = .returned (.int .i64 (wgo s.data.toList : Nat)) ∧ Below w.heap.size w w') := fun w => wordGoesOn_any s w
  rw [wsz_go]
  generalize wgo s.data.toList = W at *
  generalize Lib.decodeGo s = p at *
  obtain ⟨c, d⟩ := p
  simp only at HD hcl ⊢
  have HL : Hid (∀ w : World, Calls Tryz.prog 92 #[.int .i32 (c : Int)] w fun e w' => e = .returned (.bool (letterN c)) ∧ w' = w) := fun w => by rw [← letterZ_nat]; exact letter_any c w
  by_cases h95 : c = 95
  · subst h95
    rw [if_pos (.inl rfl)]
    go_enter Tryz.func82, Tryz.ntmps82
    go_wp2_with fail
    refine (HD.out _ hU).mono ?_
    rintro e w1 ⟨rfl, hb1⟩
    go_wp2_with fail
    refine (HW.out _).mono ?_
    rintro e w2 ⟨rfl, hb2⟩
    have hB := hb1.trans (hb2.mono hb1.size)
    clear hb1 hb2
    go_wp2
    go_ret
    exact ⟨rfl, hB⟩
  have n95 : ((c : Int) != 95) = true := by rw [bne_iff_ne]; omega
  cases hL : letterN c
  · rw [if_neg (by simp [h95])]
    rw [hL] at HL
    clear hL h95
    go_enter Tryz.func82, Tryz.ntmps82
    go_wp2_with fail
    refine (HD.out _ hU).mono ?_
    rintro e w1 ⟨rfl, hb1⟩
    go_wp2_with (go_at_call 92; refine (HL.out _).mono ?_; rintro e w' ⟨rfl, rfl⟩)
    go_ret
    exact ⟨rfl, hb1⟩
  · rw [if_pos (.inr rfl)]
    rw [hL] at HL
    clear hL h95
    go_enter Tryz.func82, Tryz.ntmps82
    go_wp2_with fail
    refine (HD.out _ hU).mono ?_
    rintro e w1 ⟨rfl, hb1⟩
    go_wp2_with fail
    refine (HL.out _).mono ?_
    rintro e w' ⟨rfl, rfl⟩
    go_wp2_with fail
    refine (HW.out _).mono ?_
    rintro e w2 ⟨rfl, hb2⟩
    have hB := hb1.trans (hb2.mono hb1.size)
    clear hb1 hb2
    go_wp2
    go_ret
    exact ⟨rfl, hB⟩
abbrev MK : ByteArray := ⟨#[61, 60, 62, 123, 125, 40, 41, 44]⟩
set_option maxRecDepth 100000 in
set_option maxHeartbeats 2000000 in
theorem markSize_any (s : ByteArray) (w : World) (h0 : 0 < s.size) :
    Calls Tryz.prog 83 #[.string s] w fun e w' => e = .returned (.int .i64 (msz s.data.toList : Nat)) ∧ w' = w := by
  unfold msz
  cases p1 : Lib.hasPrefix s.data.toList [33, 61]
  · cases p2 : Lib.hasPrefix s.data.toList [60, 61]
    · cases p3 : Lib.hasPrefix s.data.toList [62, 61]
      · rw [if_neg (by simp)]
        have h0' : (0 : Int) < s.size := by omega
        have hg := gN_of s 0 h0
        have hgl := gN_list s 0 h0
        have hlt := gN_lt s 0
        have HI : Hid (∀ w, Calls Tryz.prog 60 #[.string MK, .int .u8 (gN s 0 : Int)] w fun e w' => e = .returned (.int .i64 (Lib.indexByte marks1 (s.data.toList.getD 0 0))) ∧ w' = w) := fun w => by
          have := Tryz.strings_IndexByte MK (gN s 0 : Int) w
          rw [show ((gN s 0 : Int).toNat).toUInt8 = s.data.toList.getD 0 0 by rw [hgl]; simp] at this
          exact this
        generalize gN s 0 = g at *
        generalize Lib.indexByte marks1 (s.data.toList.getD 0 0) = J at *
        clear hgl
        by_cases hJ : 0 ≤ J
        · rw [if_pos hJ]
          have dJ : decide (0 ≤ J) = true := by simpa using hJ
          go_enter Tryz.func83, Tryz.ntmps83
          go_wp2_with fail
          refine (Tryz.strings_HasPrefix _ _ _).mono ?_
          rintro e w1 ⟨rfl, rfl⟩
          rw [show (⟨#[33, 61]⟩ : ByteArray).data.toList = [33, 61] from rfl, p1]
          go_wp2_with fail
          refine (Tryz.strings_HasPrefix _ _ _).mono ?_
          rintro e w1 ⟨rfl, rfl⟩
          rw [show (⟨#[60, 61]⟩ : ByteArray).data.toList = [60, 61] from rfl, p2]
          go_wp2_with fail
          refine (Tryz.strings_HasPrefix _ _ _).mono ?_
          rintro e w1 ⟨rfl, rfl⟩
          rw [show (⟨#[62, 61]⟩ : ByteArray).data.toList = [62, 61] from rfl, p3]
          go_wp2_with fail
          refine (HI.out _).mono ?_
          rintro e w1 ⟨rfl, rfl⟩
          go_wp2
          go_ret
          exact ⟨rfl, rfl⟩
        · rw [if_neg hJ]
          have dJ : decide (0 ≤ J) = false := by simpa using hJ
          go_enter Tryz.func83, Tryz.ntmps83
          go_wp2_with fail
          refine (Tryz.strings_HasPrefix _ _ _).mono ?_
          rintro e w1 ⟨rfl, rfl⟩
          rw [show (⟨#[33, 61]⟩ : ByteArray).data.toList = [33, 61] from rfl, p1]
          go_wp2_with fail
          refine (Tryz.strings_HasPrefix _ _ _).mono ?_
          rintro e w1 ⟨rfl, rfl⟩
          rw [show (⟨#[60, 61]⟩ : ByteArray).data.toList = [60, 61] from rfl, p2]
          go_wp2_with fail
          refine (Tryz.strings_HasPrefix _ _ _).mono ?_
          rintro e w1 ⟨rfl, rfl⟩
          rw [show (⟨#[62, 61]⟩ : ByteArray).data.toList = [62, 61] from rfl, p3]
          go_wp2_with fail
          refine (HI.out _).mono ?_
          rintro e w1 ⟨rfl, rfl⟩
          go_wp2
          go_ret
          exact ⟨rfl, rfl⟩
      · rw [if_pos (by simp)]
        go_enter Tryz.func83, Tryz.ntmps83
        go_wp2_with fail
        refine (Tryz.strings_HasPrefix _ _ _).mono ?_
        rintro e w1 ⟨rfl, rfl⟩
        rw [show (⟨#[33, 61]⟩ : ByteArray).data.toList = [33, 61] from rfl, p1]
        go_wp2_with fail
        refine (Tryz.strings_HasPrefix _ _ _).mono ?_
        rintro e w1 ⟨rfl, rfl⟩
        rw [show (⟨#[60, 61]⟩ : ByteArray).data.toList = [60, 61] from rfl, p2]
        go_wp2_with fail
        refine (Tryz.strings_HasPrefix _ _ _).mono ?_
        rintro e w1 ⟨rfl, rfl⟩
        rw [show (⟨#[62, 61]⟩ : ByteArray).data.toList = [62, 61] from rfl, p3]
        go_wp2
        go_ret
        exact ⟨rfl, rfl⟩
    · rw [if_pos (by simp)]
      go_enter Tryz.func83, Tryz.ntmps83
      go_wp2_with fail
      refine (Tryz.strings_HasPrefix _ _ _).mono ?_
      rintro e w1 ⟨rfl, rfl⟩
      rw [show (⟨#[33, 61]⟩ : ByteArray).data.toList = [33, 61] from rfl, p1]
      go_wp2_with fail
      refine (Tryz.strings_HasPrefix _ _ _).mono ?_
      rintro e w1 ⟨rfl, rfl⟩
      rw [show (⟨#[60, 61]⟩ : ByteArray).data.toList = [60, 61] from rfl, p2]
      go_wp2
      go_ret
      exact ⟨rfl, rfl⟩
  · rw [if_pos (by simp)]
    go_enter Tryz.func83, Tryz.ntmps83
    go_wp2_with fail
    refine (Tryz.strings_HasPrefix _ _ _).mono ?_
    rintro e w1 ⟨rfl, rfl⟩
    rw [show (⟨#[33, 61]⟩ : ByteArray).data.toList = [33, 61] from rfl, p1]
    go_wp2
    go_ret
    exact ⟨rfl, rfl⟩
end Go.Proofs.YtdendpckihckeaaGreatDoor
