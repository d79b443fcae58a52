/- schema.AttrText beside the events: its walk. -/
import Derived.Test.YtacpllmlpmllbaaGreatDoorZk7
import Derived.Test.YtacpllmlpmllbaaGreatDoorZk17
import Derived.Deep.RegionHeld3
import Derived.Test.YtacpllmlpmllbaaGreatDoorZk4
import Derived.Test.YtacpllmlpmllbaaGreatDoorZk15
import Derived.Test.YtacpllmlpmllbaaGreatDoorZk11
import Derived.Test.YtacpllmlpmllbaaGreatDoorZk5
import Derived.Deep.AppendLies
namespace Go.Proofs.YtacpllmlpmllbaaGreatDoor
open Go.RowKit

abbrev e0S : ByteArray := ⟨#[]⟩
theorem may1S (n : Int) (h1 : 0 ≤ n) (h2 : n ≤ 1099511627775) : Q.mayIt ⟨1, n, e0S⟩ = true := by
  unfold Q.mayIt Q.mayB
  rw [if_pos rfl, Q.isEmpty_to e0S rfl, decide_eq_true (show 0 ≤ n ∧ n ≤ 4611686018427387903 by omega)]
  rfl
theorem may4S {s : ByteArray} (h : s.size ≤ 65536) : Q.mayIt ⟨4, 0, s⟩ = true := by
  unfold Q.mayIt Q.mayB
  rw [if_neg (show ¬ (4 : Int) = 1 by decide), if_neg (show ¬ (4 : Int) = 2 by decide), if_neg (show ¬ (4 : Int) = 3 by decide), if_pos rfl]
  exact decide_eq_true ⟨rfl, h⟩
def encA (x : At) : List UInt8 := Q.itB ⟨4, 0, x.n⟩ ++ (V.txtV x.k x.v x.s).data.toList
def textA (l : List At) : ByteArray := if chkA l = true then ⟨(Q.numL l.length ++ l.flatMap encA).toArray⟩ else e0S
theorem heap_atS {w : World} {b : Nat} {C : Array Value} {t : TypeId} (h : w.heap[b]? = some (.cells C t (0, 0))) : (∀ j, w.cell? ⟨b, j, none⟩ = C[j]?) ∧ (∀ j, w.frozen? ⟨b, j, none⟩ = false) ∧ b < w.heap.size :=
  ⟨fun j => by rw [Lib.cell_of_heap h], fun j => by simp [World.frozen?, h], (Array.getElem?_eq_some_iff.1 h).1⟩
theorem fourS {w : World} {b : Nat} {x y z u : Value} {t : TypeId} (h : w.heap[b]? = some (.cells #[x, y, z, u] t (0, 0))) : (w.cell? ⟨b, 0, none⟩ = some x ∧ w.cell? ⟨b, 1, none⟩ = some y ∧ w.cell? ⟨b, 2, none⟩ = some z ∧ w.cell? ⟨b, 3, none⟩ = some u) ∧ w.frozen? ⟨b, 0, none⟩ = false ∧ w.frozen? ⟨b, 1, none⟩ = false ∧ w.frozen? ⟨b, 2, none⟩ = false ∧ w.frozen? ⟨b, 3, none⟩ = false := ⟨⟨(heap_atS h).1 0, (heap_atS h).1 1, (heap_atS h).1 2, (heap_atS h).1 3⟩, (heap_atS h).2.1 0, (heap_atS h).2.1 1, (heap_atS h).2.1 2, (heap_atS h).2.1 3⟩
theorem txt_sizeE {k n : Int} {s : ByteArray} (h : chkV k n s = true) : (V.txtV k n s).size ≤ 131088 := by
  have := Q.flat_len _ (V.chk_may h)
  have h' : V.chkV k n s = true := h
  unfold V.txtV
  rw [if_pos h']
  unfold V.txt
  rw [Lib.size_eq]
  simpa using this
theorem chkA_len {l : List At} (h : chkA l = true) : l.length ≤ 24 := by
  unfold chkA at h
  simp only [Bool.and_eq_true, decide_eq_true_eq] at h
  exact h.1
theorem chkA_ok {l : List At} (h : chkA l = true) : ∀ x ∈ l, oneP x.n = true ∧ chkV x.k x.v x.s = true := by
  unfold chkA at h
  simp only [Bool.and_eq_true, decide_eq_true_eq] at h
  intro x hx
  obtain ⟨i, hi, rfl⟩ := List.mem_iff_getElem.1 hx
  have := (h.2 i hi).1
  unfold mayA at this
  simpa using this
theorem encA_len {x : At} (hn : x.n.size ≤ 65536) (hc : chkV x.k x.v x.s = true) : (encA x).length ≤ 200000 := by
  have h1 := Q.itB_len ⟨4, 0, x.n⟩ (may4S hn)
  have h2 := txt_sizeE hc
  unfold encA
  rw [List.length_append]
  have h3 : (V.txtV x.k x.v x.s).data.toList.length = (V.txtV x.k x.v x.s).size := by simp
  omega
theorem encAs_len : ∀ l : List At, (∀ x ∈ l, (encA x).length ≤ 200000) → (l.flatMap encA).length ≤ l.length * 200000
  | [], _ => by simp
  | x :: l, h => by
    have h1 := h x (by simp)
    have h2 := encAs_len l (fun y hy => h y (by simp [hy]))
    rw [List.flatMap_cons, List.length_append, List.length_cons]
    omega
theorem row_1S (W : World) (k n : Int) (s : ByteArray) (t : TypeId) : IsRow (W.alloc (.cells #[.int .i64 k, .int .i64 n, .string s] t)) 3 (.slice (some ⟨W.heap.size, 0, none⟩) 1 1) [(⟨k, n, s⟩ : It)].length (itCells [(⟨k, n, s⟩ : It)]) := by
  refine ⟨rfl, .inr ⟨W.heap.size, 0, 1, rfl, by simp, Nat.le_refl _, by decide, fun j u hu => ?_⟩⟩
  have e : (itCells [(⟨k, n, s⟩ : It)]) = [Value.int .i64 k, .int .i64 n, .string s] := rfl
  rw [e] at hu
  simpa using hu
theorem put_1S (s : ByteArray) (t : TypeId) (W : World) (N : Nat) (hN : N = W.heap.size) (hs : s.size ≤ 65536) (hT : Q.Tab W) :
    Calls Tryz.prog 56 #[.slice (some ⟨N, 0, none⟩) 1 1] (W.alloc (.cells #[.int .i64 4, .int .i64 0, .string s] t)) fun e w' => e = .returned (.tuple #[.string ⟨(Q.itB ⟨4, 0, s⟩).toArray⟩, .int .i64 0]) ∧ Below W.heap.size W w' := by
  subst hN
  refine (Q.put_ok _ _ _ (row_1S W 4 0 s t) (Q.Tab_alloc hT _) (by simp) ?_ ?_).mono ?_
  · intro x hx
    simp only [List.mem_cons, List.not_mem_nil, or_false] at hx
    subst hx
    show s.size ≤ _
    omega
  · simp [may4S hs]
  · rintro e w' ⟨he, hb⟩
    exact ⟨by rw [he]; simp, ((Below.refl _ _).alloc (Nat.le_refl _) _).trans (hb.mono (by simp))⟩
set_option maxRecDepth 100000 in
set_option maxHeartbeats 2000000 in
theorem textA_any (v : Value) (l : List At) (w : World) (hr : IsRow w 4 v l.length (aCells l)) (hl : l.length ≤ 1000000) (hn : ∀ x ∈ l, x.n.size ≤ 65536 ∧ x.s.size ≤ 140737488355328) (hU : UT w) (hM : ML w) (hQ : Q.Tab w) :
    Calls Tryz.prog 57 #[v] w fun e w' => e = .returned (.string (textA l)) ∧ Below w.heap.size w w' := by
  obtain ⟨a0, cap0, rfl⟩ := hr.form
  have HR : Hid (∀ w', Below w.heap.size w w' → IsRow w' 4 (.slice a0 l.length cap0) l.length (aCells l)) := fun w' h => hr.below h
  have HT : Hid (∀ w', Below w.heap.size w w' → Q.Tab w') := fun w' h => hQ.below h hQ.size
  have HU : Hid (∀ w', Below w.heap.size w w' → UT w') := fun w' h => Utf8Tabs_below hU h
  have HC : Hid (Calls Tryz.prog 43 #[.slice a0 l.length cap0] w fun e w' => e = .returned (.bool (chkA l)) ∧ Below w.heap.size w w') := attrs_any _ l w hr hl (fun x hx => ⟨Nat.le_trans (hn x hx).1 (by decide), (hn x hx).2⟩) hU hM
  cases hv : chkA l
  · rw [hv] at HC
    have HE : Hid (textA l = e0S) := if_neg (by rw [hv]; decide)
    clear hv HR HT HU hr hn hQ hU hM
    go_enter Tryz.func57, Tryz.ntmps57
    go_wp2_with (refine HC.out.mono ?_; rintro e w1 ⟨rfl, hb1⟩)
    go_ret
    exact ⟨by rw [HE.out]; rfl, hb1⟩
  · rw [hv] at HC
    have HE : Hid (textA l = ⟨(Q.numL l.length ++ l.flatMap encA).toArray⟩) := if_pos hv
    have HOk : Hid (∀ x ∈ l, x.n.size ≤ 65536 ∧ x.s.size ≤ 140737488355328 ∧ (V.txtV x.k x.v x.s).size ≤ 131088 ∧ (Q.itB ⟨4, 0, x.n⟩).length ≤ 65544 ∧ (encA x).length ≤ 200000) := fun x hx => ⟨(hn x hx).1, (hn x hx).2, txt_sizeE (chkA_ok hv x hx).2, Q.itB_len ⟨4, 0, x.n⟩ (may4S (hn x hx).1), encA_len (hn x hx).1 (chkA_ok hv x hx).2⟩
    have h24 := chkA_len hv
    have hnl : (Q.numL (l.length : Int)).length ≤ 65544 := Q.itB_len ⟨1, (l.length : Int), e0S⟩ (may1S _ (by omega) (by omega))
    clear hv hr hn hQ hU hM
    go_enter Tryz.func57, Tryz.ntmps57
    go_wp2_with fail
    refine HC.out.mono ?_
    rintro e w1 ⟨rfl, hb1⟩
    have HB1 : Hid (Below w.heap.size w w1) := hb1
    have hs1 := hb1.size
    have HT1 : Hid (∀ w', Below w1.heap.size w1 w' → Q.Tab w' ∧ UT w' ∧ IsRow w' 4 (.slice a0 l.length cap0) l.length (aCells l)) := fun w' h => ⟨HT.out _ (HB1.out.trans (h.mono hs1)), HU.out _ (HB1.out.trans (h.mono hs1)), HR.out _ (HB1.out.trans (h.mono hs1))⟩
    clear HC hb1 HT HU HR
    have hA := al_b w1 (.cells #[.pointer none, .slice none 0 0] 94)
    have HN := Q.num_any (l.length : Int) (w1.alloc (.cells #[.pointer none, .slice none 0 0] 94)) (HT1.out _ hA).1
    have HI : Hid (Q.IsB w1.heap.size w1.heap.size (Lib.byteCells []) (w1.alloc (.cells #[.pointer none, .slice none 0 0] 94))) := Lib.IsBuilderF.of (Lib.fresh_isBuilder _ _ w1)
    have HA : Hid (Below w1.heap.size w1 (w1.alloc (.cells #[.pointer none, .slice none 0 0] 94))) := hA
    clear hA
    go_wp2_with fail
    refine HN.mono ?_
    rintro e w2 ⟨rfl, hb2⟩
    have HB2 : Hid (Below w1.heap.size w1 w2) := HA.out.trans (hb2.mono HA.out.size)
    have HI2 : Hid (Q.IsB w1.heap.size w1.heap.size (Lib.byteCells []) w2) := Q.IsB_below HI.out hb2
    have hsn : (strOfNums (Q.numI (l.length : Int))).size ≤ 65544 := by
      have e : (strOfNums (Q.numI (l.length : Int))).size = (Q.numL (l.length : Int)).length := by
        have := congrArg List.length (Q.strCells_num (l.length : Int))
        simpa [Lib.strCells, Lib.byteCells] using this
      omega
    have HWr : Hid (Calls Tryz.prog 52 #[.pointer (some ⟨w1.heap.size, 0, none⟩), .string (strOfNums (Q.numI (l.length : Int)))] w2 fun e w' => e = .returned (.tuple #[.int .i64 (strOfNums (Q.numI (l.length : Int))).size, .nilIface]) ∧ Q.IsB w1.heap.size w1.heap.size (Lib.byteCells (Q.numL (l.length : Int))) w' ∧ Below w1.heap.size w2 w') := by
      have h := Q.writeString_any w1.heap.size w1.heap.size _ (strOfNums (Q.numI (l.length : Int))) w2 HI2.out (by simp [Lib.byteCells]; omega) HB2.out.size
      rw [Q.strCells_num] at h
      exact h
    have hlt2 : w1.heap.size < w2.heap.size := by have := hb2.size; simp at this; omega
    clear hb2 HI HI2 HN HA
    generalize (strOfNums (Q.numI (l.length : Int))) = SN at *
    go_wp2_with fail
    refine HWr.out.mono ?_
    rintro e w3 ⟨rfl, hI3, hb3⟩
    have HB3 : Hid (Below w1.heap.size w1 w3) := HB2.out.trans hb3
    have HI3 : Hid (Q.IsB w1.heap.size w1.heap.size (Lib.byteCells (Q.numL (l.length : Int) ++ (l.take 0).flatMap encA)) w3) := by
      have e : Q.numL (l.length : Int) ++ (l.take 0).flatMap encA = Q.numL (l.length : Int) := by simp
      rw [e]
      exact hI3
    have HL3 : Hid (w1.heap.size < w3.heap.size) := Nat.lt_of_lt_of_le hlt2 hb3.size
    clear hI3 hb3 HWr HB2
    go_wp2_with fail
    go_loopw [17] (fun i wr => ∃ k : Nat, k ≤ l.length ∧ i = .int .i64 (k : Int) ∧ Hid (Q.IsB w1.heap.size w1.heap.size (Lib.byteCells (Q.numL (l.length : Int) ++ (l.take k).flatMap encA)) wr) ∧ Hid (Below w1.heap.size w1 wr) ∧ Hid (w1.heap.size < wr.heap.size)) (fun i _ => l.length - (intOf i).toNat)
    case atStart => exact ⟨0, Nat.zero_le _, rfl, HI3, HB3, HL3⟩
    case round =>
      clear HI3 HB3 HL3
      obtain ⟨k, hk, rfl, HI, HB, HL⟩ := hrel
      have hsz := HB.out.size
      have hlen : (Q.numL (l.length : Int) ++ (l.take k).flatMap encA).length ≤ 10000000 := by
        have h1 := encAs_len (l.take k) (fun x hx => (HOk.out x (List.mem_of_mem_take hx)).2.2.2.2)
        rw [List.length_append]
        rw [List.length_take] at h1
        omega
      by_cases hlk : k < l.length
      · have dk : decide ((k : Int) < l.length) = true := by simp; omega
        obtain ⟨b, off, hvv, hlt, hc1, hcc⟩ := a_at (HT1.out _ HB.out).2.2 (by omega)
        subst hvv
        obtain ⟨c0, c1, c2, c3⟩ := hcc k hlk
        have HTt : Hid ((l.take (k + 1)).flatMap encA = (l.take k).flatMap encA ++ encA l[k]) := by
          show _ = _
          rw [List.take_succ_eq_append_getElem hlk, List.flatMap_append]
          simp
        obtain ⟨o1, o2, o3, o4, -⟩ := HOk.out _ (List.getElem_mem hlk)
        generalize l[k]'hlk = m at *
        obtain ⟨mn, mk, mv, ms⟩ := m
        dsimp only at *
        generalize hP : Q.numL (l.length : Int) ++ (l.take k).flatMap encA = PR at *
        have HNx : Hid (Q.numL (l.length : Int) ++ (l.take (k + 1)).flatMap encA = PR ++ Q.itB ⟨4, 0, mn⟩ ++ (V.txtV mk mv ms).data.toList) := by
          show _ = _
          rw [HTt.out, ← List.append_assoc, hP]
          unfold encA
          rw [List.append_assoc]
        have hA := al_b wr (.cells #[.string mn, .int .i64 mk, .int .i64 mv, .string ms] 78)
        have HBa : Hid (Below w1.heap.size w1 (wr.alloc (.cells #[.string mn, .int .i64 mk, .int .i64 mv, .string ms] 78))) := HB.out.alloc hsz _
        have HIa : Hid (Q.IsB w1.heap.size w1.heap.size (Lib.byteCells PR) (wr.alloc (.cells #[.string mn, .int .i64 mk, .int .i64 mv, .string ms] 78))) := Q.IsB_alloc HI.out _
        have HPu := put_1S mn 104 (wr.alloc (.cells #[.string mn, .int .i64 mk, .int .i64 mv, .string ms] 78)) (wr.heap.size + 1) (by simp) o1 (HT1.out _ HBa.out).1
        have HXa : Hid ((wr.alloc (.cells #[.string mn, .int .i64 mk, .int .i64 mv, .string ms] 78)).heap[wr.heap.size]? = some (.cells #[.string mn, .int .i64 mk, .int .i64 mv, .string ms] 78 (0, 0))) := new_at _ _
        clear hcc HTt HI hA hP
        go_wp2_with fail
        refine HPu.mono ?_
        rintro e w4 ⟨rfl, hb4⟩
        have HB4 : Hid (Below w1.heap.size w1 w4) := HBa.out.trans (hb4.mono HBa.out.size)
        have HL4 : Hid (w1.heap.size < w4.heap.size) := by
          show _ < _
          have h1 := hb4.size
          have h2 := HL.out
          simp at h1
          omega
        have HI4 : Hid (Q.IsB w1.heap.size w1.heap.size (Lib.byteCells PR) w4) := Q.IsB_below HIa.out hb4
        have HX4 : Hid (w4.heap[wr.heap.size]? = some (.cells #[.string mn, .int .i64 mk, .int .i64 mv, .string ms] 78 (0, 0))) := (hb4.block _ (by simp)).trans HXa.out
        have HW4 := V.writeString_k w1.heap.size w1.heap.size _ ⟨(Q.itB ⟨4, 0, mn⟩).toArray⟩ w4 HI4.out (by simp [Lib.byteCells, ByteArray.size]; omega) HB4.out.size
        clear hb4 HBa HIa HPu HXa HI4
        go_wp2_with fail
        refine HW4.mono ?_
        rintro e w5 ⟨rfl, hI5, hb5, ok5⟩
        have HB5 : Hid (Below w1.heap.size w1 w5) := HB4.out.trans hb5
        have HL5 : Hid (w1.heap.size < w5.heap.size) := Nat.lt_of_lt_of_le HL4.out hb5.size
        have HX5 : Hid (w5.heap[wr.heap.size]? = some (.cells #[.string mn, .int .i64 mk, .int .i64 mv, .string ms] 78 (0, 0))) := ok5 _ _ HX4.out (fun e => by have := Option.some.inj e; have := HL.out; omega) (fun c fz e => by cases e)
        have HI5 : Hid (Q.IsB w1.heap.size w1.heap.size (Lib.byteCells (PR ++ Q.itB ⟨4, 0, mn⟩)) w5) := by
          rw [Lib.strCells_eq, ← Lib.byteCells_append] at hI5
          exact hI5
        obtain ⟨⟨x0, x1, x2, x3⟩, -⟩ := fourS HX5.out
        have HTx := V.text_any mk mv ms w5 o2 (HT1.out _ HB5.out).2.1 (HT1.out _ HB5.out).1
        clear hb5 ok5 hI5 HW4 HX4 HB4
        go_wp2_with fail
        refine HTx.mono ?_
        rintro e w6 ⟨rfl, hb6⟩
        have HB6 : Hid (Below w1.heap.size w1 w6) := HB5.out.trans (hb6.mono HB5.out.size)
        have HL6 : Hid (w1.heap.size < w6.heap.size) := Nat.lt_of_lt_of_le HL5.out hb6.size
        have HI6 : Hid (Q.IsB w1.heap.size w1.heap.size (Lib.byteCells (PR ++ Q.itB ⟨4, 0, mn⟩)) w6) := Q.IsB_below HI5.out hb6
        have HW6 := Q.writeString_any w1.heap.size w1.heap.size _ (V.txtV mk mv ms) w6 HI6.out (by simp [Lib.byteCells]; omega) HB6.out.size
        clear hb6 HTx HI5 HI6 HB5 HX5 x0 x1 x2 x3
        go_wp2_with fail
        refine HW6.mono ?_
        rintro e w7 ⟨rfl, hI7, hb7⟩
        have HB7 : Hid (Below w1.heap.size w1 w7) := HB6.out.trans hb7
        have HL7 : Hid (w1.heap.size < w7.heap.size) := Nat.lt_of_lt_of_le HL6.out hb7.size
        have HI7 : Hid (Q.IsB w1.heap.size w1.heap.size (Lib.byteCells (Q.numL (l.length : Int) ++ (l.take (k + 1)).flatMap encA)) w7) := by
          rw [Lib.strCells_eq, ← Lib.byteCells_append] at hI7
          rw [HNx.out]
          exact hI7
        clear hI7 hb7 HW6 HB6 HNx
        go_wp2
        go_roundw
        case rel => exact ⟨k + 1, by omega, by simp, HI7, HB7, HL7⟩
        case measure => simp [intOf]; omega
      · have hk' : k = l.length := by omega
        subst hk'
        have dk : decide ((l.length : Int) < l.length) = false := by simp
        rw [List.take_of_length_le (Nat.le_refl _)] at HI hlen
        have HS := Tryz.Builder_String_any_k w1.heap.size w1.heap.size (Q.numL (l.length : Int) ++ l.flatMap encA) wr HI.out (by omega)
        clear HI hlen
        go_wp2_with fail
        refine HS.mono ?_
        rintro e w5 ⟨rfl, -, hb5, -⟩
        have HB5 : Hid (Below w.heap.size w w5) := HB1.out.trans ((HB.out.trans hb5).mono hs1)
        clear hb5 HS
        generalize (⟨(Q.numL (l.length : Int) ++ l.flatMap encA).toArray⟩ : ByteArray) = TX at *
        go_wp2
        go_ret
        exact ⟨by rw [HE.out]; rfl, HB5.out⟩
end Go.Proofs.YtacpllmlpmllbaaGreatDoor
/- slices.Clone at attributes: its walk. -/
namespace Go.Proofs.YtacpllmlpmllbaaGreatDoor
open Go.RowKit Go.ChangeMaps

theorem info_rq : (Tryz.prog.info? 90).map (fun i => (i.zero, i.size, i.bytes)) = some (some (.agg #[.string ⟨#[]⟩, .int .i64 0, .int .i64 0, .string ⟨#[]⟩]), 4, 48) := by kernel_rfl
end Go.Proofs.YtacpllmlpmllbaaGreatDoor
/- law06's awake: its walk. -/
namespace Go.Proofs.YtacpllmlpmllbaaGreatDoor
open Go.RowKit Go.ChangeMaps

theorem row_blk {w : World} {g : Nat} {C : Array Value} {ty : TypeId} {z : Nat × Nat} {sz n cap : Nat} {xs : List Value} (h : w.heap[g]? = some (.cells C ty z)) (hx : xs.length = n * sz) (hn : n ≤ cap) (hc : cap ≤ maxLen) (hC : ∀ (j : Nat) (u : Value), xs[j]? = some u → C[j]? = some u) : IsRow w sz (.slice (some ⟨g, 0, none⟩) n cap) n xs := by
  refine ⟨hx, .inr ⟨g, 0, cap, rfl, (Array.getElem?_eq_some_iff.1 h).1, hn, hc, ?_⟩⟩
  intro j u hj
  rw [Lib.cell_of_heap h, Nat.zero_add]
  exact hC j u hj
set_option maxRecDepth 100000 in
set_option maxHeartbeats 4000000 in
theorem awake6_any (w : World) (hW : W6 w) :
    Calls Tryz.prog 9 #[] w fun e w' => e = .returned (.bool true) ∧ Below w.heap.size w w' := by
  have HPa : Hid (∀ W, Below w.heap.size w W → Calls Tryz.prog 32 #[.string ⟨#[50, 46, 49, 46, 55, 32, 78, 101, 119, 115, 32, 116, 105, 116, 108, 101, 61, 34, 97, 32, 98, 34]⟩] W fun e w' => (∃ a c, e = .returned (.tuple #[.agg (evA 2 1 7 ⟨#[78, 101, 119, 115]⟩ (.slice a 1 c)), .int .i64 0]) ∧ IsRow w' 4 (.slice a 1 c) 1 (aCells [exA])) ∧ Below W.heap.size W w') := fun W h => parse_ex W (hW.below h)
  have HCh : Hid (∀ a c W, Below w.heap.size w W → IsRow W 4 (.slice a 1 c) 1 (aCells [exA]) → Calls Tryz.prog 11 #[.agg (evA 2 1 7 ⟨#[78, 101, 119, 115]⟩ (.slice a 1 c))] W fun e w' => e = .returned (.bool true) ∧ Below W.heap.size W w') := fun a c W h hr => chk_ex _ W hr (hW.below h)
  have HSh : Hid (∀ a c W, Below w.heap.size w W → IsRow W 4 (.slice a 1 c) 1 (aCells [exA]) → Calls Tryz.prog 17 #[.agg (evA 2 1 7 ⟨#[78, 101, 119, 115]⟩ (.slice a 1 c))] W fun e w' => e = .returned (.string ⟨#[50, 46, 49, 46, 55, 32, 78, 101, 119, 115, 32, 116, 105, 116, 108, 101, 61, 34, 97, 32, 98, 34]⟩) ∧ Below W.heap.size W w') := fun a c W h hr => shw_ex _ W hr (hW.below h)
  have HSm : Hid (∀ a c a' c' W, IsRow W 4 (.slice a 1 c) 1 (aCells [exA]) → IsRow W 4 (.slice a' 1 c') 1 (aCells [exA]) → Calls Tryz.prog 13 #[.agg (evA 2 1 7 ⟨#[78, 101, 119, 115]⟩ (.slice a 1 c)), .agg (evA 2 1 7 ⟨#[78, 101, 119, 115]⟩ (.slice a' 1 c'))] W fun e w' => e = .returned (.bool true) ∧ Below W.heap.size W w') := fun a c a' c' W h1 h2 => evSame_one 2 1 7 ⟨#[78, 101, 119, 115]⟩ _ _ exA W h1 h2
  clear hW
  obtain ⟨w1, hw1⟩ : ∃ w1, w1 = w.alloc (.cells #[.string ⟨#[116, 105, 116, 108, 101]⟩, .int .i64 2, .int .i64 0, .string ⟨#[97, 32, 98]⟩] 78) := ⟨_, rfl⟩
  have B1 : Hid (Below w.heap.size w w1) := by show Below _ _ _; rw [hw1]; exact al_b _ _
  have hn1 : w1.heap[w.heap.size]? = some (.cells #[.string ⟨#[116, 105, 116, 108, 101]⟩, .int .i64 2, .int .i64 0, .string ⟨#[97, 32, 98]⟩] 78 (0, 0)) := by rw [hw1]; exact new_at _ _
  have C1 : Hid (∀ W, Below w1.heap.size w1 W → W.heap[w.heap.size]? = some (.cells #[.string ⟨#[116, 105, 116, 108, 101]⟩, .int .i64 2, .int .i64 0, .string ⟨#[97, 32, 98]⟩] 78 (0, 0))) := fun W h => (h.block _ (Array.getElem?_eq_some_iff.1 hn1).1).trans hn1
  clear hn1
  obtain ⟨w2, hw2⟩ : ∃ w2, w2 = w1.alloc (.cells (evA 2 1 7 ⟨#[78, 101, 119, 115]⟩ (.slice (some ⟨w.heap.size, 0, none⟩) 1 1)) 26) := ⟨_, rfl⟩
  have B2 : Hid (Below w1.heap.size w1 w2) := by show Below _ _ _; rw [hw2]; exact al_b _ _
  have hn2 : w2.heap[(w.heap.size + 1)]? = some (.cells (evA 2 1 7 ⟨#[78, 101, 119, 115]⟩ (.slice (some ⟨w.heap.size, 0, none⟩) 1 1)) 26 (0, 0)) := by rw [hw2]; rw [show w.heap.size + 1 = w1.heap.size by (rw [hw1]; simp)]; exact new_at _ _
  have C2 : Hid (∀ W, Below w2.heap.size w2 W → W.heap[(w.heap.size + 1)]? = some (.cells (evA 2 1 7 ⟨#[78, 101, 119, 115]⟩ (.slice (some ⟨w.heap.size, 0, none⟩) 1 1)) 26 (0, 0))) := fun W h => (h.block _ (Array.getElem?_eq_some_iff.1 hn2).1).trans hn2
  clear hn2
  have HR1 : Hid (∀ W, Below w1.heap.size w1 W → IsRow W 4 (.slice (some ⟨w.heap.size, 0, none⟩) 1 1) 1 (aCells [exA])) := fun W h => row_blk (C1.out W h) rfl (Nat.le_refl _) (by decide) (fun j u hj => by rw [List.getElem?_toArray]; exact hj)
  go_enter Tryz.func9, Tryz.ntmps9
  go_wp2_with fail
  rw [← hw1, ← hw2]
  clear hw1 hw2
  refine (HPa.out _ (bT B1.out B2.out)).mono ?_
  rintro e w3 ⟨⟨a, c, rfl, hr⟩, hb⟩
  have B3 : Hid (Below w2.heap.size w2 w3) := hb
  clear hb 
  have HR : Hid (∀ W, Below w3.heap.size w3 W → IsRow W 4 (.slice a 1 c) 1 (aCells [exA])) := fun W h => hr.below h
  clear hr
  obtain ⟨w4, hw4⟩ : ∃ w4, w4 = w3.alloc (.cells (evA 2 1 7 ⟨#[78, 101, 119, 115]⟩ (.slice a 1 c)) 26) := ⟨_, rfl⟩
  have B4 : Hid (Below w3.heap.size w3 w4) := by show Below _ _ _; rw [hw4]; exact al_b _ _
  have hn4 : w4.heap[w3.heap.size]? = some (.cells (evA 2 1 7 ⟨#[78, 101, 119, 115]⟩ (.slice a 1 c)) 26 (0, 0)) := by rw [hw4]; exact new_at _ _
  have C4 : Hid (∀ W, Below w4.heap.size w4 W → W.heap[w3.heap.size]? = some (.cells (evA 2 1 7 ⟨#[78, 101, 119, 115]⟩ (.slice a 1 c)) 26 (0, 0))) := fun W h => (h.block _ (Array.getElem?_eq_some_iff.1 hn4).1).trans hn4
  clear hn4
  have hk := C2.out w4 (bT B3.out B4.out)
  have c2_0 : w4.cell? ⟨(w.heap.size + 1), 0, none⟩ = some (.int .i64 2) := by rw [Lib.cell_of_heap hk]; rfl
  have c2_1 : w4.cell? ⟨(w.heap.size + 1), 1, none⟩ = some (.int .i64 1) := by rw [Lib.cell_of_heap hk]; rfl
  have c2_2 : w4.cell? ⟨(w.heap.size + 1), 2, none⟩ = some (.int .i64 7) := by rw [Lib.cell_of_heap hk]; rfl
  have c2_3 : w4.cell? ⟨(w.heap.size + 1), 3, none⟩ = some (.string ⟨#[78, 101, 119, 115]⟩) := by rw [Lib.cell_of_heap hk]; rfl
  have c2_4 : w4.cell? ⟨(w.heap.size + 1), 4, none⟩ = some (.slice (some ⟨w.heap.size, 0, none⟩) 1 1) := by rw [Lib.cell_of_heap hk]; rfl
  clear hk
  rw [hw4] at c2_0 c2_1 c2_2 c2_3 c2_4
  go_wp2_with fail
  rw [← hw4]
  clear hw4
  clear c2_0 c2_1 c2_2 c2_3 c2_4
  refine (HSh.out _ _ _ (bT (bT (bT B1.out B2.out) B3.out) B4.out) (HR1.out _ (bT (bT B2.out B3.out) B4.out))).mono ?_
  rintro e w5 ⟨rfl, hb⟩
  have B5 : Hid (Below w4.heap.size w4 w5) := hb
  clear hb 
  have hk := C2.out w5 (bT (bT B3.out B4.out) B5.out)
  have c2_0 : w5.cell? ⟨(w.heap.size + 1), 0, none⟩ = some (.int .i64 2) := by rw [Lib.cell_of_heap hk]; rfl
  have c2_1 : w5.cell? ⟨(w.heap.size + 1), 1, none⟩ = some (.int .i64 1) := by rw [Lib.cell_of_heap hk]; rfl
  have c2_2 : w5.cell? ⟨(w.heap.size + 1), 2, none⟩ = some (.int .i64 7) := by rw [Lib.cell_of_heap hk]; rfl
  have c2_3 : w5.cell? ⟨(w.heap.size + 1), 3, none⟩ = some (.string ⟨#[78, 101, 119, 115]⟩) := by rw [Lib.cell_of_heap hk]; rfl
  have c2_4 : w5.cell? ⟨(w.heap.size + 1), 4, none⟩ = some (.slice (some ⟨w.heap.size, 0, none⟩) 1 1) := by rw [Lib.cell_of_heap hk]; rfl
  clear hk
  have hk := C4.out w5 B5.out
  have c4_0 : w5.cell? ⟨w3.heap.size, 0, none⟩ = some (.int .i64 2) := by rw [Lib.cell_of_heap hk]; rfl
  have c4_1 : w5.cell? ⟨w3.heap.size, 1, none⟩ = some (.int .i64 1) := by rw [Lib.cell_of_heap hk]; rfl
  have c4_2 : w5.cell? ⟨w3.heap.size, 2, none⟩ = some (.int .i64 7) := by rw [Lib.cell_of_heap hk]; rfl
  have c4_3 : w5.cell? ⟨w3.heap.size, 3, none⟩ = some (.string ⟨#[78, 101, 119, 115]⟩) := by rw [Lib.cell_of_heap hk]; rfl
  have c4_4 : w5.cell? ⟨w3.heap.size, 4, none⟩ = some (.slice a 1 c) := by rw [Lib.cell_of_heap hk]; rfl
  clear hk
  go_wp2_with fail
  clear c2_0 c2_1 c2_2 c2_3 c2_4 c4_0 c4_1 c4_2 c4_3 c4_4
  refine (HSm.out _ _ _ _ _ (HR1.out _ (bT (bT (bT B2.out B3.out) B4.out) B5.out)) (HR.out _ (bT B4.out B5.out))).mono ?_
  rintro e w6 ⟨rfl, hb⟩
  have B6 : Hid (Below w5.heap.size w5 w6) := hb
  clear hb 
  have hk := C2.out w6 (bT (bT (bT B3.out B4.out) B5.out) B6.out)
  have c2_0 : w6.cell? ⟨(w.heap.size + 1), 0, none⟩ = some (.int .i64 2) := by rw [Lib.cell_of_heap hk]; rfl
  have c2_1 : w6.cell? ⟨(w.heap.size + 1), 1, none⟩ = some (.int .i64 1) := by rw [Lib.cell_of_heap hk]; rfl
  have c2_2 : w6.cell? ⟨(w.heap.size + 1), 2, none⟩ = some (.int .i64 7) := by rw [Lib.cell_of_heap hk]; rfl
  have c2_3 : w6.cell? ⟨(w.heap.size + 1), 3, none⟩ = some (.string ⟨#[78, 101, 119, 115]⟩) := by rw [Lib.cell_of_heap hk]; rfl
  have c2_4 : w6.cell? ⟨(w.heap.size + 1), 4, none⟩ = some (.slice (some ⟨w.heap.size, 0, none⟩) 1 1) := by rw [Lib.cell_of_heap hk]; rfl
  clear hk
  go_wp2_with fail
  clear c2_0 c2_1 c2_2 c2_3 c2_4
  refine (HCh.out _ _ _ (bT (bT (bT (bT (bT B1.out B2.out) B3.out) B4.out) B5.out) B6.out) (HR1.out _ (bT (bT (bT (bT B2.out B3.out) B4.out) B5.out) B6.out))).mono ?_
  rintro e w7 ⟨rfl, hb⟩
  have B7 : Hid (Below w6.heap.size w6 w7) := hb
  clear hb 
  have HBz : Hid (Below w.heap.size w w7) := (bT (bT (bT (bT (bT (bT B1.out B2.out) B3.out) B4.out) B5.out) B6.out) B7.out)
  go_wp2
  go_ret
  exact ⟨rfl, HBz.out⟩
end Go.Proofs.YtacpllmlpmllbaaGreatDoor
/- The reference's Keep: its walk. -/
namespace Go.Proofs.YtacpllmlpmllbaaGreatDoor
open Go.RowKit Go.ChangeMaps

end Go.Proofs.YtacpllmlpmllbaaGreatDoor
/- law04.Attrs where its row lies, law06.Ref, the reference's SameAttrs and Same at what is the same: walks. -/
namespace Go.Proofs.YtacpllmlpmllbaaGreatDoor
open Go.RowKit Go.ChangeMaps

theorem a_takeO (l : List At) (k : Nat) (hk : k < l.length) : aCells (l.take (k + 1)) = aCells (l.take k) ++ enA l[k] := by
  rw [List.take_succ_eq_append_getElem hk, aCells_snoc]
set_option maxRecDepth 100000 in
set_option maxHeartbeats 4000000 in
theorem attrsO_any (v : Value) (l : List At) (w : World) (hr : IsRow w 4 v l.length (aCells l)) (hl : l.length ≤ 1000000) :
    Calls Tryz.prog 27 #[v] w fun e w' => ∃ a c, e = .returned (.slice a l.length c) ∧ w'.ownsRow w.heap.size 90 4 (.slice a l.length c) l.length (aCells l) ∧ Below w.heap.size w w' := by
  obtain ⟨a0, cap0, rfl⟩ := hr.form
  have HR : Hid (IsRow w 4 (.slice a0 l.length cap0) l.length (aCells l)) := hr
  clear hr
  obtain ⟨i0, hi0, hz0, hz1, hz2⟩ := info_parts info_rq
  go_enter Tryz.func27, Tryz.ntmps27
  go_wp2_with fail
  go_loopw [3, 4] (fun r i wr => ∃ k : Nat, k ≤ l.length ∧ i = .int .i64 (k : Int) ∧ Hid (wr.ownsRow w.heap.size 90 4 r k (aCells (l.take k))) ∧ Below w.heap.size w wr) (fun _ i _ => l.length - (intOf i).toNat)
  case atStart => exact ⟨0, Nat.zero_le _, rfl, World.ownsRow_nil _ _ _ _, Below.refl _ _⟩
  case round =>
    obtain ⟨k, hk, rfl, HO, hB⟩ := hrel
    have hsz := hB.size
    by_cases hlk : k < l.length
    · have dk : decide ((k : Int) < l.length) = true := by simp; omega
      obtain ⟨b, off, rfl, hlt, hcap, hc⟩ := a_at HR.out (by omega)
      obtain ⟨k0, k1, k2, k3⟩ := hc k hlk
      have ck0 := (hB.cell (p := ⟨b, off + k * 4, none⟩) hlt).trans k0
      have ck1 := (hB.cell (p := ⟨b, off + k * 4 + 1, none⟩) hlt).trans k1
      have ck2 := (hB.cell (p := ⟨b, off + k * 4 + 2, none⟩) hlt).trans k2
      have ck3 := (hB.cell (p := ⟨b, off + k * 4 + 3, none⟩) hlt).trans k3
      have HTh : Hid (aCells (l.take (k + 1)) = aCells (l.take k) ++ enA l[k]) := a_takeO l k hlk
      have hne : some b ≠ u3.ownBlock := fun e => by have := (HO.out.lt b e.symm).1; omega
      have hbw : b < wr.heap.size := by omega
      have HBr : Hid (Below w.heap.size w wr) := hB
      generalize l[k]'hlk = x at *
      obtain ⟨an, ak, av, as'⟩ := x
      dsimp only at *
      have q1 : (0 : Int) ≤ (k : Int) := by omega
      have q2 : (k : Int) < (l.length : Int) := by omega
      clear hc k0 k1 k2 k3 hB
      go_wp2_with fail
      go_region_held3 (fun w' => w'.cell? ⟨b, off + k * 4, none⟩ = some (.string an) ∧ w'.cell? ⟨b, off + k * 4 + 1, none⟩ = some (.int .i64 ak) ∧ w'.cell? ⟨b, off + k * 4 + 2, none⟩ = some (.int .i64 av) ∧ w'.cell? ⟨b, off + k * 4 + 3, none⟩ = some (.string as'))
        (first
          | go_keep
          | (go_split_ands
             refine ⟨?_, ?_, ?_, ?_⟩
             all_goals (rw [hgrow.cell_far _ (by simp; omega) hne]; assumption)))
        ((refine step_append_lies _ (by rfl) _ _ _ (by rfl) w.heap.size 90 i0 _ 4 48 Tryz.underlying30 hi0 hz0 hz1 hz2 rfl (by omega) u3 k (aCells (l.take k)) (by rfl) ((HO.out.alloc _).drew)
            ⟨wr.heap.size, 0, none⟩ 1 1 [.string an, .int .i64 ak, .int .i64 av, .string as'] (by rfl) (by rfl) (World.news_of_block (cs := #[.string an, .int .i64 ak, .int .i64 av, .string as']) (t := 90) (fr := (0, 0)) (heap_alloc_new wr _)) (by simp [Value.oneCell'])
            (by omega) (by unfold maxLen; omega) (by omega) (by simp; omega) (wr.heap.size + 1) (by simp) ?_; intro gg cap w1 hown1 hgrow hat hlt1))
      have HO2 : Hid (w1.ownsRow w.heap.size 90 4 (.slice (some ⟨gg, 0, none⟩) (k + 1) cap) (k + 1) (aCells (l.take (k + 1)))) := by
        show World.ownsRow _ _ _ _ _ _ _
        rw [HTh.out]; exact hown1
      have HB2 : Hid (Below w.heap.size w w1) := (HBr.out.trans ((al_b wr _).drew.mono hsz)).grown hgrow (by simp; omega) (fun k hk => (HO.out.lt k hk).1)
      clear hown1 hgrow hat hlt1 HTh HO
      go_wp2
      go_roundw
      case rel => exact ⟨k + 1, by omega, by simp, HO2, HB2.out⟩
      case measure => simp [intOf]; omega
    · have hk' : k = l.length := by omega
      subst hk'
      have dk : decide ((l.length : Int) < l.length) = false := by simp
      have hown := HO.out
      rw [List.take_of_length_le (Nat.le_refl _)] at hown
      obtain ⟨ra, rc, rfl⟩ := (IsRow.own hown).form
      have HX : Hid (wr.ownsRow w.heap.size 90 4 (.slice ra l.length rc) l.length (aCells l) ∧ Below w.heap.size w wr) := ⟨hown, hB⟩
      clear hown hB
      go_wp2
      go_ret
      exact ⟨_, _, rfl, HX.out.1, HX.out.2⟩
/-- The same, and where its row lies. -/
def ReN (a b c : Int) (k : ByteArray) (l : List At) (w : World) (e : Ending) (w' : World) : Prop := ∃ x y, e = .returned (.agg (evA a b c k (.slice x l.length y))) ∧ IsRow w' 4 (.slice x l.length y) l.length (aCells l) ∧ NewA w.heap.size x ∧ Below w.heap.size w w'
/-- Behind its store. -/
def CtE (a b c : Int) (k : ByteArray) (l : List At) (w : World) (wx : World) : Prop := ∃ x y, Hid (IsRow wx 4 (.slice x l.length y) l.length (aCells l) ∧ NewA w.heap.size x) ∧ Hid (Below w.heap.size w wx) ∧ Hid (BxV (w.heap.size + 1) a b c k (.slice x l.length y) wx)
set_option maxRecDepth 100000 in
set_option maxHeartbeats 4000000 in
theorem refEN_any (a b c : Int) (k : ByteArray) (u : Value) (l : List At) (w : World) (hq : IsRow w 4 u l.length (aCells l)) (hl : l.length ≤ 1000000) :
    Calls Tryz.prog 10 #[.agg (evA a b c k u)] w fun e w' => ReN a b c k l w e w' := by
  obtain ⟨au, cu, rfl⟩ := hq.form
  obtain ⟨W0, hW0⟩ : ∃ W0, W0 = (w.alloc (.cells (evA a b c k (.slice au l.length cu)) 26)).alloc (.cells (evA 0 0 0 ⟨#[]⟩ (.slice none 0 0)) 32) := ⟨_, rfl⟩
  have hA : Below w.heap.size w W0 := by rw [hW0]; exact (al_b w _).trans ((al_b _ _).mono (by simp))
  have hz : W0.heap.size = w.heap.size + 2 := by rw [hW0]; simp
  have hn0 : W0.heap[w.heap.size]? = some (.cells (evA a b c k (.slice au l.length cu)) 26 (0, 0)) := by
    rw [hW0]
    show ((w.heap.push _).push _)[w.heap.size]? = _
    rw [Array.getElem?_push, if_neg (by simp), Array.getElem?_push, if_pos rfl]
  have hn1 : W0.heap[w.heap.size + 1]? = some (.cells (evA 0 0 0 ⟨#[]⟩ (.slice none 0 0)) 32 (0, 0)) := by
    rw [hW0]
    show ((w.heap.push _).push _)[w.heap.size + 1]? = _
    rw [Array.getElem?_push, if_pos (by simp)]
  have HX : Hid (∀ W, Below W0.heap.size W0 W → BxV w.heap.size a b c k (.slice au l.length cu) W) := fun W h => BxV.of ((h.block _ (by omega)).trans hn0)
  have HZ : Hid (∀ W, Below W0.heap.size W0 W → BxV (w.heap.size + 1) 0 0 0 ⟨#[]⟩ (.slice none 0 0) W) := fun W h => BxV.of ((h.block _ (by omega)).trans hn1)
  have HF1 : Hid (∀ W, Below W0.heap.size W0 W → ∀ j, W.frozen? ⟨w.heap.size + 1, j, none⟩ = false) := fun W h j => Lib.frozen_of_heap ((h.block _ (by omega)).trans hn1) j
  have HBw : Hid (∀ W, Below W0.heap.size W0 W → Below w.heap.size w W) := fun W h => hA.trans (h.mono hA.size)
  have HRa : Hid (∀ W, Below W0.heap.size W0 W → Calls Tryz.prog 27 #[.slice au l.length cu] W fun e w' => ∃ x y, e = .returned (.slice x l.length y) ∧ Hid (w'.ownsRow W0.heap.size 90 4 (.slice x l.length y) l.length (aCells l)) ∧ Below W0.heap.size W0 w' ∧ Below W.heap.size W w') := fun W h => by
    refine (attrsO_any _ l W (hq.below (HBw.out W h)) hl).mono ?_
    rintro e w' ⟨x, y, rfl, ho, hb⟩
    refine ⟨x, y, rfl, ?_, h.trans (hb.mono h.size), hb⟩
    show World.ownsRow _ _ _ _ _ _ _
    obtain ⟨h1, h2⟩ := ho
    refine ⟨h1, ?_⟩
    rcases h2 with ⟨hv, hn⟩ | ⟨g, cap, cur, hv, hb1, hrest⟩
    · exact .inl ⟨hv, hn⟩
    · exact .inr ⟨g, cap, cur, hv, Nat.le_trans h.size hb1, hrest⟩
  have HFin : Hid (∀ (wA : World) (x1 : Option Addr) (y1 : Nat), Hid (wA.ownsRow W0.heap.size 90 4 (.slice x1 l.length y1) l.length (aCells l)) → Below W0.drew.heap.size W0.drew wA → Below W0.heap.size W0 wA → CtE a b c k l w (((((wA.setCell ⟨w.heap.size + 1, 0, none⟩ (.int .i64 a)).setCell ⟨w.heap.size + 1, 1, none⟩ (.int .i64 b)).setCell ⟨w.heap.size + 1, 2, none⟩ (.int .i64 c)).setCell ⟨w.heap.size + 1, 3, none⟩ (.string k)).setCell ⟨w.heap.size + 1, 4, none⟩ (.slice x1 l.length y1))) := fun wA x1 y1 o1 _ hB => by
    have n1 : NewA (w.heap.size + 2) x1 := (NewA.own o1.out).le (by omega)
    have r1 := IsRow.own o1.out
    have hg : w.heap.size + 1 < w.heap.size + 2 := by omega
    have hk := (hB.block (w.heap.size + 1) (by omega)).trans hn1
    exact ⟨x1, y1, ⟨(row_far (row_far (row_far (row_far (row_far r1 n1 hg 0 _) n1 hg 1 _) n1 hg 2 _) n1 hg 3 _) n1 hg 4 _), n1.le (by omega)⟩, ((((((HBw.out _ hB).setCell (p := ⟨w.heap.size + 1, 0, none⟩) (Nat.le_add_right _ 1) (.int .i64 a)).setCell (p := ⟨w.heap.size + 1, 1, none⟩) (Nat.le_add_right _ 1) (.int .i64 b)).setCell (p := ⟨w.heap.size + 1, 2, none⟩) (Nat.le_add_right _ 1) (.int .i64 c)).setCell (p := ⟨w.heap.size + 1, 3, none⟩) (Nat.le_add_right _ 1) (.string k)).setCell (p := ⟨w.heap.size + 1, 4, none⟩) (Nat.le_add_right _ 1) (.slice x1 l.length y1)), BxV.of (heap_set (heap_set (heap_set (heap_set (heap_set hk 0 _) 1 _) 2 _) 3 _) 4 _)⟩
  have HK5 : Hid (∀ WE : World, BxV w.heap.size a b c k (.slice au l.length cu) WE → ∀ u0 u1 u2 u3 u4, BxV w.heap.size a b c k (.slice au l.length cu) (((((WE.setCell ⟨w.heap.size + 1, 0, none⟩ u0).setCell ⟨w.heap.size + 1, 1, none⟩ u1).setCell ⟨w.heap.size + 1, 2, none⟩ u2).setCell ⟨w.heap.size + 1, 3, none⟩ u3).setCell ⟨w.heap.size + 1, 4, none⟩ u4)) := fun WE h u0 u1 u2 u3 u4 => by
    have q : ∀ (W : World) (j k : Nat) (v : Value), (W.setCell ⟨w.heap.size + 1, j, none⟩ v).cell? ⟨w.heap.size, k, none⟩ = W.cell? ⟨w.heap.size, k, none⟩ := fun W j k v => World.cell?_setCell_other _ _ _ _ (by simp only [ne_eq, Addr.mk.injEq, not_and]; intro h; omega)
    unfold BxV at h ⊢
    simp only [q]
    exact h
  have HR1 : Hid (Below W0.heap.size W0 W0.drew) := (Below.refl _ _).drew
  clear hn0 hn1 hA hq hl
  go_enter Tryz.func10, Tryz.ntmps10
  go_wp2_with fail
  rw [← hW0]
  clear hW0
  go_cut [] (fun wx => CtE a b c k l w wx)
  case first =>
    refine wp_region_held_drew (S := fun w' => BxV w.heap.size a b c k (.slice au l.length cu) w') (by kernel_rfl) (HX.out _ HR1.out) (fun hHeld => ?_)
    generalize W0.drew = wd at *
    refine wpAnyH_take (i := 0) (v := ?_) rfl (by kernel_rfl) (by kernel_rfl) (by kernel_rfl) (fun _ _ _ h => h) (Or.inl ⟨by rfl, ?_⟩) hHeld ?_
    rotate_left 1
    · intro w9 hSw; obtain ⟨⟨g0, g1, g2⟩, g3, g4⟩ := hSw; go_simp; try with_reducible rfl
    change wpAnyH _ _ _ _ _ _ _ (Act.put _ (some 3) _) _
    simp only [Act.put, List.setIfInBounds_toArray, List.set_cons_zero, List.set_cons_succ]
    refine wpAnyH_take (i := 1) (v := ?_) rfl (by kernel_rfl) (by kernel_rfl) (by kernel_rfl) (fun _ _ _ h => h) (Or.inl ⟨by rfl, ?_⟩) hHeld ?_
    rotate_left 1
    · intro w9 hSw; obtain ⟨⟨g0, g1, g2⟩, g3, g4⟩ := hSw; go_simp; try with_reducible rfl
    change wpAnyH _ _ _ _ _ _ _ (Act.put _ (some 4) _) _
    simp only [Act.put, List.setIfInBounds_toArray, List.set_cons_zero, List.set_cons_succ]
    refine wpAnyH_take (i := 2) (v := ?_) rfl (by kernel_rfl) (by kernel_rfl) (by kernel_rfl) (fun _ _ _ h => h) (Or.inl ⟨by rfl, ?_⟩) hHeld ?_
    rotate_left 1
    · intro w9 hSw; obtain ⟨⟨g0, g1, g2⟩, g3, g4⟩ := hSw; go_simp; try with_reducible rfl
    change wpAnyH _ _ _ _ _ _ _ (Act.put _ (some 5) _) _
    simp only [Act.put, List.setIfInBounds_toArray, List.set_cons_zero, List.set_cons_succ]
    refine wpAnyH_take (i := 3) (v := ?_) rfl (by kernel_rfl) (by kernel_rfl) (by kernel_rfl) (fun _ _ _ h => h) (Or.inl ⟨by rfl, ?_⟩) hHeld ?_
    rotate_left 1
    · intro w9 hSw; obtain ⟨⟨g0, g1, g2⟩, g3, g4⟩ := hSw; go_simp; try with_reducible rfl
    change wpAnyH _ _ _ _ _ _ _ (Act.put _ (some 6) _) _
    simp only [Act.put, List.setIfInBounds_toArray, List.set_cons_zero, List.set_cons_succ]
    refine wpAnyH_take (i := 4) (v := ?_) rfl (by kernel_rfl) (by kernel_rfl) (by kernel_rfl) (fun _ _ _ h => h) (Or.inl ⟨by rfl, ?_⟩) hHeld ?_
    rotate_left 1
    · intro w9 hSw; obtain ⟨⟨g0, g1, g2⟩, g3, g4⟩ := hSw; go_simp; try with_reducible rfl
    change wpAnyH _ _ _ _ _ _ _ (Act.put _ (some 7) _) _
    simp only [Act.put, List.setIfInBounds_toArray, List.set_cons_zero, List.set_cons_succ]
    refine wpAnyH_take (i := 5) (v := ?_) rfl (by kernel_rfl) (by kernel_rfl) (by kernel_rfl) (fun _ _ _ h => h) (Or.inl ⟨by rfl, ?_⟩) hHeld ?_
    rotate_left 1
    · intro w9 hSw; obtain ⟨⟨g0, g1, g2⟩, g3, g4⟩ := hSw; go_simp; try with_reducible rfl
    change wpAnyH _ _ _ _ _ _ _ (Act.put _ (some 8) _) _
    simp only [Act.put, List.setIfInBounds_toArray, List.set_cons_zero, List.set_cons_succ]
    refine wpAnyH_ready (rs := [6]) (by kernel_rfl) (by simp) ?_
    refine AllReadyH.cons rfl (fun K hK => ?_) AllReadyH.nil
    go_simp
    refine (HRa.out _ HR1.out).mono ?_
    rintro e w4 ⟨x1, y1, rfl, HO1, hb4, hc4⟩
    go_simp
    refine hK.out _ _ (HX.out _ hb4) (fun hHeld => ?_)
    clear hK K
    refine wpAnyH_take (i := 7) (v := ?_) rfl (by kernel_rfl) (by kernel_rfl) (by kernel_rfl) (fun _ _ _ h => h) (Or.inl ⟨by rfl, ?_⟩) hHeld ?_
    rotate_left 1
    · intro w9 hSw; obtain ⟨⟨g0, g1, g2⟩, g3, g4⟩ := hSw; go_simp; try with_reducible rfl
    change wpAnyH _ _ _ _ _ _ _ (Act.put _ (some 10) _) _
    simp only [Act.put, List.setIfInBounds_toArray, List.set_cons_zero, List.set_cons_succ]
    obtain ⟨⟨m0, m1, m2⟩, m3, m4⟩ := HZ.out _ hb4
    have mf := HF1.out _ hb4
    have HCt : Hid _ := HFin.out w4 x1 y1 HO1 hc4 hb4
    have HC8 := HX.out _ hb4
    refine wpAnyH_ready (rs := [8]) (by kernel_rfl) (by simp) ?_
    refine AllReadyH.cons rfl (fun K hK => ?_) AllReadyH.nil
    go_simp
    refine hK.out _ _ (HK5.out w4 HC8 _ _ _ _ _) (fun hHeld => ?_)
    clear hK K
    refine wpAnyH_done (by kernel_rfl) ?_ _
    try go_wp2_with fail
    go_meet
    exact HCt.out
  case rest =>
    obtain ⟨x1, y1, HRw, HBx, HBv⟩ := hcut
    obtain ⟨⟨z0, z1, z2⟩, z3, z4⟩ := HBv.out
    have HEnd : Hid (ReN a b c k l w (.returned (.agg (evA a b c k (.slice x1 l.length y1)))) wc) := ⟨x1, y1, rfl, HRw.out.1, HRw.out.2, HBx.out⟩
    clear HX HZ HF1 HBw HRa HFin HK5 HR1
    go_wp2_with fail
    try simp only [Exit.inBlock, Exit.then]
    refine bodyPost_ret (v := .agg (evA a b c k (.slice x1 l.length y1))) ?_ rfl HEnd.out
    rw [results_c1 rfl]; go_simp
end Go.Proofs.YtacpllmlpmllbaaGreatDoor
/- The reference's SameAttrs and Same at what is the same: walks. -/
namespace Go.Proofs.YtacpllmlpmllbaaGreatDoor
open Go.RowKit Go.ChangeMaps

end Go.Proofs.YtacpllmlpmllbaaGreatDoor
