/- schema.AttrText: its walk. -/
import Derived.Test.YtfbhalkiilbcoaaGreatDoorSW
namespace Go.Proofs.YtfbhalkiilbcoaaGreatDoor
open Go.RowKit

theorem chkA_len {l : List At} (h : chkA l = true) : l.length ≤ 24 := by
  unfold chkA at h
  simp only [Bool.and_eq_true, decide_eq_true_eq] at h
  exact h.1
theorem chkA_ok {l : List At} (h : chkA l = true) : ∀ x ∈ l, oneP x.n = true ∧ chkV x.k x.v x.s = true := by
  unfold chkA at h
  simp only [Bool.and_eq_true, decide_eq_true_eq] at h
  intro x hx
  obtain ⟨i, hi, rfl⟩ := List.mem_iff_getElem.1 hx
  have := (h.2 i hi).1
  unfold mayA at this
  simpa using this
theorem encA_len {x : At} (hn : x.n.size ≤ 65536) (hc : chkV x.k x.v x.s = true) : (encA x).length ≤ 200000 := by
  have h1 := Q.itB_len ⟨4, 0, x.n⟩ (may4S hn)
  have h2 := V.txt_size hc
  unfold encA
  rw [List.length_append]
  have h3 : (V.txtV x.k x.v x.s).data.toList.length = (V.txtV x.k x.v x.s).size := by simp
  omega
theorem encAs_len : ∀ l : List At, (∀ x ∈ l, (encA x).length ≤ 200000) → (l.flatMap encA).length ≤ l.length * 200000
  | [], _ => by simp
  | x :: l, h => by
    have h1 := h x (by simp)
    have h2 := encAs_len l (fun y hy => h y (by simp [hy]))
    rw [List.flatMap_cons, List.length_append, List.length_cons]
    omega
theorem row_1S (W : World) (k n : Int) (s : ByteArray) (t : TypeId) : IsRow (W.alloc (.cells #[.int .i64 k, .int .i64 n, .string s] t)) 3 (.slice (some ⟨W.heap.size, 0, none⟩) 1 1) [(⟨k, n, s⟩ : It)].length (itCells [(⟨k, n, s⟩ : It)]) := by
  refine ⟨rfl, .inr ⟨W.heap.size, 0, 1, rfl, by simp, Nat.le_refl _, by decide, fun j u hu => ?_⟩⟩
  have e : (itCells [(⟨k, n, s⟩ : It)]) = [Value.int .i64 k, .int .i64 n, .string s] := rfl
  rw [e] at hu
  simpa using hu
theorem put_1S (s : ByteArray) (t : TypeId) (W : World) (N : Nat) (hN : N = W.heap.size) (hs : s.size ≤ 65536) (hT : Q.Tab W) :
    Calls Tryz.prog 32 #[.slice (some ⟨N, 0, none⟩) 1 1] (W.alloc (.cells #[.int .i64 4, .int .i64 0, .string s] t)) fun e w' => e = .returned (.tuple #[.string ⟨(Q.itB ⟨4, 0, s⟩).toArray⟩, .int .i64 0]) ∧ Below W.heap.size W w' := by
  subst hN
  refine (Q.put_ok _ _ _ (row_1S W 4 0 s t) (Q.Tab_alloc hT _) (by simp) ?_ ?_).mono ?_
  · intro x hx
    simp only [List.mem_cons, List.not_mem_nil, or_false] at hx
    subst hx
    show s.size ≤ _
    omega
  · simp [may4S hs]
  · rintro e w' ⟨he, hb⟩
    exact ⟨by rw [he]; simp, ((Below.refl _ _).alloc (Nat.le_refl _) _).trans (hb.mono (by simp))⟩
set_option maxRecDepth 100000 in
set_option maxHeartbeats 2000000 in
theorem textA_any (v : Value) (l : List At) (w : World) (hr : IsRow w 4 v l.length (aCells l)) (hl : l.length ≤ 1000000) (hn : ∀ x ∈ l, x.n.size ≤ 65536 ∧ x.s.size ≤ 140737488355328) (hW : W4 w) (hQ : Q.Tab w) :
    Calls Tryz.prog 16 #[v] w fun e w' => e = .returned (.string (textA l)) ∧ Below w.heap.size w w' := by
  obtain ⟨a0, cap0, rfl⟩ := hr.form
  have HR : Hid (∀ w', Below w.heap.size w w' → IsRow w' 4 (.slice a0 l.length cap0) l.length (aCells l)) := fun w' h => hr.below h
  have HT : Hid (∀ w', Below w.heap.size w w' → Q.Tab w') := fun w' h => hQ.below h hQ.size
  have HU : Hid (∀ w', Below w.heap.size w w' → UT w') := fun w' h => Utf8Tabs_below hW.t h
  have HC : Hid (Calls Tryz.prog 15 #[.slice a0 l.length cap0] w fun e w' => e = .returned (.bool (chkA l)) ∧ Below w.heap.size w w') := attrs_any _ l w hr hl (fun x hx => ⟨Nat.le_trans (hn x hx).1 (by decide), (hn x hx).2⟩) hW.t hW.m
  cases hv : chkA l
  · rw [hv] at HC
    have HE : Hid (textA l = e0S) := if_neg (by rw [hv]; decide)
    clear hv HR HT HU hr hn hQ hW
    go_enter Tryz.func16, Tryz.ntmps16
    go_wp2_with (refine HC.out.mono ?_; rintro e w1 ⟨rfl, hb1⟩)
    go_ret
    exact ⟨by rw [HE.out]; rfl, hb1⟩
  · rw [hv] at HC
    have HE : Hid (textA l = ⟨(Q.numL l.length ++ l.flatMap encA).toArray⟩) := if_pos hv
    have HOk : Hid (∀ x ∈ l, x.n.size ≤ 65536 ∧ x.s.size ≤ 140737488355328 ∧ (V.txtV x.k x.v x.s).size ≤ 131088 ∧ (Q.itB ⟨4, 0, x.n⟩).length ≤ 65544 ∧ (encA x).length ≤ 200000) := fun x hx => ⟨(hn x hx).1, (hn x hx).2, V.txt_size (chkA_ok hv x hx).2, Q.itB_len ⟨4, 0, x.n⟩ (may4S (hn x hx).1), encA_len (hn x hx).1 (chkA_ok hv x hx).2⟩
    have h24 := chkA_len hv
    have hnl : (Q.numL (l.length : Int)).length ≤ 65544 := Q.itB_len ⟨1, (l.length : Int), e0S⟩ (may1S _ (by omega) (by omega))
    clear hv hr hn hQ hW
    go_enter Tryz.func16, Tryz.ntmps16
    go_wp2_with fail
    refine HC.out.mono ?_
    rintro e w1 ⟨rfl, hb1⟩
    have HB1 : Hid (Below w.heap.size w w1) := hb1
    have hs1 := hb1.size
    have HT1 : Hid (∀ w', Below w1.heap.size w1 w' → Q.Tab w' ∧ UT w' ∧ IsRow w' 4 (.slice a0 l.length cap0) l.length (aCells l)) := fun w' h => ⟨HT.out _ (HB1.out.trans (h.mono hs1)), HU.out _ (HB1.out.trans (h.mono hs1)), HR.out _ (HB1.out.trans (h.mono hs1))⟩
    clear HC hb1 HT HU HR
    have hA := al_b w1 (.cells #[.pointer none, .slice none 0 0] 73)
    have HN := Q.num_any (l.length : Int) (w1.alloc (.cells #[.pointer none, .slice none 0 0] 73)) (HT1.out _ hA).1
    have HI : Hid (Q.IsB w1.heap.size w1.heap.size (Lib.byteCells []) (w1.alloc (.cells #[.pointer none, .slice none 0 0] 73))) := Lib.IsBuilderF.of (Lib.fresh_isBuilder _ _ w1)
    have HA : Hid (Below w1.heap.size w1 (w1.alloc (.cells #[.pointer none, .slice none 0 0] 73))) := hA
    clear hA
    go_wp2_with fail
    refine HN.mono ?_
    rintro e w2 ⟨rfl, hb2⟩
    have HB2 : Hid (Below w1.heap.size w1 w2) := HA.out.trans (hb2.mono HA.out.size)
    have HI2 : Hid (Q.IsB w1.heap.size w1.heap.size (Lib.byteCells []) w2) := Q.IsB_below HI.out hb2
    have hsn : (strOfNums (Q.numI (l.length : Int))).size ≤ 65544 := by
      have e : (strOfNums (Q.numI (l.length : Int))).size = (Q.numL (l.length : Int)).length := by
        have := congrArg List.length (Q.strCells_num (l.length : Int))
        simpa [Lib.strCells, Lib.byteCells] using this
      omega
    have HWr : Hid (Calls Tryz.prog 35 #[.pointer (some ⟨w1.heap.size, 0, none⟩), .string (strOfNums (Q.numI (l.length : Int)))] w2 fun e w' => e = .returned (.tuple #[.int .i64 (strOfNums (Q.numI (l.length : Int))).size, .nilIface]) ∧ Q.IsB w1.heap.size w1.heap.size (Lib.byteCells (Q.numL (l.length : Int))) w' ∧ Below w1.heap.size w2 w') := by
      have h := Q.writeString_any w1.heap.size w1.heap.size _ (strOfNums (Q.numI (l.length : Int))) w2 HI2.out (by simp [Lib.byteCells]; omega) HB2.out.size
      rw [Q.strCells_num] at h
      exact h
    have hlt2 : w1.heap.size < w2.heap.size := by have := hb2.size; simp at this; omega
    clear hb2 HI HI2 HN HA
    generalize (strOfNums (Q.numI (l.length : Int))) = SN at *
    go_wp2_with fail
    refine HWr.out.mono ?_
    rintro e w3 ⟨rfl, hI3, hb3⟩
    have HB3 : Hid (Below w1.heap.size w1 w3) := HB2.out.trans hb3
    have HI3 : Hid (Q.IsB w1.heap.size w1.heap.size (Lib.byteCells (Q.numL (l.length : Int) ++ (l.take 0).flatMap encA)) w3) := by
      have e : Q.numL (l.length : Int) ++ (l.take 0).flatMap encA = Q.numL (l.length : Int) := by simp
      rw [e]
      exact hI3
    have HL3 : Hid (w1.heap.size < w3.heap.size) := Nat.lt_of_lt_of_le hlt2 hb3.size
    clear hI3 hb3 HWr HB2
    go_wp2_with fail
    go_loopw [17] (fun i wr => ∃ k : Nat, k ≤ l.length ∧ i = .int .i64 (k : Int) ∧ Hid (Q.IsB w1.heap.size w1.heap.size (Lib.byteCells (Q.numL (l.length : Int) ++ (l.take k).flatMap encA)) wr) ∧ Hid (Below w1.heap.size w1 wr) ∧ Hid (w1.heap.size < wr.heap.size)) (fun i _ => l.length - (intOf i).toNat)
    case atStart => exact ⟨0, Nat.zero_le _, rfl, HI3, HB3, HL3⟩
    case round =>
      clear HI3 HB3 HL3
      obtain ⟨k, hk, rfl, HI, HB, HL⟩ := hrel
      have hsz := HB.out.size
      have hlen : (Q.numL (l.length : Int) ++ (l.take k).flatMap encA).length ≤ 10000000 := by
        have h1 := encAs_len (l.take k) (fun x hx => (HOk.out x (List.mem_of_mem_take hx)).2.2.2.2)
        rw [List.length_append]
        rw [List.length_take] at h1
        omega
      by_cases hlk : k < l.length
      · have dk : decide ((k : Int) < l.length) = true := by simp; omega
        obtain ⟨b, off, hvv, hlt, hc1, hcc⟩ := a_at (HT1.out _ HB.out).2.2 (by omega)
        subst hvv
        obtain ⟨c0, c1, c2, c3⟩ := hcc k hlk
        have HTt : Hid ((l.take (k + 1)).flatMap encA = (l.take k).flatMap encA ++ encA l[k]) := by
          show _ = _
          rw [List.take_succ_eq_append_getElem hlk, List.flatMap_append]
          simp
        obtain ⟨o1, o2, o3, o4, -⟩ := HOk.out _ (List.getElem_mem hlk)
        generalize l[k]'hlk = m at *
        obtain ⟨mn, mk, mv, ms⟩ := m
        dsimp only at *
        generalize hP : Q.numL (l.length : Int) ++ (l.take k).flatMap encA = PR at *
        have HNx : Hid (Q.numL (l.length : Int) ++ (l.take (k + 1)).flatMap encA = PR ++ Q.itB ⟨4, 0, mn⟩ ++ (V.txtV mk mv ms).data.toList) := by
          show _ = _
          rw [HTt.out, ← List.append_assoc, hP]
          unfold encA
          rw [List.append_assoc]
        have hA := al_b wr (.cells #[.string mn, .int .i64 mk, .int .i64 mv, .string ms] 49)
        have HBa : Hid (Below w1.heap.size w1 (wr.alloc (.cells #[.string mn, .int .i64 mk, .int .i64 mv, .string ms] 49))) := HB.out.alloc hsz _
        have HIa : Hid (Q.IsB w1.heap.size w1.heap.size (Lib.byteCells PR) (wr.alloc (.cells #[.string mn, .int .i64 mk, .int .i64 mv, .string ms] 49))) := Q.IsB_alloc HI.out _
        have HPu := put_1S mn 63 (wr.alloc (.cells #[.string mn, .int .i64 mk, .int .i64 mv, .string ms] 49)) (wr.heap.size + 1) (by simp) o1 (HT1.out _ HBa.out).1
        have HXa : Hid ((wr.alloc (.cells #[.string mn, .int .i64 mk, .int .i64 mv, .string ms] 49)).heap[wr.heap.size]? = some (.cells #[.string mn, .int .i64 mk, .int .i64 mv, .string ms] 49 (0, 0))) := alloc_topS _ _
        clear hcc HTt HI hA hP
        go_wp2_with fail
        refine HPu.mono ?_
        rintro e w4 ⟨rfl, hb4⟩
        have HB4 : Hid (Below w1.heap.size w1 w4) := HBa.out.trans (hb4.mono HBa.out.size)
        have HL4 : Hid (w1.heap.size < w4.heap.size) := by
          show _ < _
          have h1 := hb4.size
          have h2 := HL.out
          simp at h1
          omega
        have HI4 : Hid (Q.IsB w1.heap.size w1.heap.size (Lib.byteCells PR) w4) := Q.IsB_below HIa.out hb4
        have HX4 : Hid (w4.heap[wr.heap.size]? = some (.cells #[.string mn, .int .i64 mk, .int .i64 mv, .string ms] 49 (0, 0))) := (hb4.block _ (by simp)).trans HXa.out
        have HW4 := writeString_k w1.heap.size w1.heap.size _ ⟨(Q.itB ⟨4, 0, mn⟩).toArray⟩ w4 HI4.out (by simp [Lib.byteCells, ByteArray.size]; omega) HB4.out.size
        clear hb4 HBa HIa HPu HXa HI4
        go_wp2_with fail
        refine HW4.mono ?_
        rintro e w5 ⟨rfl, hI5, hb5, ok5⟩
        have HB5 : Hid (Below w1.heap.size w1 w5) := HB4.out.trans hb5
        have HL5 : Hid (w1.heap.size < w5.heap.size) := Nat.lt_of_lt_of_le HL4.out hb5.size
        have HX5 : Hid (w5.heap[wr.heap.size]? = some (.cells #[.string mn, .int .i64 mk, .int .i64 mv, .string ms] 49 (0, 0))) := ok5 _ _ HX4.out (fun e => by have := Option.some.inj e; have := HL.out; omega) (fun c fz e => by cases e)
        have HI5 : Hid (Q.IsB w1.heap.size w1.heap.size (Lib.byteCells (PR ++ Q.itB ⟨4, 0, mn⟩)) w5) := by
          rw [Lib.strCells_eq, ← Lib.byteCells_append] at hI5
          exact hI5
        obtain ⟨⟨x0, x1, x2, x3⟩, -⟩ := fourS HX5.out
        have HTx := V.text_any mk mv ms w5 o2 (HT1.out _ HB5.out).2.1 (HT1.out _ HB5.out).1
        clear hb5 ok5 hI5 HW4 HX4 HB4
        go_wp2_with fail
        refine HTx.mono ?_
        rintro e w6 ⟨rfl, hb6⟩
        have HB6 : Hid (Below w1.heap.size w1 w6) := HB5.out.trans (hb6.mono HB5.out.size)
        have HL6 : Hid (w1.heap.size < w6.heap.size) := Nat.lt_of_lt_of_le HL5.out hb6.size
        have HI6 : Hid (Q.IsB w1.heap.size w1.heap.size (Lib.byteCells (PR ++ Q.itB ⟨4, 0, mn⟩)) w6) := Q.IsB_below HI5.out hb6
        have HW6 := Q.writeString_any w1.heap.size w1.heap.size _ (V.txtV mk mv ms) w6 HI6.out (by simp [Lib.byteCells]; omega) HB6.out.size
        clear hb6 HTx HI5 HI6 HB5 HX5 x0 x1 x2 x3
        go_wp2_with fail
        refine HW6.mono ?_
        rintro e w7 ⟨rfl, hI7, hb7⟩
        have HB7 : Hid (Below w1.heap.size w1 w7) := HB6.out.trans hb7
        have HL7 : Hid (w1.heap.size < w7.heap.size) := Nat.lt_of_lt_of_le HL6.out hb7.size
        have HI7 : Hid (Q.IsB w1.heap.size w1.heap.size (Lib.byteCells (Q.numL (l.length : Int) ++ (l.take (k + 1)).flatMap encA)) w7) := by
          rw [Lib.strCells_eq, ← Lib.byteCells_append] at hI7
          rw [HNx.out]
          exact hI7
        clear hI7 hb7 HW6 HB6 HNx
        go_wp2
        go_roundw
        case rel => exact ⟨k + 1, by omega, by simp, HI7, HB7, HL7⟩
        case measure => simp [intOf]; omega
      · have hk' : k = l.length := by omega
        subst hk'
        have dk : decide ((l.length : Int) < l.length) = false := by simp
        rw [List.take_of_length_le (Nat.le_refl _)] at HI hlen
        have HS := Tryz.Builder_String_any_k w1.heap.size w1.heap.size (Q.numL (l.length : Int) ++ l.flatMap encA) wr HI.out (by omega)
        clear HI hlen
        go_wp2_with fail
        refine HS.mono ?_
        rintro e w5 ⟨rfl, -, hb5, -⟩
        have HB5 : Hid (Below w.heap.size w w5) := HB1.out.trans ((HB.out.trans hb5).mono hs1)
        clear hb5 HS
        generalize (⟨(Q.numL (l.length : Int) ++ l.flatMap encA).toArray⟩ : ByteArray) = TX at *
        go_wp2
        go_ret
        exact ⟨by rw [HE.out]; rfl, HB5.out⟩
end Go.Proofs.YtfbhalkiilbcoaaGreatDoor
