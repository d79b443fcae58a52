/- The reference's Compare of values; ValueChecks: for every two values the law returns true. -/
import Derived.Test.YtbekpemidpngaaaGreatDoorZk22
import Derived.Test.YtbekpemidpngaaaGreatDoorZk7
import Derived.Test.YtbekpemidpngaaaGreatDoorZk26
import Derived.Test.YtbekpemidpngaaaGreatDoorZk28
namespace Go.Proofs.YtbekpemidpngaaaGreatDoor.V
open Go.RowKit

theorem less_cmp : ∀ (a b : List UInt8), Op.bytesLess a b = decide (Lib.compareBytes a b < 0)
  | [], [] => by simp [Op.bytesLess, Lib.compareBytes]
  | [], b :: l => by simp [Op.bytesLess, Lib.compareBytes]
  | a :: k, [] => by simp [Op.bytesLess, Lib.compareBytes]
  | a :: k, b :: l => by
    have ih := less_cmp k l
    by_cases h1 : a < b
    · simp [Op.bytesLess, Lib.compareBytes, h1]
    · by_cases h2 : b < a
      · have hne : a ≠ b := fun e => by subst e; exact UInt8.lt_irrefl _ h2
        simp [Op.bytesLess, Lib.compareBytes, h1, h2, hne]
      · have e : a = b := UInt8.le_antisymm (UInt8.not_lt.1 h2) (UInt8.not_lt.1 h1)
        subst e
        simp [Op.bytesLess, Lib.compareBytes, ih]
theorem toL (s : ByteArray) : s.toList = s.data.toList := ByteArray.toList_eq s
set_option maxRecDepth 100000 in
set_option maxHeartbeats 2000000 in
theorem refCompare_any (k n : Int) (s : ByteArray) (k' n' : Int) (s' : ByteArray) (w : World) :
    Calls Tryz.prog 39 #[vv k n s, vv k' n' s'] w fun e w' => e = .returned (.int .i64 (cmpV k n s k' n' s')) ∧ Below w.heap.size w w' := by
  obtain ⟨C, HC⟩ : ∃ C, Hid (cmpV k n s k' n' s' = C) := ⟨_, rfl⟩
  rw [HC.out]
  have hb : Below w.heap.size w ((w.alloc (.cells #[.int .i64 k, .int .i64 n, .string s] 67)).alloc (.cells #[.int .i64 k', .int .i64 n', .string s'] 67)) := ((Below.refl _ _).alloc (Nat.le_refl _) _).alloc (by simp) _
  have hv := cv_vals k n s k' n' s'
  have hng := cv_neg k n s k' n' s'
  have hz := cv_zero k n s k' n' s'
  by_cases h1 : k < k'
  · have HR : Hid (-1 = C) := by show _ = _; rw [← HC.out]; have := hng.2 (.inl h1); omega
    have h1' : decide (k < k') = true := by simpa using h1
    clear hv hng hz HC
    go_enter Tryz.func39, Tryz.ntmps39
    go_wp2
    go_ret
    exact ⟨by rw [← HR.out]; rfl, hb⟩
  have h1' : decide (k < k') = false := by simpa using h1
  by_cases h2 : k = k'
  · subst h2
    by_cases h3 : n < n'
    · have HR : Hid (-1 = C) := by show _ = _; rw [← HC.out]; have := hng.2 (.inr ⟨rfl, .inl h3⟩); omega
      have h3' : decide (n < n') = true := by simpa using h3
      clear hv hng hz HC
      go_enter Tryz.func39, Tryz.ntmps39
      go_wp2
      go_ret
      exact ⟨by rw [← HR.out]; rfl, hb⟩
    have h3' : decide (n < n') = false := by simpa using h3
    by_cases h4 : n = n'
    · subst h4
      have hls := less_cmp s.data.toList s'.data.toList
      rw [← toL, ← toL] at hls
      by_cases h5 : Lib.compareBytes s.toList s'.toList < 0
      · have HR : Hid (-1 = C) := by show _ = _; rw [← HC.out]; have := hng.2 (.inr ⟨rfl, .inr ⟨rfl, by rw [← toL, ← toL]; exact h5⟩⟩); omega
        rw [decide_eq_true h5] at hls
        clear hv hng hz HC h5
        go_enter Tryz.func39, Tryz.ntmps39
        go_wp2
        go_ret
        exact ⟨by rw [← HR.out]; rfl, hb⟩
      · rw [decide_eq_false h5] at hls
        by_cases h6 : s = s'
        · subst h6
          have HR : Hid (0 = C) := by show _ = _; rw [← HC.out]; exact (hz.2 ⟨rfl, rfl, rfl⟩).symm
          clear hv hng hz HC h5
          go_enter Tryz.func39, Tryz.ntmps39
          go_wp2
          go_ret
          exact ⟨by rw [← HR.out]; rfl, hb⟩
        · have h6' : ¬ s.toList = s'.toList := fun e => h6 (ba_eq (by rw [← toL, ← toL]; exact e))
          have HR : Hid (1 = C) := by
            show _ = _
            rw [← HC.out]
            have a1 : ¬ cmpV k n s k n s' = 0 := fun e => h6 (hz.1 e).2.2
            have a2 : ¬ cmpV k n s k n s' < 0 := fun e => by
              rcases hng.1 e with e | ⟨_, e | ⟨_, e⟩⟩
              · omega
              · omega
              · exact h5 (by rw [toL, toL]; exact e)
            omega
          clear hv hng hz HC h5 h6
          go_enter Tryz.func39, Tryz.ntmps39
          go_wp2
          go_ret
          exact ⟨by rw [← HR.out]; rfl, hb⟩
    · have h4' : (n == n') = false := by rw [beq_eq_false_iff_ne]; exact h4
      have HR : Hid (1 = C) := by
        show _ = _
        rw [← HC.out]
        have a1 : ¬ cmpV k n s k n' s' = 0 := fun e => h4 (hz.1 e).2.1
        have a2 : ¬ cmpV k n s k n' s' < 0 := fun e => by
          rcases hng.1 e with e | ⟨_, e | ⟨e, _⟩⟩
          · omega
          · omega
          · omega
        omega
      clear hv hng hz HC
      go_enter Tryz.func39, Tryz.ntmps39
      go_wp2
      go_ret
      exact ⟨by rw [← HR.out]; rfl, hb⟩
  · have h2' : (k == k') = false := by rw [beq_eq_false_iff_ne]; exact h2
    have HR : Hid (1 = C) := by
      show _ = _
      rw [← HC.out]
      have a1 : ¬ cmpV k n s k' n' s' = 0 := fun e => h2 (hz.1 e).1
      have a2 : ¬ cmpV k n s k' n' s' < 0 := fun e => by
        rcases hng.1 e with e | ⟨e, _⟩
        · omega
        · omega
      omega
    clear hv hng hz HC
    go_enter Tryz.func39, Tryz.ntmps39
    go_wp2
    go_ret
    exact ⟨by rw [← HR.out]; rfl, hb⟩

end Go.Proofs.YtbekpemidpngaaaGreatDoor.V
/- The reference's Word, takes, May, Check: walks. -/
namespace Go.Proofs.YtbekpemidpngaaaGreatDoor
open Go.RowKit Go.ChangeMaps

set_option maxRecDepth 100000 in
theorem alike_any (a b : ByteArray) (w : World) (ha : a.size ≤ 1000000) (hb : b.size ≤ 1000000) :
    Calls Tryz.prog 120 #[.string a, .string b] w fun e w' => e = .returned (.bool (sameL a.data.toList b.data.toList)) ∧ Below w.heap.size w w' := by
  have HE : Hid (((str (foldL a.data.toList)).toList == (str (foldL b.data.toList)).toList) = sameL a.data.toList b.data.toList) := eq_str _ _
  have HA : Hid (Calls Tryz.prog 90 #[.string a] w fun e w' => e = .returned (.string (str (foldL a.data.toList))) ∧ Below w.heap.size w w') := refFold_any a w ha
  have HB : Hid (∀ w', Calls Tryz.prog 90 #[.string b] w' fun e w'' => e = .returned (.string (str (foldL b.data.toList))) ∧ Below w'.heap.size w' w'') := fun w' => refFold_any b w' hb
  generalize str (foldL a.data.toList) = A at *
  generalize str (foldL b.data.toList) = B at *
  generalize sameL a.data.toList b.data.toList = r at *
  go_enter Tryz.func120, Tryz.ntmps120
  go_wp2_with fail
  refine HA.out.mono ?_
  rintro e w1 ⟨rfl, h1⟩
  have H1 : Hid (Below w.heap.size w w1) := h1
  clear h1
  go_wp2_with fail
  refine (HB.out w1).mono ?_
  rintro e w2 ⟨rfl, h2⟩
  have H2 : Hid (Below w.heap.size w w2) := H1.out.trans (h2.mono H1.out.size)
  clear h2
  go_wp2
  go_ret
  exact ⟨by rw [← HE.out]; rfl, H2.out⟩
set_option maxRecDepth 100000 in
set_option maxHeartbeats 1000000 in
theorem hasR_any (v : Value) (l : List ByteArray) (s : ByteArray) (w : World) (hr : IsRow w 1 v l.length (sVals l)) (hl : l.length ≤ 1000000) (hn : ∀ u ∈ l, u.size ≤ 1000000) (hs : s.size ≤ 1000000) :
    Calls Tryz.prog 88 #[v, .string s] w fun e w' => e = .returned (.bool (l.any fun u => sameL u.data.toList s.data.toList)) ∧ Below w.heap.size w w' := by
  obtain ⟨a0, cap0, rfl⟩ := hr.form
  have HR : Hid (IsRow w 1 (.slice a0 l.length cap0) l.length (sVals l)) := hr
  have HS : Hid (∀ (k : Nat) (h : k < l.length) (w' : World), Calls Tryz.prog 120 #[.string l[k], .string s] w' fun e w'' => e = .returned (.bool (sameL l[k].data.toList s.data.toList)) ∧ Below w'.heap.size w' w'') := fun k h w' => alike_any _ _ w' (hn _ (List.getElem_mem h)) hs
  obtain ⟨R, hR⟩ : ∃ R, R = l.any fun u => sameL u.data.toList s.data.toList := ⟨_, rfl⟩
  have HRt : Hid (∀ (k : Nat) (h : k < l.length), sameL l[k].data.toList s.data.toList = true → R = true) := fun k h e => by
    rw [hR]; exact List.any_eq_true.2 ⟨_, List.getElem_mem h, e⟩
  have HRf : Hid ((∀ (j : Nat) (h : j < l.length), sameL l[j].data.toList s.data.toList = false) → R = false) := fun e => by
    rw [hR, List.any_eq_false]
    intro x hx
    obtain ⟨j, hj, rfl⟩ := List.mem_iff_getElem.1 hx
    rw [e j hj]; decide
  rw [← hR]
  clear hr hn hR
  go_enter Tryz.func88, Tryz.ntmps88
  go_wp2_with fail
  go_loopw [4, 5] (fun r i wr => r = .bool false ∧ ∃ k : Nat, k ≤ l.length ∧ i = .int .i64 (k : Int) ∧ Hid (∀ (j : Nat) (h : j < l.length), j < k → sameL l[j].data.toList s.data.toList = false) ∧ Below w.heap.size w wr) (fun _ i _ => l.length - (intOf i).toNat)
  case atStart => exact ⟨rfl, 0, Nat.zero_le _, rfl, fun j h hj => absurd hj (Nat.not_lt_zero _), Below.refl _ _⟩
  case round =>
    obtain ⟨rfl, k, hk, rfl, HO, hB⟩ := hrel
    by_cases hlk : k < l.length
    · have dk : decide ((k : Int) < l.length) = true := by simp; omega
      obtain ⟨b, off, rfl, -, hlt, hcap, hc⟩ := s_at (HR.out.below hB) (by omega)
      have ck0 := hc k hlk
      have HSk : Hid (Calls Tryz.prog 120 #[.string l[k], .string s] wr fun e w'' => e = .returned (.bool (sameL l[k].data.toList s.data.toList)) ∧ Below wr.heap.size wr w'') := HS.out k hlk wr
      have HB : Hid (Below w.heap.size w wr) := hB
      cases hsm : sameL l[k].data.toList s.data.toList with
      | true =>
        have HY : Hid (R = true) := HRt.out k hlk hsm
        rw [hsm] at HSk
        generalize l[k]'hlk = nm at *
        clear hc HO hsm hB HRt HRf HS HR
        go_wp2_with fail
        refine HSk.out.mono ?_
        rintro e w1 ⟨rfl, hb⟩
        have HB1 : Hid (Below w.heap.size w w1) := HB.out.trans (hb.mono HB.out.size)
        clear hb
        go_wp2
        go_ret
        exact ⟨by rw [HY.out]; rfl, HB1.out⟩
      | false =>
        have HO2 : Hid (∀ (j : Nat) (h : j < l.length), j < k + 1 → sameL l[j].data.toList s.data.toList = false) := fun j h hj => by
          by_cases e : j = k
          · subst e; exact hsm
          · exact HO.out j h (by omega)
        rw [hsm] at HSk
        generalize l[k]'hlk = nm at *
        clear hc HO hsm hB HRt HRf HS HR
        go_wp2_with fail
        refine HSk.out.mono ?_
        rintro e w1 ⟨rfl, hb⟩
        have HB1 : Hid (Below w.heap.size w w1) := HB.out.trans (hb.mono HB.out.size)
        clear hb
        go_wp2
        go_roundw
        case rel => exact ⟨rfl, k + 1, by omega, by simp, HO2, HB1.out⟩
        case measure => simp [intOf]; omega
    · have hk' : k = l.length := by omega
      subst hk'
      have dk : decide ((l.length : Int) < l.length) = false := by simp
      have HY : Hid (R = false) := HRf.out fun j hj => HO.out j hj hj
      clear HO HRt HRf HS HR
      have HBB : Hid (Below w.heap.size w wr) := hB
      clear hB
      go_wp2
      go_ret
      exact ⟨by rw [HY.out]; rfl, HBB.out⟩
theorem sameL_comm (a b : List UInt8) : sameL a b = sameL b a := by
  unfold sameL
  rw [Bool.eq_iff_iff, decide_eq_true_eq, decide_eq_true_eq]
  exact eq_comm
abbrev words5 : List ByteArray := [⟨#[97, 110, 100]⟩, ⟨#[105, 110]⟩, ⟨#[104, 97, 115]⟩, ⟨#[112, 114, 101, 102, 105, 120]⟩, ⟨#[97, 110, 121]⟩]
theorem any_own (s : ByteArray) : (words5.any fun u => sameL u.data.toList s.data.toList) = ownW s := by
  unfold ownW
  simp only [List.any_cons, List.any_nil, Bool.or_false]
  rw [sameL_comm s.data.toList (⟨#[97, 110, 100]⟩ : ByteArray).data.toList, sameL_comm s.data.toList (⟨#[105, 110]⟩ : ByteArray).data.toList, sameL_comm s.data.toList (⟨#[104, 97, 115]⟩ : ByteArray).data.toList, sameL_comm s.data.toList (⟨#[112, 114, 101, 102, 105, 120]⟩ : ByteArray).data.toList, sameL_comm s.data.toList (⟨#[97, 110, 121]⟩ : ByteArray).data.toList]
theorem row_s5 {w : World} {g : Nat} {ty : TypeId} {z : Nat × Nat} (h : w.heap[g]? = some (.cells #[.string ⟨#[97, 110, 100]⟩, .string ⟨#[105, 110]⟩, .string ⟨#[104, 97, 115]⟩, .string ⟨#[112, 114, 101, 102, 105, 120]⟩, .string ⟨#[97, 110, 121]⟩] ty z)) : IsRow w 1 (.slice (some ⟨g, 0, none⟩) 5 5) words5.length (sVals words5) := by
  refine ⟨rfl, .inr ⟨g, 0, 5, rfl, (Array.getElem?_eq_some_iff.1 h).1, Nat.le_refl _, by decide, fun j u hu => ?_⟩⟩
  rw [Nat.zero_add, Lib.cell_of_heap h]
  have e : sVals words5 = [.string ⟨#[97, 110, 100]⟩, .string ⟨#[105, 110]⟩, .string ⟨#[104, 97, 115]⟩, .string ⟨#[112, 114, 101, 102, 105, 120]⟩, .string ⟨#[97, 110, 121]⟩] := rfl
  rw [e] at hu
  rw [← hu]
  simp
theorem ib_ge : ∀ (l : List UInt8) (c : UInt8), -1 ≤ Lib.indexByte l c
  | [], _ => by show -1 ≤ (-1 : Int); decide
  | b :: l, c => by
    have h := ib_ge l c
    unfold Lib.indexByte
    split
    · decide
    · split
      · decide
      · omega
theorem cut_dot : ∀ (l : List UInt8), decide ((cutB l).length = 1) = !decide (0 ≤ Lib.indexByte l 46)
  | [] => by rfl
  | b :: l => by
    have ih := cut_dot l
    have hg := ib_ge l 46
    have hne := cutB_ne l
    unfold cutB Lib.indexByte
    by_cases hb : b = 46
    · subst hb
      have h1 : 1 ≤ (cutB l).length := List.length_pos_iff.2 hne
      rw [if_pos rfl, if_pos (by rfl), List.length_cons]
      rw [decide_eq_false (by omega)]
      rfl
    · rw [if_neg hb, if_neg (by simpa using hb)]
      have e : (onto b (cutB l)).length = (cutB l).length := by
        cases h : cutB l with
        | nil => exact absurd h hne
        | cons p ps => rfl
      rw [e, ih]
      by_cases h1 : Lib.indexByte l 46 = -1
      · rw [h1]; rfl
      · rw [if_neg (by simpa using h1), decide_eq_true (by omega), decide_eq_true (by omega)]
theorem one_dot (s : ByteArray) : oneP s = (decide (checkL s.data.toList = 0) && !dotB s) := by
  unfold oneP dotB
  rw [cut_dot]
/-- As far as the reference looks. -/
def goB (l : List It) : Bool := decide (∀ (i : Nat) (h : i < l.length), i ≤ 16 → elB l i h = true)
def oneT (o : Int) : List It → Bool
  | [x] => tkB o x.k
  | _ => false
def tailB (o : Int) (l : List It) : Bool := if o = 1 then decide (l.length = 0) else if o = 9 then decide (1 ≤ l.length) && decide (l.length ≤ 16) else oneT o l
theorem goB_all {l : List It} (h : l.length ≤ 16) : goB l = allB l := by
  unfold goB allB
  rw [Bool.eq_iff_iff, decide_eq_true_eq, decide_eq_true_eq]
  exact ⟨fun g i hi => g i hi (by omega), fun g i hi _ => g i hi⟩
theorem may_eq (y : Pd) : mayP y = (oneP y.n && (!ownW y.n && (decide (1 ≤ y.o) && (decide (y.o ≤ 9) && (goB y.l && tailB y.o y.l))))) := by
  obtain ⟨n, o, l⟩ := y
  have e0 : mayP ⟨n, o, l⟩ = (valsB o l && (decide (checkL n.data.toList = 0) && (!dotB n && !ownW n))) := rfl
  have e1 : (oneP n && (!ownW n && (decide (1 ≤ o) && (decide (o ≤ 9) && (goB l && tailB o l))))) = ((decide (1 ≤ o) && (decide (o ≤ 9) && (goB l && tailB o l))) && (decide (checkL n.data.toList = 0) && (!dotB n && !ownW n))) := by
    rw [one_dot]
    cases decide (checkL n.data.toList = 0) <;> cases dotB n <;> cases ownW n <;> simp
  rw [e0]
  show _ = (oneP n && (!ownW n && (decide (1 ≤ o) && (decide (o ≤ 9) && (goB l && tailB o l)))))
  rw [e1]
  congr 1
  unfold valsB tailB
  by_cases h1 : o = 1
  · subst h1
    rw [if_pos rfl, if_pos rfl]
    cases l with
    | nil => rfl
    | cons x r => simp
  rw [if_neg h1, if_neg h1]
  by_cases h9 : o = 9
  · subst h9
    rw [if_pos rfl, if_pos rfl]
    unfold setB
    by_cases hl : l.length ≤ 16
    · rw [goB_all hl]
      rfl
    · simp [hl]
  rw [if_neg h9, if_neg h9]
  by_cases h2 : 2 ≤ o ∧ o ≤ 8
  · rw [if_pos h2, decide_eq_true (by omega), decide_eq_true (by omega), Bool.true_and, Bool.true_and]
    match l with
    | [] => simp [oneB, oneT]
    | [x] =>
      rw [goB_all (l := [x]) (by simp)]
      have e : allB [x] = chk1 x := by
        unfold allB
        rw [Bool.eq_iff_iff, decide_eq_true_eq]
        constructor
        · intro h
          have := h 0 (by simp)
          unfold elB at this
          simpa using this
        · intro h i hi
          have : i = 0 := by simp at hi; exact hi
          subst this
          unfold elB
          simpa using h
      rw [e]
      rfl
    | x :: y :: r => simp [oneB, oneT]
  · rw [if_neg h2]
    by_cases ha : 1 ≤ o
    · rw [decide_eq_false (show ¬ o ≤ 9 by omega)]; simp
    · rw [decide_eq_false ha]; simp
set_option maxRecDepth 100000 in
theorem word8_any (s : ByteArray) (w : World) (hs : s.size ≤ 1000000) : Calls Tryz.prog 53 #[.string s] w fun e w' => e = .returned (.bool (ownW s)) ∧ Below w.heap.size w w' := by
  obtain ⟨w1, hw1⟩ : ∃ w1, w1 = w.alloc (.cells #[.string ⟨#[97, 110, 100]⟩, .string ⟨#[105, 110]⟩, .string ⟨#[104, 97, 115]⟩, .string ⟨#[112, 114, 101, 102, 105, 120]⟩, .string ⟨#[97, 110, 121]⟩] 9) := ⟨_, rfl⟩
  have B1 : Hid (Below w.heap.size w w1) := by show Below _ _ _; rw [hw1]; exact al_f _ _
  have hn1 : w1.heap[w.heap.size]? = some (.cells #[.string ⟨#[97, 110, 100]⟩, .string ⟨#[105, 110]⟩, .string ⟨#[104, 97, 115]⟩, .string ⟨#[112, 114, 101, 102, 105, 120]⟩, .string ⟨#[97, 110, 121]⟩] 9 (0, 0)) := by rw [hw1]; exact nw_at _ _
  have HC : Hid (Calls Tryz.prog 88 #[.slice (some ⟨w.heap.size, 0, none⟩) 5 5, .string s] w1 fun e w' => e = .returned (.bool (ownW s)) ∧ Below w1.heap.size w1 w') := by
    have h0 := hasR_any _ words5 s w1 (row_s5 hn1) (by decide) (fun u hu => by
      simp only [List.mem_cons, List.not_mem_nil, or_false] at hu
      rcases hu with rfl | rfl | rfl | rfl | rfl <;> decide) hs
    rw [any_own] at h0
    exact h0
  clear hn1
  generalize ownW s = R at *
  go_enter Tryz.func53, Tryz.ntmps53
  go_wp2_with fail
  rw [← hw1]
  clear hw1
  refine HC.out.mono ?_
  rintro e w2 ⟨rfl, hb⟩
  have B2 : Hid (Below w.heap.size w w2) := bT B1.out hb
  clear hb
  go_wp2
  go_ret
  exact ⟨rfl, B2.out⟩
set_option maxRecDepth 100000 in
set_option maxHeartbeats 1000000 in
theorem takes8_any (o k : Int) (w : World) : Calls Tryz.prog 55 #[.int .i64 o, .int .i64 k] w fun e w' => e = .returned (.bool (tkB o k)) ∧ w' = w := by
  have hE : Hid (tkB o k = if 4 ≤ o ∧ o ≤ 7 then decide (k ≠ 3) else if o = 8 then decide (k = 2) || decide (k = 4) else true) := rfl
  rw [hE.out]
  by_cases h4 : 4 ≤ o
  · by_cases h7 : o ≤ 7
    · have d1 : decide (4 ≤ o) = true := decide_eq_true h4
      have d2 : decide (o ≤ 7) = true := decide_eq_true h7
      rw [if_pos ⟨h4, h7⟩]
      by_cases hk : k = 3
      · subst hk
        clear h4 h7 hE
        go_enter Tryz.func55, Tryz.ntmps55
        go_wp2
        go_ret
        exact ⟨rfl, rfl⟩
      · have dk : (k != 3) = true := by simp [hk]
        have dk2 : decide (k ≠ 3) = true := decide_eq_true hk
        rw [dk2]
        clear h4 h7 hE hk dk2
        go_enter Tryz.func55, Tryz.ntmps55
        go_wp2
        go_ret
        exact ⟨by first | rfl | simp, rfl⟩
    · rw [if_neg (fun h => h7 h.2)]
      by_cases h8 : o = 8
      · subst h8
        rw [if_pos rfl]
        by_cases hk : k = 2
        · subst hk
          clear h4 h7 hE
          go_enter Tryz.func55, Tryz.ntmps55
          go_wp2
          go_ret
          exact ⟨by first | rfl | simp, rfl⟩
        · have dk : (k == 2) = false := by simp [hk]
          have dk2 : decide (k = 2) = false := decide_eq_false hk
          rw [dk2, Bool.false_or]
          clear h4 h7 hE hk
          go_enter Tryz.func55, Tryz.ntmps55
          go_wp2
          go_ret
          exact ⟨by first | rfl | simp, rfl⟩
      · rw [if_neg h8]
        have d1 : decide (4 ≤ o) = true := decide_eq_true h4
        have d2 : decide (o ≤ 7) = false := decide_eq_false h7
        have d3 : (o != 8) = true := by simp [h8]
        clear h4 h7 hE h8
        go_enter Tryz.func55, Tryz.ntmps55
        go_wp2
        go_ret
        exact ⟨by first | rfl | simp, rfl⟩
  · rw [if_neg (fun h => h4 h.1), if_neg (by omega)]
    have d1 : decide (4 ≤ o) = false := decide_eq_false h4
    have d3 : (o != 8) = true := by simp; omega
    clear h4 hE
    go_enter Tryz.func55, Tryz.ntmps55
    go_wp2
    go_ret
    exact ⟨by first | rfl | simp, rfl⟩
end Go.Proofs.YtbekpemidpngaaaGreatDoor
