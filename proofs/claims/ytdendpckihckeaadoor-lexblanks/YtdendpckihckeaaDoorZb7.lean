/- value.scanNumbered, scanEscape, scanRune at any text: walks. -/
import Derived.Test.YtdendpckihckeaaDoorZb6
import Derived.Deep.RegionHeld3
import Derived.Test.YtdendpckihckeaaDoorZb2
import Derived.Test.YtdendpckihckeaaDoorZb3
import Derived.Laws.ResultCell
import Derived.Laws.MakeOwn
namespace Go.Proofs.YtdendpckihckeaaDoor
open Go.RowKit

/-- What scanning a rune hands back. -/
def srV : Option (Nat × Nat) → Value
  | some p => .tuple #[.int .i32 (p.1 : Int), .int .i64 (p.2 : Int)]
  | none => .tuple #[.int .i32 0, .int .i64 0]
/-- What the variable of syntax errors holds. -/
def ES (w : World) : Prop := ∃ ev, w.cell? ⟨4, 0, none⟩ = some ev ∧ (ev = .nilIface ∨ ∃ te pe, ev = .iface te pe)
theorem ES_below {w w' : World} (h : ES w) (hb : Below w.heap.size w w') : ES w' := by
  obtain ⟨ev, h1, h2⟩ := h
  exact ⟨ev, (hb.cell (p := ⟨4, 0, none⟩) (World.block_lt_of_cell? _ _ h1)).trans h1, h2⟩
theorem parseUint_ok (t : ByteArray) (n : Nat) (w : World) (h1 : t.size ≠ 0) (h2 : t.size ≤ 2) (h : puL t.data.toList = some n) :
    Calls Tryd.prog 67 #[.string t, .int .i64 16, .int .i64 8] w fun e w' => e = .returned (.tuple #[.int .u64 (n : Int), .nilIface]) ∧ Below w.heap.size w w' := by
  have hp : puVal (puG 0 t.data.toList) = .tuple #[.int .u64 (n : Int), .nilIface] := by
    rw [puG_puL (by rw [← Lib.size_eq]; exact h1) (by rw [← Lib.size_eq]; exact h2), h]; rfl
  clear h
  go_enter Tryd.func67, Tryd.ntmps67
  go_wp2_with fail
  refine (parseUint_i t _ h1 h2).mono ?_
  rintro e w1 ⟨rfl, hb1⟩
  rw [hp]
  clear hp
  go_wp2
  go_ret2
  exact ⟨rfl, hb1⟩
/-- A syntax error. -/
def NoPost (w : World) (e : Ending) (w' : World) : Prop := (∃ q, e = .returned (.tuple #[.int .u64 0, .iface 111 (.pointer q)])) ∧ Below w.heap.size w w'
theorem parseUint_no (t : ByteArray) (w : World) (hE : ES w) (h1 : t.size ≠ 0) (h2 : t.size ≤ 2) (h : puL t.data.toList = none) :
    Calls Tryd.prog 67 #[.string t, .int .i64 16, .int .i64 8] w fun e w' => NoPost w e w' := by
  have hp : puVal (puG 0 t.data.toList) = .tuple #[.int .u64 0, .iface 109 (.int .i64 2)] := by
    rw [puG_puL (by rw [← Lib.size_eq]; exact h1) (by rw [← Lib.size_eq]; exact h2), h]; rfl
  clear h
  go_enter Tryd.func67, Tryd.ntmps67
  go_wp2_with fail
  refine (parseUint_i t _ h1 h2).mono ?_
  rintro e w1 ⟨rfl, hb1⟩
  rw [hp]
  clear hp
  obtain ⟨ev, e1, e2⟩ := ES_below hE hb1
  have HE : Hid (w1.cell? ⟨4, 0, none⟩ = some ev) := e1
  have HF : Hid (ev = .nilIface ∨ ∃ te pe, ev = .iface te pe) := e2
  clear e1 e2
  go_wp2_with fail
  refine (Tryd.strconv_toError_syntax _ _ _ _ ev _ (by omega) HE.out HF.out).mono ?_
  rintro e w2 ⟨N, rfl, -, -, hb2⟩
  have hB2 : Hid (Below w.heap.size w w2) := hb1.trans (hb2.mono hb1.size)
  clear hb2 HE HF
  go_wp2
  go_ret2
  exact ⟨⟨_, rfl⟩, hB2.out⟩
theorem take_list (s : ByteArray) (m : Nat) : (s.extract 0 m).data.toList = s.data.toList.take m := by
  rw [Lib.extract_data]
  simp
theorem mid_list (s : ByteArray) (a b : Nat) : (s.extract a b).data.toList = (s.data.toList.drop a).take (b - a) := Lib.extract_data ..
theorem beq_str (a b : ByteArray) : (a.toList == b.toList) = decide (a = b) := by
  rw [Bool.eq_iff_iff, beq_iff_eq, decide_eq_true_eq, ByteArray.toList_eq, ByteArray.toList_eq]
  exact ⟨ba_eq, fun h => by rw [h]⟩
theorem bneq_str {a b : ByteArray} (h : ¬ a = b) : (!a.toList == b.toList) = true := by rw [beq_str, decide_eq_false h]; rfl
theorem beqs_no {a b : ByteArray} (h : ¬ a = b) : (a.toList == b.toList) = false := by rw [beq_str, decide_eq_false h]
theorem T16_drew' {w : World} (h : T16 w) : T16 w.drew := h
theorem SN_call {w0 W w' : World} (hb : Below W.heap.size W w') (h : T16 W ∧ Below w0.heap.size w0 W) : T16 w' ∧ Below w0.heap.size w0 w' := ⟨T16_below h.1 hb, h.2.trans (hb.mono h.2.size)⟩
theorem SN_drew {w0 W : World} (h : T16 W ∧ Below w0.heap.size w0 W) : T16 W.drew ∧ Below w0.heap.size w0 W.drew := ⟨h.1, h.2.drew⟩
theorem min6 (s : ByteArray) : (s.extract 0 (min (s.size : Int) 6).toNat).data.toList = s.data.toList.take 6 := by
  rw [take_list]
  by_cases h : s.size ≤ 6
  · rw [show (min (s.size : Int) 6).toNat = s.size by omega, List.take_of_length_le (by rw [← Lib.size_eq]; exact Nat.le_refl _), List.take_of_length_le (by rw [← Lib.size_eq]; exact h)]
  · rw [show (min (s.size : Int) 6).toNat = 6 by omega]
theorem ixb_any (s : ByteArray) (w : World) : Calls Tryd.prog 27 #[.string (s.extract 0 (min (s.size : Int) 6).toNat), .int .u8 125] w fun e w' => e = .returned (.int .i64 (Lib.indexByte (s.data.toList.take 6) 125)) ∧ w' = w := by
  have := Tryd.strings_IndexByte (s.extract 0 (min (s.size : Int) 6).toNat) 125 w
  rw [min6] at this
  exact this
set_option maxRecDepth 100000 in
set_option maxHeartbeats 2000000 in
theorem scanNum_no (s : ByteArray) (w : World) (hs : s.size ≤ 140737488355328) (hJ : Lib.indexByte (s.data.toList.take 6) 125 < 4) :
    Calls Tryd.prog 60 #[.string s] w fun e w' => e = .returned (.tuple #[.int .i32 0, .int .i64 0]) ∧ Below w.heap.size w w' := by
  have hge := Lib.indexByte_ge (s.data.toList.take 6) 125
  have HI : Hid (∀ w, Calls Tryd.prog 27 #[.string (s.extract 0 (min (s.size : Int) 6).toNat), .int .u8 125] w fun e w' => e = .returned (.int .i64 (Lib.indexByte (s.data.toList.take 6) 125)) ∧ w' = w) := fun w => ixb_any s w
  generalize Lib.indexByte (s.data.toList.take 6) 125 = J at *
  go_enter Tryd.func60, Tryd.ntmps60
  go_wp2_with fail
  refine (HI.out _).mono ?_
  rintro e w1 ⟨rfl, rfl⟩
  go_wp2
  go_ret2
  exact ⟨rfl, Below.refl _ _⟩
set_option maxRecDepth 100000 in
set_option maxHeartbeats 2000000 in
theorem scanNum_err (s : ByteArray) (w : World) (hs : s.size ≤ 140737488355328) (J : Nat) (hJ : Lib.indexByte (s.data.toList.take 6) 125 = (J : Int)) (h4 : J = 4 ∨ J = 5) (hz : J < s.size) (hE : ES w) (hp : puL (s.extract 3 J).data.toList = none) :
    Calls Tryd.prog 60 #[.string s] w fun e w' => e = .returned (.tuple #[.int .i32 0, .int .i64 0]) ∧ Below w.heap.size w w' := by
  have HI : Hid (∀ w, Calls Tryd.prog 27 #[.string (s.extract 0 (min (s.size : Int) 6).toNat), .int .u8 125] w fun e w' => e = .returned (.int .i64 (J : Int)) ∧ w' = w) := fun w => by rw [← hJ]; exact ixb_any s w
  have hms : (s.extract 3 J).size = J - 3 := by rw [ByteArray.size_extract]; omega
  have HP : Hid (∀ w, ES w → Calls Tryd.prog 67 #[.string (s.extract 3 J), .int .i64 16, .int .i64 8] w fun e w' => NoPost w e w') := fun w h => parseUint_no _ w h (by omega) (by omega) hp
  have hz' : (J : Int) ≤ s.size := by omega
  clear hJ hp hms
  rcases h4 with rfl | rfl
  all_goals
    go_enter Tryd.func60, Tryd.ntmps60
    go_wp2_with fail
    refine (HI.out _).mono ?_
    rintro e w1 ⟨rfl, rfl⟩
    go_wp2_with fail
    refine (HP.out _ hE).mono ?_
    rintro e w2 ⟨⟨q, rfl⟩, hb2⟩
    go_wp2
    go_region
    all_goals go_wp2
    all_goals go_ret2
    all_goals exact ⟨rfl, by first | assumption | exact Below.drew (by assumption)⟩
set_option maxRecDepth 100000 in
set_option maxHeartbeats 2000000 in
theorem scanNum_ok (s : ByteArray) (w : World) (hs : s.size ≤ 140737488355328) (J n : Nat) (hJ : Lib.indexByte (s.data.toList.take 6) 125 = (J : Int)) (h4 : J = 4 ∨ J = 5) (hz : J < s.size) (hT : T16 w) (hp : puL (s.extract 3 J).data.toList = some n) :
    Calls Tryd.prog 60 #[.string s] w fun e w' => e = .returned (if str (shR n) = s.extract 0 (J + 1) then .tuple #[.int .i32 (n : Int), .int .i64 ((J + 1 : Nat) : Int)] else .tuple #[.int .i32 0, .int .i64 0]) ∧ Below w.heap.size w w' := by
  have hn := puL_lt hp
  have HI : Hid (∀ w, Calls Tryd.prog 27 #[.string (s.extract 0 (min (s.size : Int) 6).toNat), .int .u8 125] w fun e w' => e = .returned (.int .i64 (J : Int)) ∧ w' = w) := fun w => by rw [← hJ]; exact ixb_any s w
  have hms : (s.extract 3 J).size = J - 3 := by rw [ByteArray.size_extract]; omega
  have HP : Hid (∀ w, Calls Tryd.prog 67 #[.string (s.extract 3 J), .int .i64 16, .int .i64 8] w fun e w' => e = .returned (.tuple #[.int .u64 (n : Int), .nilIface]) ∧ Below w.heap.size w w') := fun w => parseUint_ok _ n w (by omega) (by omega) hp
  have HS : Hid (∀ w, T16 w → Calls Tryd.prog 48 #[.int .i32 (n : Int)] w fun e w' => e = .returned (.string (str (shR n))) ∧ Below w.heap.size w w') := fun w h => showRune_all n w (.inl (by omega)) h
  have hz' : (J : Int) ≤ s.size := by omega
  generalize str (shR n) = Y at *
  clear hJ hp hms
  have key : ∀ (C : Bool), C = decide (Y = s.extract 0 (J + 1)) → Calls Tryd.prog 60 #[.string s] w fun e w' => e = .returned (if C = true then .tuple #[.int .i32 (n : Int), .int .i64 ((J + 1 : Nat) : Int)] else .tuple #[.int .i32 0, .int .i64 0]) ∧ Below w.heap.size w w' := by
    intro C hC
    rcases h4 with rfl | rfl
    all_goals
      have hz5 : (5 : Int) ≤ s.size := by omega
      try (have hz6 : (6 : Int) ≤ s.size := by omega)
      cases C
      · have hc : ¬ Y = s.extract 0 _ := of_decide_eq_false hC.symm
        simp only [Nat.reduceAdd] at hc
        have hq := bneq_str hc
        clear hC hc
        go_enter Tryd.func60, Tryd.ntmps60
        go_wp2_with fail
        refine (HI.out _).mono ?_
        rintro e w1 ⟨rfl, rfl⟩
        go_wp2_with fail
        refine (HP.out _).mono ?_
        rintro e w2 ⟨rfl, hb2⟩
        have hT2 : T16 w2 ∧ Below w1.heap.size w1 w2 := ⟨T16_below hT hb2, hb2⟩
        clear hb2
        go_wp2
        go_region_held3 (fun w' => T16 w' ∧ Below w1.heap.size w1 w') (first | assumption | exact SN_call (by assumption) (by assumption) | exact SN_drew (by assumption)) (first | (go_at_call 48; refine (HS.out _ ?_).mono ?_; exact (show T16 _ ∧ _ by assumption).1; rintro e w' ⟨rfl, hb⟩))
        all_goals go_wp2
        all_goals go_ret2
        all_goals exact ⟨rfl, (show T16 _ ∧ _ by assumption).2⟩
      · have hc : Y = s.extract 0 _ := of_decide_eq_true hC.symm
        simp only [Nat.reduceAdd] at hc
        clear hC
        subst hc
        go_enter Tryd.func60, Tryd.ntmps60
        go_wp2_with fail
        refine (HI.out _).mono ?_
        rintro e w1 ⟨rfl, rfl⟩
        go_wp2_with fail
        refine (HP.out _).mono ?_
        rintro e w2 ⟨rfl, hb2⟩
        have hT2 : T16 w2 ∧ Below w1.heap.size w1 w2 := ⟨T16_below hT hb2, hb2⟩
        clear hb2
        go_wp2
        go_region_held3 (fun w' => T16 w' ∧ Below w1.heap.size w1 w') (first | assumption | exact SN_call (by assumption) (by assumption) | exact SN_drew (by assumption)) (first | (go_at_call 48; refine (HS.out _ ?_).mono ?_; exact (show T16 _ ∧ _ by assumption).1; rintro e w' ⟨rfl, hb⟩))
        all_goals go_wp2
        all_goals go_ret2
        all_goals exact ⟨rfl, (show T16 _ ∧ _ by assumption).2⟩
  have := key _ rfl
  simpa using this
theorem str_inj {a b : List UInt8} (h : str a = str b) : a = b := by rw [← str_data a, h, str_data]
theorem ext5 (s : ByteArray) (m : Nat) : s.extract 0 m = str (s.data.toList.take m) := ba_eq (by rw [str_data, Lib.extract_data]; simp)
/-- scanNumbered at any text that opens with a back stroke and an u. -/
theorem scanNum_any (s : ByteArray) (u : List UInt8) (w : World) (hs : s.size ≤ 140737488355328) (hu : s.data.toList = 92 :: 117 :: u) (hT : T16 w) (hE : ES w) :
    Calls Tryd.prog 60 #[.string s] w fun e w' => e = .returned (srV ((escL s.data.toList).map fun c => (c, (shR c).length))) ∧ Below w.heap.size w w' := by
  have hsz : s.size = u.length + 2 := by rw [Lib.size_eq, hu]; rfl
  rcases ix_cases u with h | ⟨h, a, b, t, rfl⟩ | ⟨h, a, b, c, t, rfl⟩
  · rw [hu, esc_num_no h]
    exact scanNum_no s w hs (by rw [hu]; exact h)
  · have hm : (s.extract 3 4).data.toList = [b] := by rw [mid_list, hu]; rfl
    have h5 : s.extract 0 (4 + 1) = str [92, 117, a, b, 125] := by rw [ext5, hu]; rfl
    rw [hu, esc_num1 h]
    cases hp : puL [b] with
    | none => exact scanNum_err s w hs 4 (by rw [hu]; exact h) (.inl rfl) (by rw [hsz]; simp) hE (by rw [hm]; exact hp)
    | some n =>
      have := scanNum_ok s w hs 4 n (by rw [hu]; exact h) (.inl rfl) (by rw [hsz]; simp) hT (by rw [hm]; exact hp)
      rw [h5] at this
      have e : (srV (((some n).bind fun n => if shR n = [92, 117, a, b, 125] then some n else none).map fun c => (c, (shR c).length))) = if str (shR n) = str [92, 117, a, b, 125] then Value.tuple #[.int .i32 (n : Int), .int .i64 ((4 + 1 : Nat) : Int)] else .tuple #[.int .i32 0, .int .i64 0] := by
        by_cases hc : shR n = [92, 117, a, b, 125]
        · simp [hc, srV]
        · rw [if_neg (fun e => hc (str_inj e))]
          simp [hc, srV]
      rw [e]
      exact this
  · have hm : (s.extract 3 5).data.toList = [b, c] := by rw [mid_list, hu]; rfl
    have h6 : s.extract 0 (5 + 1) = str [92, 117, a, b, c, 125] := by rw [ext5, hu]; rfl
    rw [hu, esc_num2 h]
    cases hp : puL [b, c] with
    | none => exact scanNum_err s w hs 5 (by rw [hu]; exact h) (.inr rfl) (by rw [hsz]; simp) hE (by rw [hm]; exact hp)
    | some n =>
      have := scanNum_ok s w hs 5 n (by rw [hu]; exact h) (.inr rfl) (by rw [hsz]; simp) hT (by rw [hm]; exact hp)
      rw [h6] at this
      have e : (srV (((some n).bind fun n => if shR n = [92, 117, a, b, c, 125] then some n else none).map fun c => (c, (shR c).length))) = if str (shR n) = str [92, 117, a, b, c, 125] then Value.tuple #[.int .i32 (n : Int), .int .i64 ((5 + 1 : Nat) : Int)] else .tuple #[.int .i32 0, .int .i64 0] := by
        by_cases hc : shR n = [92, 117, a, b, c, 125]
        · simp [hc, srV]
        · rw [if_neg (fun e => hc (str_inj e))]
          simp [hc, srV]
      rw [e]
      exact this
theorem gN_list (s : ByteArray) (i : Nat) (h : i < s.size) : gN s i = (s.data.toList.getD i 0).toNat := by
  rw [← gN_of s i h, List.getD_eq_getElem?_getD, List.getElem?_eq_getElem (by rw [← Lib.size_eq]; exact h)]
  rfl
set_option maxRecDepth 100000 in
set_option maxHeartbeats 2000000 in
theorem scanEscape_any (s : ByteArray) (w : World) (hs : s.size ≤ 140737488355328) (hh : s.data.toList.head? = some 92) (hT : T16 w) (hE : ES w) :
    Calls Tryd.prog 47 #[.string s] w fun e w' => e = .returned (srV ((escL s.data.toList).map fun c => (c, (shR c).length))) ∧ Below w.heap.size w w' := by
  have hse : s.size = s.data.toList.length := Lib.size_eq s
  obtain ⟨l', hl⟩ : ∃ t, s.data.toList = 92 :: t := by
    cases e : s.data.toList with
    | nil => rw [e] at hh; cases hh
    | cons b t => rw [e] at hh; simp only [List.head?_cons, Option.some.injEq] at hh; exact ⟨t, by rw [hh]⟩
  rw [hl]
  cases l' with
  | nil =>
    rw [hl] at hse
    have hd : decide ((s.size : Int) < 2) = true := by rw [hse]; rfl
    rw [esc_one]
    clear hl hse hh
    go_enter Tryd.func47, Tryd.ntmps47
    go_wp2
    go_ret2
    exact ⟨rfl, Below.refl _ _⟩
  | cons b t =>
    rw [hl] at hse
    have hd : decide ((s.size : Int) < 2) = false := by rw [hse]; simp only [List.length_cons, decide_eq_false_iff_not]; omega
    have h1 : 1 < s.size := by rw [hse]; simp
    have h1' : (1 : Int) < s.size := by omega
    have hg := gN_of s 1 h1
    have hb : gN s 1 = b.toNat := by rw [gN_list s 1 h1, hl]; rfl
    have hlt := gN_lt s 1
    have HB : Hid (gN s 1 = b.toNat) := hb
    have key : ∀ x : UInt8, b = x ∨ ((gN s 1 : Int) == (x.toNat : Int)) = false := fun x => by
      by_cases e : b = x
      · exact .inl e
      · refine .inr ?_
        rw [beq_eq_false_iff_ne, HB.out]
        intro h
        exact e (UInt8.toNat_inj.1 (by omega))
    have k1 := key 34
    have k2 := key 92
    have k3 := key 110
    have k4 := key 116
    have k5 := key 114
    have k6 := key 117
    have HN : Hid (b = 117 → Calls Tryd.prog 60 #[.string s] w fun e w' => e = .returned (srV ((escL s.data.toList).map fun c => (c, (shR c).length))) ∧ Below w.heap.size w w') := fun e => scanNum_any s t w hs (by rw [hl, e]) hT hE
    rw [hl] at HN
    clear hl hse hh hb key
    rcases k1 with rfl | k1
    · have e34 : gN s 1 = 34 := HB.out
      rw [e34] at hg
      rw [esc_q]
      clear HN HB e34 hlt k2 k3 k4 k5 k6
      go_enter Tryd.func47, Tryd.ntmps47
      go_wp2
      go_ret2
      exact ⟨rfl, Below.refl _ _⟩
    rcases k2 with rfl | k2
    · have e34 : gN s 1 = 92 := HB.out
      rw [e34] at hg
      rw [esc_b]
      clear HN HB e34 hlt k1 k3 k4 k5 k6
      go_enter Tryd.func47, Tryd.ntmps47
      go_wp2
      go_ret2
      exact ⟨rfl, Below.refl _ _⟩
    rcases k3 with rfl | k3
    · have e34 : gN s 1 = 110 := HB.out
      rw [e34] at hg
      rw [esc_n]
      clear HN HB e34 hlt k1 k2 k4 k5 k6
      go_enter Tryd.func47, Tryd.ntmps47
      go_wp2
      go_ret2
      exact ⟨rfl, Below.refl _ _⟩
    rcases k4 with rfl | k4
    · have e34 : gN s 1 = 116 := HB.out
      rw [e34] at hg
      rw [esc_t]
      clear HN HB e34 hlt k1 k2 k3 k5 k6
      go_enter Tryd.func47, Tryd.ntmps47
      go_wp2
      go_ret2
      exact ⟨rfl, Below.refl _ _⟩
    rcases k5 with rfl | k5
    · have e34 : gN s 1 = 114 := HB.out
      rw [e34] at hg
      rw [esc_r]
      clear HN HB e34 hlt k1 k2 k3 k4 k6
      go_enter Tryd.func47, Tryd.ntmps47
      go_wp2
      go_ret2
      exact ⟨rfl, Below.refl _ _⟩
    rcases k6 with rfl | k6
    · have e34 : gN s 1 = 117 := HB.out
      rw [e34] at hg
      have HN2 := HN.out rfl
      cases hX : escL (92 :: 117 :: t) with
      | none =>
        rw [hX] at HN2
        have HN3 : Hid (Calls Tryd.prog 60 #[.string s] w fun e w' => e = .returned (.tuple #[.int .i32 0, .int .i64 0]) ∧ Below w.heap.size w w') := HN2
        clear HN HB e34 hlt k1 k2 k3 k4 k5 HN2 hX
        go_enter Tryd.func47, Tryd.ntmps47
        go_wp2_with fail
        refine (Calls.mono HN3.out) ?_
        rintro e w1 ⟨rfl, hb1⟩
        go_wp2
        go_ret2
        exact ⟨rfl, hb1⟩
      | some c =>
        rw [hX] at HN2
        have HN3 : Hid (Calls Tryd.prog 60 #[.string s] w fun e w' => e = .returned (.tuple #[.int .i32 (c : Int), .int .i64 ((shR c).length : Int)]) ∧ Below w.heap.size w w') := HN2
        clear HN HB e34 hlt k1 k2 k3 k4 k5 HN2 hX
        go_enter Tryd.func47, Tryd.ntmps47
        go_wp2_with fail
        refine (Calls.mono HN3.out) ?_
        rintro e w1 ⟨rfl, hb1⟩
        go_wp2
        go_ret2
        exact ⟨rfl, hb1⟩
    · have HE : Hid (escL (92 :: b :: t) = none) := by
        have hne : ∀ x : UInt8, ((gN s 1 : Int) == (x.toNat : Int)) = false → b ≠ x := fun x h e => by
          rw [beq_eq_false_iff_ne] at h
          exact h (by rw [HB.out, e])
        exact esc_other (hne 34 k1) (hne 92 k2) (hne 110 k3) (hne 116 k4) (hne 114 k5) (hne 117 k6)
      rw [HE.out]
      simp only [show (34 : UInt8).toNat = 34 from rfl, show (92 : UInt8).toNat = 92 from rfl, show (110 : UInt8).toNat = 110 from rfl, show (116 : UInt8).toNat = 116 from rfl, show (114 : UInt8).toNat = 114 from rfl, show (117 : UInt8).toNat = 117 from rfl] at k1 k2 k3 k4 k5 k6
      have k1' : ((gN s 1 : Int) == 34) = false := k1
      have k2' : ((gN s 1 : Int) == 92) = false := k2
      have k3' : ((gN s 1 : Int) == 110) = false := k3
      have k4' : ((gN s 1 : Int) == 116) = false := k4
      have k5' : ((gN s 1 : Int) == 114) = false := k5
      have k6' : ((gN s 1 : Int) == 117) = false := k6
      clear HN HB k1 k2 k3 k4 k5 k6 HE
      generalize gN s 1 = y at *
      go_enter Tryd.func47, Tryd.ntmps47
      go_wp2
      go_ret2
      exact ⟨rfl, Below.refl _ _⟩
end Go.Proofs.YtdendpckihckeaaDoor
/- strings.Builder's WriteRune of any rune: its walk. -/
namespace Go.Proofs.YtdendpckihckeaaDoor
open Go.RowKit

theorem encRune_is {c : Nat} (hs : scal c) : Lib.encodeRune (c : Int) = enc c := by
  by_cases h1 : c < 128
  · rw [enc1 h1, Lib.encodeRune, Lib.encodeRuneZ_one (by omega) (by omega)]; simp
  by_cases h2 : c < 2048
  · rw [enc2 (by omega) h2, Lib.encodeRune, Lib.encodeRuneZ_two (by omega) (by omega)]
    simp only [List.map_cons, List.map_nil]
    congr 1
  by_cases h3 : c < 65536
  · rw [enc3 (by omega) h3 hs, Lib.encodeRune, Lib.encodeRuneZ_three (by unfold scal at hs; omega)]
    simp only [List.map_cons, List.map_nil]
    congr 1
  · rw [enc4 (by omega) hs, Lib.encodeRune, Lib.encodeRuneZ_four (by omega) (by unfold scal at hs; omega)]
    simp only [List.map_cons, List.map_nil]
    congr 1
theorem cells_rune {c : Nat} (hs : scal c) : Lib.runeCells (c : Int) = Lib.byteCells (enc c) := by rw [← Lib.byteCells_encodeRune, encRune_is hs]
theorem appendRune_any (B : Nat) (v : Value) (n : Nat) (xs : List Value) (c : Nat) (w : World) (hs : scal c) (hown : w.ownsRowF B 5 1 v n xs) (hlen : n + 4 ≤ 140737488355328) (hBw : B ≤ w.heap.size) :
    Calls Tryd.prog 50 #[v, .int .i32 (c : Int)] w fun e w' => ArPost B (xs ++ Lib.byteCells (enc c)) w e w' := by
  have hc : c ≤ 1114111 := by unfold scal at hs; omega
  have hxl : xs.length = n := by have := hown.1; omega
  refine (Tryd.utf8_AppendRune_row B v n xs c (by omega) (by omega) w hown hlen hBw).mono ?_
  rintro e w' ⟨v', rfl, ho, o, hg⟩
  rw [cells_rune hs] at ho
  refine ⟨v', rfl, ?_, ((Below.refl _ _).alloc hBw _).grown hg (by simp; omega) (fun k hk => (hown.lt k hk).1), ((Lib.OthersKept.refl _ _ _).alloc _).grown hg (fun g hg' => by obtain ⟨c, fz, h⟩ := rowF_cells hown g hg'; exact ⟨c, fz, by rw [Lib.alloc_old w _ g (Array.getElem?_eq_some_iff.1 h).1]; exact h⟩)⟩
  rw [List.length_append, hxl]
  exact ho
set_option maxRecDepth 100000 in
set_option maxHeartbeats 2000000 in
theorem writeRune_any (B b : Nat) (bs : List Value) (c : Nat) (w : World) (hsc : scal c) (h : IsB B b bs w) (hlen : bs.length + 4 ≤ 140737488355328) (hBw : B ≤ w.heap.size) :
    Calls Tryd.prog 33 #[.pointer (some ⟨b, 0, none⟩), .int .i32 (c : Int)] w fun e w' => e = .returned (.tuple #[.int .i64 (enc c).length, .nilIface]) ∧ IsB B b (bs ++ Lib.byteCells (enc c)) w' ∧ Below B w w' ∧ Lib.OthersKept 5 (some b) w w' := by
  have HA : Hid (∀ v W, W.ownsRowF B 5 1 v bs.length bs → B ≤ W.heap.size → Calls Tryd.prog 50 #[v, .int .i32 (c : Int)] W fun e w' => ArPost B (bs ++ Lib.byteCells (enc c)) W e w') := fun v W ho hB => appendRune_any B v bs.length bs c W hsc ho hlen hB
  have hel := enc_len4 c
  have hel1 := enc_len c
  have hll : (bs ++ Lib.byteCells (enc c)).length = bs.length + (enc c).length := by rw [List.length_append, Lib.byteCells_length]
  generalize hX : Lib.byteCells (enc c) = X at *
  generalize hm : (enc c).length = m at *
  clear hX hm
  go_enter Tryd.func33, Tryd.ntmps33
  go_wp2_with (go_at_call 49; refine (copyCheck_any B b bs _ h).mono ?_)
  rintro e w1 ⟨rfl, h1, hb1, ok1⟩
  obtain ⟨hB, v, hbk, hown, hne⟩ := h1
  have c0 : w1.cell? ⟨b, 0, none⟩ = some (.pointer (some ⟨b, 0, none⟩)) := by rw [Lib.cell_of_heap hbk]; rfl
  have c1 : w1.cell? ⟨b, 1, none⟩ = some v := by rw [Lib.cell_of_heap hbk]; rfl
  obtain ⟨ao, cap, rfl⟩ : ∃ ao cap, v = .slice ao bs.length cap := by
    rcases hown.2 with ⟨hv, h0⟩ | ⟨g, cap, cur, fz, hv, _⟩
    · exact ⟨none, 0, by rw [h0]; exact hv⟩
    · exact ⟨_, _, hv⟩
  have hs1 := hb1.size
  go_wp2_with fail
  refine (HA.out _ _ hown (by omega)).mono ?_
  rintro e w2 ⟨v', rfl, hown', hb2, ok2⟩
  rw [hll] at hown'
  have hb2k : w2.heap[b]? = some (.cells #[.pointer (some ⟨b, 0, none⟩), .slice ao bs.length cap] 63 (0, 0)) := ok2 b _ hbk (by simp) (fun c fz e => by cases e)
  have d0 : w2.cell? ⟨b, 0, none⟩ = some (.pointer (some ⟨b, 0, none⟩)) := by rw [Lib.cell_of_heap hb2k]; rfl
  have d1 : w2.cell? ⟨b, 1, none⟩ = some (.slice ao bs.length cap) := by rw [Lib.cell_of_heap hb2k]; rfl
  have f1 : w2.frozen? ⟨b, 1, none⟩ = false := Lib.frozen_of_heap hb2k 1
  obtain ⟨g, cap', rfl⟩ : ∃ g cap', v' = .slice (some ⟨g, 0, none⟩) (bs.length + m) cap' := by
    rcases hown'.2 with ⟨_, h0⟩ | ⟨g, cap, cur, fz, hv, _⟩
    · omega
    · exact ⟨g, cap, hv⟩
  have HR : Hid (IsB B b (bs ++ X) (w2.setCell ⟨b, 1, none⟩ (.slice (some ⟨g, 0, none⟩) (bs.length + m) cap')) ∧ Below B w (w2.setCell ⟨b, 1, none⟩ (.slice (some ⟨g, 0, none⟩) (bs.length + m) cap')) ∧ Lib.OthersKept 5 (some b) w (w2.setCell ⟨b, 1, none⟩ (.slice (some ⟨g, 0, none⟩) (bs.length + m) cap'))) := by
    refine ⟨.inr (Lib.BuilderAtF.put (T := 63) (e := 5) hB hb2k (by rw [hll]; exact hown') (by decide)), (hb1.trans hb2).setCell (p := ⟨b, 1, none⟩) hB _, Lib.OthersKept.setCell (b := b) (ok1.trans (fun k o hk _ ho => ok2 k o hk (by simp) ho)) ⟨b, 1, none⟩ rfl _⟩
  clear hown' hown hb2 ok2 hbk hne HA hll
  go_wp2
  go_ret2
  refine ⟨by simp; omega, HR.out.1, HR.out.2.1, HR.out.2.2⟩
end Go.Proofs.YtdendpckihckeaaDoor
/- value.scanInt at the examples: walks. -/
namespace Go.Proofs.YtdendpckihckeaaDoor
open Go.RowKit

theorem results_cell3 {fn : Func} {p u v : Tmp} {ty : TypeId} (h : fn.results = #[.cell p ty, .tmp u, .tmp v]) (tmps : Array Value) (P : Program) (w : World) :
    (results fn tmps).run P w =
      ((asAddr (tmps.getD p undef)).run P w).andThen fun a w₁ => ((loadVar ty a).run P w₁).andThen fun x w₂ => .ok (.tuple #[x, tmps.getD u undef, tmps.getD v undef]) w₂ := by
  simp only [results, h]
  simp [Sem.run_bind, Result.andThen]
abbrev v0 : Value := vv 0 0 ⟨#[]⟩
theorem ascii10 : ∀ (j : Nat) b, (⟨#[48, 49, 50, 51, 52, 53, 54, 55, 56, 57]⟩ : ByteArray).data.toList[j]? = some b → b.toNat < 128 := by
  intro j b h
  have hm : b ∈ [48, 49, 50, 51, 52, 53, 54, 55, 56, 57] := List.mem_of_getElem? h
  simp at hm
  rcases hm with rfl | rfl | rfl | rfl | rfl | rfl | rfl | rfl | rfl | rfl <;> decide
set_option maxRecDepth 100000 in
set_option maxHeartbeats 1000000 in
theorem scanInt_1 (w : World) :
    Calls Tryd.prog 24 #[.string ⟨#[45, 48]⟩] w fun e w' => e = .returned (.tuple #[v0, .string ⟨#[]⟩, .int .i64 3]) ∧ Below w.heap.size w w' := by
  have hb0 : Below w.heap.size w (w.alloc (.cells #[.int .i64 0, .int .i64 0, .string ⟨#[]⟩] 33)) := (Below.refl _ _).alloc (Nat.le_refl _) _
  go_enter Tryd.func24, Tryd.ntmps24
  go_wp2_with fail
  refine (Tryd.strings_CutPrefix _ _ _).mono ?_
  rintro e w1 ⟨rfl, rfl⟩
  rw [show (Lib.trimPrefix (⟨#[45, 48]⟩ : ByteArray).data.toList (⟨#[45]⟩ : ByteArray).data.toList) = [48] from rfl, show Lib.hasPrefix (⟨#[45, 48]⟩ : ByteArray).data.toList (⟨#[45]⟩ : ByteArray).data.toList = true from rfl]
  go_wp2_with fail
  refine (Tryd.strings_TrimLeft _ _ _ (by decide) ascii10).mono ?_
  rintro e w2 ⟨rfl, hb2⟩
  rw [show (Lib.trimLeftS (⟨[48].toArray⟩ : ByteArray).data.toList (⟨#[48, 49, 50, 51, 52, 53, 54, 55, 56, 57]⟩ : ByteArray).data.toList) = [] from by decide +kernel]
  obtain ⟨cc, ff, hb3, hlt⟩ := part_cells0 hb2
  have c0 := cc 0
  have c1 := cc 1
  have c2 := cc 2
  have f0 := ff 0
  have f1 := ff 1
  have f2 := ff 2
  simp at c0 c1 c2
  have hx : (⟨#[48]⟩ : ByteArray).extract 0 1 = ⟨#[48]⟩ := by decide
  clear hb2 cc ff
  go_wp2
  try simp only [Exit.inBlock, Exit.then]
  refine bodyPost_ret (v := .tuple #[v0, .string ⟨#[]⟩, .int .i64 3]) ?_ rfl ⟨rfl, ?_⟩
  · rw [results_cell3 rfl]; go_simp
  · exact ((hb3.setCell (p := ⟨w.heap.size, 0, none⟩) (Nat.le_refl _) _).setCell (p := ⟨w.heap.size, 1, none⟩) (Nat.le_refl _) _).setCell (p := ⟨w.heap.size, 2, none⟩) (Nat.le_refl _) _
set_option maxRecDepth 100000 in
set_option maxHeartbeats 1000000 in
theorem scanInt_2 (w : World) :
    Calls Tryd.prog 24 #[.string ⟨#[48, 48, 55]⟩] w fun e w' => e = .returned (.tuple #[v0, .string ⟨#[]⟩, .int .i64 3]) ∧ Below w.heap.size w w' := by
  have hb0 : Below w.heap.size w (w.alloc (.cells #[.int .i64 0, .int .i64 0, .string ⟨#[]⟩] 33)) := (Below.refl _ _).alloc (Nat.le_refl _) _
  go_enter Tryd.func24, Tryd.ntmps24
  go_wp2_with fail
  refine (Tryd.strings_CutPrefix _ _ _).mono ?_
  rintro e w1 ⟨rfl, rfl⟩
  rw [show (Lib.trimPrefix (⟨#[48, 48, 55]⟩ : ByteArray).data.toList (⟨#[45]⟩ : ByteArray).data.toList) = [48, 48, 55] from rfl, show Lib.hasPrefix (⟨#[48, 48, 55]⟩ : ByteArray).data.toList (⟨#[45]⟩ : ByteArray).data.toList = false from rfl]
  go_wp2_with fail
  refine (Tryd.strings_TrimLeft _ _ _ (by decide) ascii10).mono ?_
  rintro e w2 ⟨rfl, hb2⟩
  rw [show (Lib.trimLeftS (⟨[48, 48, 55].toArray⟩ : ByteArray).data.toList (⟨#[48, 49, 50, 51, 52, 53, 54, 55, 56, 57]⟩ : ByteArray).data.toList) = [] from by decide +kernel]
  obtain ⟨cc, ff, hb3, hlt⟩ := part_cells0 hb2
  have c0 := cc 0
  have c1 := cc 1
  have c2 := cc 2
  have f0 := ff 0
  have f1 := ff 1
  have f2 := ff 2
  simp at c0 c1 c2
  have hx : (⟨#[48, 48, 55]⟩ : ByteArray).extract 0 3 = ⟨#[48, 48, 55]⟩ := by decide
  clear hb2 cc ff
  go_wp2
  try simp only [Exit.inBlock, Exit.then]
  refine bodyPost_ret (v := .tuple #[v0, .string ⟨#[]⟩, .int .i64 3]) ?_ rfl ⟨rfl, ?_⟩
  · rw [results_cell3 rfl]; go_simp
  · exact ((hb3.setCell (p := ⟨w.heap.size, 0, none⟩) (Nat.le_refl _) _).setCell (p := ⟨w.heap.size, 1, none⟩) (Nat.le_refl _) _).setCell (p := ⟨w.heap.size, 2, none⟩) (Nat.le_refl _) _

theorem ix0 : Lib.indexByte (⟨#[48, 49, 50, 51, 52, 53, 54, 55, 56, 57, 97, 98, 99, 100, 101, 102]⟩ : ByteArray).data.toList (Int.toNat 48).toUInt8 = 0 := by decide +kernel
theorem ix15 : Lib.indexByte (⟨#[48, 49, 50, 51, 52, 53, 54, 55, 56, 57, 97, 98, 99, 100, 101, 102]⟩ : ByteArray).data.toList (Int.toNat 102).toUInt8 = 15 := by decide +kernel
abbrev HX : ByteArray := ⟨#[48, 49, 50, 51, 52, 53, 54, 55, 56, 57, 97, 98, 99, 100, 101, 102]⟩
theorem idx0 (c : Int) (w : World) (hc : c = 48) : Calls Tryd.prog 27 #[.string HX, .int .u8 c] w fun e w' => e = .returned (.int .i64 0) ∧ w' = w := by
  subst hc
  have := Tryd.strings_IndexByte HX 48 w
  rw [ix0] at this
  exact this
theorem idx15 (c : Int) (w : World) (hc : c = 102) : Calls Tryd.prog 27 #[.string HX, .int .u8 c] w fun e w' => e = .returned (.int .i64 15) ∧ w' = w := by
  subst hc
  have := Tryd.strings_IndexByte HX 102 w
  rw [ix15] at this
  exact this
theorem cut1 : Lib.cut (⟨#[48, 48, 102, 102, 39]⟩ : ByteArray).data.toList (⟨#[39]⟩ : ByteArray).data.toList = ([48, 48, 102, 102], [], true) := by decide +kernel
def ML (w : World) : Prop := ∃ m, w.cell? ⟨2, 0, none⟩ = some (.int .i64 m)
theorem ML_below {w w' : World} (h : ML w) (hb : Below w.heap.size w w') : ML w' := by
  obtain ⟨m, hm⟩ := h
  exact ⟨m, (hb.cell (p := ⟨2, 0, none⟩) (World.block_lt_of_cell? _ _ hm)).trans hm⟩
def sbB (k : Nat) : Int := if k < 2 then 0 else 255
/-- What holds of scanBytes' loop at every round, at the example. -/
def SbRel (b g : Nat) (w0 : World) (i : Value) (wr : World) : Prop :=
  ∃ k : Nat, k ≤ 2 ∧ i = .int .i64 k ∧ wr.cell? ⟨g, 0, none⟩ = some (.int .u8 0) ∧ wr.cell? ⟨g, 1, none⟩ = some (.int .u8 (sbB k)) ∧ wr.frozen? ⟨g, 0, none⟩ = false ∧ wr.frozen? ⟨g, 1, none⟩ = false ∧ (wr.cell? ⟨b, 0, none⟩ = some (.int .i64 0) ∧ wr.cell? ⟨b, 1, none⟩ = some (.int .i64 0) ∧ wr.cell? ⟨b, 2, none⟩ = some (.string ⟨#[]⟩)) ∧ (wr.frozen? ⟨b, 0, none⟩ = false ∧ wr.frozen? ⟨b, 1, none⟩ = false ∧ wr.frozen? ⟨b, 2, none⟩ = false) ∧ Below b w0 wr
theorem mk2 (W : World) : (Instr.makeSlice 22 (.int .i64 2) (.int .i64 2)).run Tryd.prog W = .ok (.slice (some ⟨W.heap.size, 0, none⟩) 2 2) (W.alloc (.cells #[.int .u8 0, .int .u8 0] 5)) := by
  obtain ⟨i0, hi, hz0, hz1, hz2⟩ := info_parts info_u8
  have := run_makeSlice (P := Tryd.prog) W 22 5 i0 _ Tryd.underlying22 hi hz0 .i64 .i64 2 2 (by decide) (by decide) (by rw [hz1]; decide) (by rw [hz2]; decide) (by decide)
  rw [hz1] at this
  have e : madeCells (Value.int .u8 0).cells (Int.toNat 2 * 1) = #[.int .u8 0, .int .u8 0] := by
    simp [madeCells, Value.cells, Array.range]
    rfl
  rw [e] at this
  exact this
theorem Sb_step {b g : Nat} {w0 wr : World} {k : Nat} (h : SbRel b g w0 (.int .i64 (k : Int)) wr) (hbg : b < g) (hk : k < 2) (x : Int) (hx : x = if k = 0 then 0 else 255) :
    SbRel b g w0 (.int .i64 ((k + 1 : Nat) : Int)) (wr.setCell ⟨g, k, none⟩ (.int .u8 x)).drew := by
  obtain ⟨k', hk', he, d0, d1, e0, e1, ⟨c0, c1, c2⟩, ⟨f0, f1, f2⟩, hb⟩ := h
  obtain rfl : k' = k := by simp at he; omega
  have o : ∀ j i, (⟨g, i, none⟩ : Addr) ≠ ⟨b, j, none⟩ := fun j i e => by have h1 : g = b := congrArg Addr.block e; omega
  refine ⟨k' + 1, by omega, rfl, ?_, ?_, ?_, ?_, ⟨?_, ?_, ?_⟩, ⟨?_, ?_, ?_⟩, (hb.setCell (p := ⟨g, k', none⟩) (Nat.le_of_lt hbg) _).drew⟩
  · rw [World.cell?_drew]
    by_cases h0 : k' = 0
    · subst h0
      rw [World.cell?_setCell_same _ _ _ d0, hx]
      rfl
    · rw [World.cell?_setCell_other _ _ _ _ (fun e => h0 (by have h1 : k' = 0 := congrArg Addr.off e; omega))]
      exact d0
  · rw [World.cell?_drew]
    by_cases h0 : k' = 0
    · subst h0
      rw [World.cell?_setCell_other _ _ _ _ (by simp)]
      exact d1
    · obtain rfl : k' = 1 := by omega
      rw [World.cell?_setCell_same _ _ _ d1, hx]
      rfl
  · simpa using e0
  · simpa using e1
  · rw [World.cell?_drew, World.cell?_setCell_other _ _ _ _ (o 0 k')]; exact c0
  · rw [World.cell?_drew, World.cell?_setCell_other _ _ _ _ (o 1 k')]; exact c1
  · rw [World.cell?_drew, World.cell?_setCell_other _ _ _ _ (o 2 k')]; exact c2
  · simpa using f0
  · simpa using f1
  · simpa using f2
theorem conv2 (w : World) (g : Nat) (h0 : w.cell? ⟨g, 0, none⟩ = some (.int .u8 0)) (h1 : w.cell? ⟨g, 1, none⟩ = some (.int .u8 255)) : (convert 22 9 (.slice (some ⟨g, 0, none⟩) 2 2)).run Tryd.prog w = .ok (.string (strOfNums [0, 255])) w :=
  run_convert_bytes_arg (P := Tryd.prog) w 22 5 Tryd.underlying22 Tryd.underlying5 g 0 2 2 [0, 255] rfl (fun i hi => by
    match i, hi with
    | 0, _ => simpa using h0
    | 1, _ => simpa using h1) 9 Tryd.underlying9
set_option maxRecDepth 100000 in
set_option maxHeartbeats 2000000 in
theorem scanBytes_1 (w : World) (hM : ML w) :
    Calls Tryd.prog 22 #[.string ⟨#[48, 48, 102, 102, 39]⟩] w fun e w' => e = .returned (.tuple #[vv 4 0 ⟨#[0, 255]⟩, .string ⟨#[]⟩, .int .i64 0]) ∧ Below w.heap.size w w' := by
  have hb0 : Below w.heap.size w (w.alloc (.cells #[.int .i64 0, .int .i64 0, .string ⟨#[]⟩] 33)) := (Below.refl _ _).alloc (Nat.le_refl _) _
  obtain ⟨m, hm⟩ := ML_below hM hb0
  go_enter Tryd.func22, Tryd.ntmps22
  go_wp2_with fail
  refine (Tryd.strings_Cut _ _ m _ (by decide) hm).mono ?_
  rintro e w1 ⟨rfl, n, hw1⟩
  rw [cut1]
  obtain ⟨cc, ff, hb1, hlt⟩ := part_cells0 (w := w) (C := #[.int .i64 0, .int .i64 0, .string ⟨#[]⟩]) (t := 33) (w1 := w1) (by rw [hw1]; exact ⟨rfl, rfl, rfl, Nat.le_refl _, fun _ _ => rfl⟩)
  clear hw1 hm hb0
  go_wp2
  rw [mk2]
  have hA := (Below.refl w1.heap.size w1).alloc (Nat.le_refl _) (.cells #[.int .u8 0, .int .u8 0] 5)
  have hne : w.heap.size ≠ w1.heap.size := by omega
  go_wp2
  go_loopw [3, 32] (fun r i wr => r = .string ⟨#[]⟩ ∧ SbRel w.heap.size w1.heap.size w i wr) (fun _ i _ => 2 - (RowKit.intOf i).toNat)
  case atStart =>
    refine ⟨rfl, 0, by decide, rfl, by simp, by simp [sbB], by simp, by simp, ⟨?_, ?_, ?_⟩, ⟨?_, ?_, ?_⟩, hb1.alloc (by omega) _⟩
    · exact (hA.cell (p := ⟨w.heap.size, 0, none⟩) hlt).trans (cc 0)
    · exact (hA.cell (p := ⟨w.heap.size, 1, none⟩) hlt).trans (cc 1)
    · exact (hA.cell (p := ⟨w.heap.size, 2, none⟩) hlt).trans (cc 2)
    · exact (hA.frozen (p := ⟨w.heap.size, 0, none⟩) hlt).trans (ff 0)
    · exact (hA.frozen (p := ⟨w.heap.size, 1, none⟩) hlt).trans (ff 1)
    · exact (hA.frozen (p := ⟨w.heap.size, 2, none⟩) hlt).trans (ff 2)
  case round =>
    have HREL : Hid (SbRel w.heap.size w1.heap.size w u32 wr) := hrel.2
    obtain ⟨rfl, k, hk, rfl, d0, d1, e0, e1, ⟨c0, c1, c2⟩, ⟨f0, f1, f2⟩, hb⟩ := hrel
    have hk3 : k = 0 ∨ k = 1 ∨ k = 2 := by omega
    rcases hk3 with rfl | rfl | rfl
    · go_wp2
      go_region_held3 (fun w' => True) (trivial) (first | (go_at_call 27; refine (idx0 _ _ ?_).mono ?_; rfl; rintro e w' ⟨rfl, rfl⟩) | (go_at_call 27; refine (idx15 _ _ ?_).mono ?_; rfl; rintro e w' ⟨rfl, rfl⟩))
      all_goals go_wp2
      all_goals exact ⟨⟨rfl, Sb_step (k := 0) HREL.out hlt (by decide) _ (by decide +kernel)⟩, by decide⟩
    · go_wp2
      go_region_held3 (fun w' => True) (trivial) (first | (go_at_call 27; refine (idx0 _ _ ?_).mono ?_; rfl; rintro e w' ⟨rfl, rfl⟩) | (go_at_call 27; refine (idx15 _ _ ?_).mono ?_; rfl; rintro e w' ⟨rfl, rfl⟩))
      all_goals go_wp2
      all_goals exact ⟨⟨rfl, Sb_step (k := 1) HREL.out hlt (by decide) _ (by decide +kernel)⟩, by decide⟩
    · have d1' : wr.cell? ⟨w1.heap.size, 1, none⟩ = some (.int .u8 255) := d1
      have hcv := conv2 wr w1.heap.size d0 d1'
      have hst : strOfNums [0, 255] = ⟨#[0, 255]⟩ := rfl
      rw [hst] at hcv
      go_wp2
      try simp only [Exit.inBlock, Exit.then]
      refine bodyPost_ret (v := .tuple #[vv 4 0 ⟨#[0, 255]⟩, .string ⟨#[]⟩, .int .i64 0]) ?_ rfl ⟨rfl, ?_⟩
      · rw [results_cell3 rfl]; go_simp
      · exact ((hb.setCell (p := ⟨w.heap.size, 0, none⟩) (Nat.le_refl _) _).setCell (p := ⟨w.heap.size, 1, none⟩) (Nat.le_refl _) _).setCell (p := ⟨w.heap.size, 2, none⟩) (Nat.le_refl _) _
end Go.Proofs.YtdendpckihckeaaDoor
/- value.scanRune and scanText at the examples, Scan, Parse; the law's awake: walks. -/
namespace Go.Proofs.YtdendpckihckeaaDoor
open Go.RowKit

theorem T16_drew {w : World} (h : T16 w) : T16 w.drew := h
theorem sr97 : str (showR 97) = ⟨#[97]⟩ := by decide +kernel
theorem srFF : str (showR 65533) = ⟨#[239, 191, 189]⟩ := by decide +kernel
theorem dec97 : Lib.decodeGo ⟨#[97]⟩ = (97, 1) := by decide +kernel
theorem dec0 : Lib.decodeGo ⟨#[]⟩ = (65533, 0) := by decide +kernel
theorem showRune_97 (w : World) (hT : T16 w) : Calls Tryd.prog 48 #[.int .i32 97] w fun e w' => e = .returned (.string ⟨#[97]⟩) ∧ Below w.heap.size w w' := by
  have := showRune_any 97 w (by unfold scal; omega) (by omega) hT
  rw [sr97] at this
  exact this
theorem showRune_FF (w : World) (hT : T16 w) : Calls Tryd.prog 48 #[.int .i32 65533] w fun e w' => e = .returned (.string ⟨#[239, 191, 189]⟩) ∧ Below w.heap.size w w' := by
  have := showRune_any 65533 w (by unfold scal; omega) (by omega) hT
  rw [srFF] at this
  exact this
set_option maxRecDepth 100000 in
set_option maxHeartbeats 2000000 in
theorem scanRune_a (w : World) (hT : T16 w) (hU : UT w) :
    Calls Tryd.prog 32 #[.string ⟨#[97]⟩] w fun e w' => e = .returned (.tuple #[.int .i32 97, .int .i64 1]) ∧ Below w.heap.size w w' := by
  have hx : (⟨#[97]⟩ : ByteArray).extract 0 1 = ⟨#[97]⟩ := by decide
  go_enter Tryd.func32, Tryd.ntmps32
  go_wp2_with fail
  refine (Tryd.strings_HasPrefix _ _ _).mono ?_
  rintro e w1 ⟨rfl, rfl⟩
  rw [show Lib.hasPrefix (⟨#[97]⟩ : ByteArray).data.toList (⟨#[92]⟩ : ByteArray).data.toList = false from by decide]
  go_wp2_with fail
  refine (Tryd.utf8_DecodeRuneInString _ _ hU).mono ?_
  rintro e w2 ⟨rfl, hb2⟩
  rw [dec97]
  have hT2 := T16_below hT hb2
  go_wp2
  go_region_held3 (fun w' => True) (trivial) (first | (go_at_call 48; refine (showRune_97 _ ?_).mono ?_; exact T16_drew hT2; rintro e w' ⟨rfl, hb3⟩))
  all_goals go_wp2
  all_goals go_ret2
  all_goals exact ⟨rfl, hb2.trans ((Below.drew (Below.refl _ _)).trans (hb3.mono (by have := hb2.size; simpa using this)))⟩
set_option maxRecDepth 100000 in
set_option maxHeartbeats 2000000 in
theorem scanRune_e (w : World) (hT : T16 w) (hU : UT w) :
    Calls Tryd.prog 32 #[.string ⟨#[]⟩] w fun e w' => e = .returned (.tuple #[.int .i32 0, .int .i64 0]) ∧ Below w.heap.size w w' := by
  have hx : (⟨#[]⟩ : ByteArray).extract 0 0 = ⟨#[]⟩ := by decide
  go_enter Tryd.func32, Tryd.ntmps32
  go_wp2_with fail
  refine (Tryd.strings_HasPrefix _ _ _).mono ?_
  rintro e w1 ⟨rfl, rfl⟩
  rw [show Lib.hasPrefix (⟨#[]⟩ : ByteArray).data.toList (⟨#[92]⟩ : ByteArray).data.toList = false from by decide]
  go_wp2_with fail
  refine (Tryd.utf8_DecodeRuneInString _ _ hU).mono ?_
  rintro e w2 ⟨rfl, hb2⟩
  rw [dec0]
  have hT2 := T16_below hT hb2
  go_wp2
  go_region_held3 (fun w' => True) (trivial) (first | (go_at_call 48; refine (showRune_FF _ ?_).mono ?_; exact T16_drew hT2; rintro e w' ⟨rfl, hb3⟩))
  all_goals go_wp2
  all_goals go_ret2
  all_goals exact ⟨rfl, hb2.trans ((Below.drew (Below.refl _ _)).trans (hb3.mono (by have := hb2.size; simpa using this)))⟩
end Go.Proofs.YtdendpckihckeaaDoor
