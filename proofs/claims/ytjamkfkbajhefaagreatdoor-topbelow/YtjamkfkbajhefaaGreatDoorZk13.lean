/- value.scanNumbered, scanEscape, scanRune at any text: walks. -/
import Derived.Test.YtjamkfkbajhefaaGreatDoorZk12
import Derived.Test.YtjamkfkbajhefaaGreatDoorZk8
import Derived.Deep.RegionHeld3
import Derived.Test.YtjamkfkbajhefaaGreatDoorZk6
import Derived.Test.YtjamkfkbajhefaaGreatDoorZk11
namespace Go.Proofs.YtjamkfkbajhefaaGreatDoor.V
open Go.RowKit

/-- What scanning a rune hands back. -/
def srV : Option (Nat × Nat) → Value
  | some p => .tuple #[.int .i32 (p.1 : Int), .int .i64 (p.2 : Int)]
  | none => .tuple #[.int .i32 0, .int .i64 0]
/-- What the variable of syntax errors holds. -/
def ES (w : World) : Prop := ∃ ev, w.cell? ⟨6, 0, none⟩ = some ev ∧ (ev = .nilIface ∨ ∃ te pe, ev = .iface te pe)
theorem ES_below {w w' : World} (h : ES w) (hb : Below w.heap.size w w') : ES w' := by
  obtain ⟨ev, h1, h2⟩ := h
  exact ⟨ev, (hb.cell (p := ⟨6, 0, none⟩) (World.block_lt_of_cell? _ _ h1)).trans h1, h2⟩
theorem parseUint_ok (t : ByteArray) (n : Nat) (w : World) (h1 : t.size ≠ 0) (h2 : t.size ≤ 2) (h : puL t.data.toList = some n) :
    Calls Tryz.prog 202 #[.string t, .int .i64 16, .int .i64 8] w fun e w' => e = .returned (.tuple #[.int .u64 (n : Int), .nilIface]) ∧ Below w.heap.size w w' := by
  have hp : puVal (puG 0 t.data.toList) = .tuple #[.int .u64 (n : Int), .nilIface] := by
    rw [puG_puL (by rw [← Lib.size_eq]; exact h1) (by rw [← Lib.size_eq]; exact h2), h]; rfl
  clear h
  go_enter Tryz.func202, Tryz.ntmps202
  go_wp2_with fail
  refine (parseUint_i t _ h1 h2).mono ?_
  rintro e w1 ⟨rfl, hb1⟩
  rw [hp]
  clear hp
  go_wp2
  go_ret2
  exact ⟨rfl, hb1⟩
/-- A syntax error. -/
def NoPost (w : World) (e : Ending) (w' : World) : Prop := (∃ q, e = .returned (.tuple #[.int .u64 0, .iface 260 (.pointer q)])) ∧ Below w.heap.size w w'
theorem parseUint_no (t : ByteArray) (w : World) (hE : ES w) (h1 : t.size ≠ 0) (h2 : t.size ≤ 2) (h : puL t.data.toList = none) :
    Calls Tryz.prog 202 #[.string t, .int .i64 16, .int .i64 8] w fun e w' => NoPost w e w' := by
  have hp : puVal (puG 0 t.data.toList) = .tuple #[.int .u64 0, .iface 258 (.int .i64 2)] := by
    rw [puG_puL (by rw [← Lib.size_eq]; exact h1) (by rw [← Lib.size_eq]; exact h2), h]; rfl
  clear h
  go_enter Tryz.func202, Tryz.ntmps202
  go_wp2_with fail
  refine (parseUint_i t _ h1 h2).mono ?_
  rintro e w1 ⟨rfl, hb1⟩
  rw [hp]
  clear hp
  obtain ⟨ev, e1, e2⟩ := ES_below hE hb1
  have HE : Hid (w1.cell? ⟨6, 0, none⟩ = some ev) := e1
  have HF : Hid (ev = .nilIface ∨ ∃ te pe, ev = .iface te pe) := e2
  clear e1 e2
  go_wp2_with fail
  refine (Tryz.strconv_toError_syntax _ _ _ _ ev _ (by omega) HE.out HF.out).mono ?_
  rintro e w2 ⟨N, rfl, -, -, hb2⟩
  have hB2 : Hid (Below w.heap.size w w2) := hb1.trans (hb2.mono hb1.size)
  clear hb2 HE HF
  go_wp2
  go_ret2
  exact ⟨⟨_, rfl⟩, hB2.out⟩
theorem take_list (s : ByteArray) (m : Nat) : (s.extract 0 m).data.toList = s.data.toList.take m := by
  rw [Lib.extract_data]
  simp
theorem mid_list (s : ByteArray) (a b : Nat) : (s.extract a b).data.toList = (s.data.toList.drop a).take (b - a) := Lib.extract_data ..
theorem beq_str (a b : ByteArray) : (a.toList == b.toList) = decide (a = b) := by
  rw [Bool.eq_iff_iff, beq_iff_eq, decide_eq_true_eq, ByteArray.toList_eq, ByteArray.toList_eq]
  exact ⟨ba_eq, fun h => by rw [h]⟩
theorem bneq_str {a b : ByteArray} (h : ¬ a = b) : (!a.toList == b.toList) = true := by rw [beq_str, decide_eq_false h]; rfl
theorem SN_call {w0 W w' : World} (hb : Below W.heap.size W w') (h : T16 W ∧ Below w0.heap.size w0 W) : T16 w' ∧ Below w0.heap.size w0 w' := ⟨T16_below h.1 hb, h.2.trans (hb.mono h.2.size)⟩
theorem SN_drew {w0 W : World} (h : T16 W ∧ Below w0.heap.size w0 W) : T16 W.drew ∧ Below w0.heap.size w0 W.drew := ⟨h.1, h.2.drew⟩
theorem min6 (s : ByteArray) : (s.extract 0 (min (s.size : Int) 6).toNat).data.toList = s.data.toList.take 6 := by
  rw [take_list]
  by_cases h : s.size ≤ 6
  · rw [show (min (s.size : Int) 6).toNat = s.size by omega, List.take_of_length_le (by rw [← Lib.size_eq]; exact Nat.le_refl _), List.take_of_length_le (by rw [← Lib.size_eq]; exact h)]
  · rw [show (min (s.size : Int) 6).toNat = 6 by omega]
theorem ixb_any (s : ByteArray) (w : World) : Calls Tryz.prog 123 #[.string (s.extract 0 (min (s.size : Int) 6).toNat), .int .u8 125] w fun e w' => e = .returned (.int .i64 (Lib.indexByte (s.data.toList.take 6) 125)) ∧ w' = w := by
  have := Tryz.strings_IndexByte (s.extract 0 (min (s.size : Int) 6).toNat) 125 w
  rw [min6] at this
  exact this
set_option maxRecDepth 100000 in
set_option maxHeartbeats 2000000 in
theorem scanNum_no (s : ByteArray) (w : World) (hs : s.size ≤ 140737488355328) (hJ : Lib.indexByte (s.data.toList.take 6) 125 < 4) :
    Calls Tryz.prog 187 #[.string s] w fun e w' => e = .returned (.tuple #[.int .i32 0, .int .i64 0]) ∧ Below w.heap.size w w' := by
  have hge := Lib.indexByte_ge (s.data.toList.take 6) 125
  have HI : Hid (∀ w, Calls Tryz.prog 123 #[.string (s.extract 0 (min (s.size : Int) 6).toNat), .int .u8 125] w fun e w' => e = .returned (.int .i64 (Lib.indexByte (s.data.toList.take 6) 125)) ∧ w' = w) := fun w => ixb_any s w
  generalize Lib.indexByte (s.data.toList.take 6) 125 = J at *
  go_enter Tryz.func187, Tryz.ntmps187
  go_wp2_with fail
  refine (HI.out _).mono ?_
  rintro e w1 ⟨rfl, rfl⟩
  go_wp2
  go_ret2
  exact ⟨rfl, Below.refl _ _⟩
set_option maxRecDepth 100000 in
set_option maxHeartbeats 2000000 in
theorem scanNum_err (s : ByteArray) (w : World) (hs : s.size ≤ 140737488355328) (J : Nat) (hJ : Lib.indexByte (s.data.toList.take 6) 125 = (J : Int)) (h4 : J = 4 ∨ J = 5) (hz : J < s.size) (hE : ES w) (hp : puL (s.extract 3 J).data.toList = none) :
    Calls Tryz.prog 187 #[.string s] w fun e w' => e = .returned (.tuple #[.int .i32 0, .int .i64 0]) ∧ Below w.heap.size w w' := by
  have HI : Hid (∀ w, Calls Tryz.prog 123 #[.string (s.extract 0 (min (s.size : Int) 6).toNat), .int .u8 125] w fun e w' => e = .returned (.int .i64 (J : Int)) ∧ w' = w) := fun w => by rw [← hJ]; exact ixb_any s w
  have hms : (s.extract 3 J).size = J - 3 := by rw [ByteArray.size_extract]; omega
  have HP : Hid (∀ w, ES w → Calls Tryz.prog 202 #[.string (s.extract 3 J), .int .i64 16, .int .i64 8] w fun e w' => NoPost w e w') := fun w h => parseUint_no _ w h (by omega) (by omega) hp
  have hz' : (J : Int) ≤ s.size := by omega
  clear hJ hp hms
  rcases h4 with rfl | rfl
  all_goals
    go_enter Tryz.func187, Tryz.ntmps187
    go_wp2_with fail
    refine (HI.out _).mono ?_
    rintro e w1 ⟨rfl, rfl⟩
    go_wp2_with fail
    refine (HP.out _ hE).mono ?_
    rintro e w2 ⟨⟨q, rfl⟩, hb2⟩
    go_wp2
    go_region
    all_goals go_wp2
    all_goals go_ret2
    all_goals exact ⟨rfl, by first | assumption | exact Below.drew (by assumption)⟩
set_option maxRecDepth 100000 in
set_option maxHeartbeats 2000000 in
theorem scanNum_ok (s : ByteArray) (w : World) (hs : s.size ≤ 140737488355328) (J n : Nat) (hJ : Lib.indexByte (s.data.toList.take 6) 125 = (J : Int)) (h4 : J = 4 ∨ J = 5) (hz : J < s.size) (hT : T16 w) (hp : puL (s.extract 3 J).data.toList = some n) :
    Calls Tryz.prog 187 #[.string s] w fun e w' => e = .returned (if str (shR n) = s.extract 0 (J + 1) then .tuple #[.int .i32 (n : Int), .int .i64 ((J + 1 : Nat) : Int)] else .tuple #[.int .i32 0, .int .i64 0]) ∧ Below w.heap.size w w' := by
  have hn := puL_lt hp
  have HI : Hid (∀ w, Calls Tryz.prog 123 #[.string (s.extract 0 (min (s.size : Int) 6).toNat), .int .u8 125] w fun e w' => e = .returned (.int .i64 (J : Int)) ∧ w' = w) := fun w => by rw [← hJ]; exact ixb_any s w
  have hms : (s.extract 3 J).size = J - 3 := by rw [ByteArray.size_extract]; omega
  have HP : Hid (∀ w, Calls Tryz.prog 202 #[.string (s.extract 3 J), .int .i64 16, .int .i64 8] w fun e w' => e = .returned (.tuple #[.int .u64 (n : Int), .nilIface]) ∧ Below w.heap.size w w') := fun w => parseUint_ok _ n w (by omega) (by omega) hp
  have HS : Hid (∀ w, T16 w → Calls Tryz.prog 104 #[.int .i32 (n : Int)] w fun e w' => e = .returned (.string (str (shR n))) ∧ Below w.heap.size w w') := fun w h => showRune_all n w (.inl (by omega)) h
  have hz' : (J : Int) ≤ s.size := by omega
  generalize str (shR n) = Y at *
  clear hJ hp hms
  have key : ∀ (C : Bool), C = decide (Y = s.extract 0 (J + 1)) → Calls Tryz.prog 187 #[.string s] w fun e w' => e = .returned (if C = true then .tuple #[.int .i32 (n : Int), .int .i64 ((J + 1 : Nat) : Int)] else .tuple #[.int .i32 0, .int .i64 0]) ∧ Below w.heap.size w w' := by
    intro C hC
    rcases h4 with rfl | rfl
    all_goals
      have hz5 : (5 : Int) ≤ s.size := by omega
      try (have hz6 : (6 : Int) ≤ s.size := by omega)
      cases C
      · have hc : ¬ Y = s.extract 0 _ := of_decide_eq_false hC.symm
        simp only [Nat.reduceAdd] at hc
        have hq := bneq_str hc
        clear hC hc
        go_enter Tryz.func187, Tryz.ntmps187
        go_wp2_with fail
        refine (HI.out _).mono ?_
        rintro e w1 ⟨rfl, rfl⟩
        go_wp2_with fail
        refine (HP.out _).mono ?_
        rintro e w2 ⟨rfl, hb2⟩
        have hT2 : T16 w2 ∧ Below w1.heap.size w1 w2 := ⟨T16_below hT hb2, hb2⟩
        clear hb2
        go_wp2
        go_region_held3 (fun w' => T16 w' ∧ Below w1.heap.size w1 w') (first | assumption | exact SN_call (by assumption) (by assumption) | exact SN_drew (by assumption)) (first | (go_at_call 104; refine (HS.out _ ?_).mono ?_; exact (show T16 _ ∧ _ by assumption).1; rintro e w' ⟨rfl, hb⟩))
        all_goals go_wp2
        all_goals go_ret2
        all_goals exact ⟨rfl, (show T16 _ ∧ _ by assumption).2⟩
      · have hc : Y = s.extract 0 _ := of_decide_eq_true hC.symm
        simp only [Nat.reduceAdd] at hc
        clear hC
        subst hc
        go_enter Tryz.func187, Tryz.ntmps187
        go_wp2_with fail
        refine (HI.out _).mono ?_
        rintro e w1 ⟨rfl, rfl⟩
        go_wp2_with fail
        refine (HP.out _).mono ?_
        rintro e w2 ⟨rfl, hb2⟩
        have hT2 : T16 w2 ∧ Below w1.heap.size w1 w2 := ⟨T16_below hT hb2, hb2⟩
        clear hb2
        go_wp2
        go_region_held3 (fun w' => T16 w' ∧ Below w1.heap.size w1 w') (first | assumption | exact SN_call (by assumption) (by assumption) | exact SN_drew (by assumption)) (first | (go_at_call 104; refine (HS.out _ ?_).mono ?_; exact (show T16 _ ∧ _ by assumption).1; rintro e w' ⟨rfl, hb⟩))
        all_goals go_wp2
        all_goals go_ret2
        all_goals exact ⟨rfl, (show T16 _ ∧ _ by assumption).2⟩
  have := key _ rfl
  simpa using this
theorem str_inj {a b : List UInt8} (h : str a = str b) : a = b := by rw [← str_data a, h, str_data]
theorem ext5 (s : ByteArray) (m : Nat) : s.extract 0 m = str (s.data.toList.take m) := ba_eq (by rw [str_data, Lib.extract_data]; simp)
/-- scanNumbered at any text that opens with a back stroke and an u. -/
theorem scanNum_any (s : ByteArray) (u : List UInt8) (w : World) (hs : s.size ≤ 140737488355328) (hu : s.data.toList = 92 :: 117 :: u) (hT : T16 w) (hE : ES w) :
    Calls Tryz.prog 187 #[.string s] w fun e w' => e = .returned (srV ((escL s.data.toList).map fun c => (c, (shR c).length))) ∧ Below w.heap.size w w' := by
  have hsz : s.size = u.length + 2 := by rw [Lib.size_eq, hu]; rfl
  rcases ix_cases u with h | ⟨h, a, b, t, rfl⟩ | ⟨h, a, b, c, t, rfl⟩
  · rw [hu, esc_num_no h]
    exact scanNum_no s w hs (by rw [hu]; exact h)
  · have hm : (s.extract 3 4).data.toList = [b] := by rw [mid_list, hu]; rfl
    have h5 : s.extract 0 (4 + 1) = str [92, 117, a, b, 125] := by rw [ext5, hu]; rfl
    rw [hu, esc_num1 h]
    cases hp : puL [b] with
    | none => exact scanNum_err s w hs 4 (by rw [hu]; exact h) (.inl rfl) (by rw [hsz]; simp) hE (by rw [hm]; exact hp)
    | some n =>
      have := scanNum_ok s w hs 4 n (by rw [hu]; exact h) (.inl rfl) (by rw [hsz]; simp) hT (by rw [hm]; exact hp)
      rw [h5] at this
      have e : (srV (((some n).bind fun n => if shR n = [92, 117, a, b, 125] then some n else none).map fun c => (c, (shR c).length))) = if str (shR n) = str [92, 117, a, b, 125] then Value.tuple #[.int .i32 (n : Int), .int .i64 ((4 + 1 : Nat) : Int)] else .tuple #[.int .i32 0, .int .i64 0] := by
        by_cases hc : shR n = [92, 117, a, b, 125]
        · simp [hc, srV]
        · rw [if_neg (fun e => hc (str_inj e))]
          simp [hc, srV]
      rw [e]
      exact this
  · have hm : (s.extract 3 5).data.toList = [b, c] := by rw [mid_list, hu]; rfl
    have h6 : s.extract 0 (5 + 1) = str [92, 117, a, b, c, 125] := by rw [ext5, hu]; rfl
    rw [hu, esc_num2 h]
    cases hp : puL [b, c] with
    | none => exact scanNum_err s w hs 5 (by rw [hu]; exact h) (.inr rfl) (by rw [hsz]; simp) hE (by rw [hm]; exact hp)
    | some n =>
      have := scanNum_ok s w hs 5 n (by rw [hu]; exact h) (.inr rfl) (by rw [hsz]; simp) hT (by rw [hm]; exact hp)
      rw [h6] at this
      have e : (srV (((some n).bind fun n => if shR n = [92, 117, a, b, c, 125] then some n else none).map fun c => (c, (shR c).length))) = if str (shR n) = str [92, 117, a, b, c, 125] then Value.tuple #[.int .i32 (n : Int), .int .i64 ((5 + 1 : Nat) : Int)] else .tuple #[.int .i32 0, .int .i64 0] := by
        by_cases hc : shR n = [92, 117, a, b, c, 125]
        · simp [hc, srV]
        · rw [if_neg (fun e => hc (str_inj e))]
          simp [hc, srV]
      rw [e]
      exact this
theorem gN_list (s : ByteArray) (i : Nat) (h : i < s.size) : gN s i = (s.data.toList.getD i 0).toNat := by
  rw [← gN_of s i h, List.getD_eq_getElem?_getD, List.getElem?_eq_getElem (by rw [← Lib.size_eq]; exact h)]
  rfl
set_option maxRecDepth 100000 in
set_option maxHeartbeats 2000000 in
theorem scanEscape_any (s : ByteArray) (w : World) (hs : s.size ≤ 140737488355328) (hh : s.data.toList.head? = some 92) (hT : T16 w) (hE : ES w) :
    Calls Tryz.prog 165 #[.string s] w fun e w' => e = .returned (srV ((escL s.data.toList).map fun c => (c, (shR c).length))) ∧ Below w.heap.size w w' := by
  have hse : s.size = s.data.toList.length := Lib.size_eq s
  obtain ⟨l', hl⟩ : ∃ t, s.data.toList = 92 :: t := by
    cases e : s.data.toList with
    | nil => rw [e] at hh; cases hh
    | cons b t => rw [e] at hh; simp only [List.head?_cons, Option.some.injEq] at hh; exact ⟨t, by rw [hh]⟩
  rw [hl]
  cases l' with
  | nil =>
    rw [hl] at hse
    have hd : decide ((s.size : Int) < 2) = true := by rw [hse]; rfl
    rw [esc_one]
    clear hl hse hh
    go_enter Tryz.func165, Tryz.ntmps165
    go_wp2
    go_ret2
    exact ⟨rfl, Below.refl _ _⟩
  | cons b t =>
    rw [hl] at hse
    have hd : decide ((s.size : Int) < 2) = false := by rw [hse]; simp only [List.length_cons, decide_eq_false_iff_not]; omega
    have h1 : 1 < s.size := by rw [hse]; simp
    have h1' : (1 : Int) < s.size := by omega
    have hg := gN_of s 1 h1
    have hb : gN s 1 = b.toNat := by rw [gN_list s 1 h1, hl]; rfl
    have hlt := gN_lt s 1
    have HB : Hid (gN s 1 = b.toNat) := hb
    have key : ∀ x : UInt8, b = x ∨ ((gN s 1 : Int) == (x.toNat : Int)) = false := fun x => by
      by_cases e : b = x
      · exact .inl e
      · refine .inr ?_
        rw [beq_eq_false_iff_ne, HB.out]
        intro h
        exact e (UInt8.toNat_inj.1 (by omega))
    have k1 := key 34
    have k2 := key 92
    have k3 := key 110
    have k4 := key 116
    have k5 := key 114
    have k6 := key 117
    have HN : Hid (b = 117 → Calls Tryz.prog 187 #[.string s] w fun e w' => e = .returned (srV ((escL s.data.toList).map fun c => (c, (shR c).length))) ∧ Below w.heap.size w w') := fun e => scanNum_any s t w hs (by rw [hl, e]) hT hE
    rw [hl] at HN
    clear hl hse hh hb key
    rcases k1 with rfl | k1
    · have e34 : gN s 1 = 34 := HB.out
      rw [e34] at hg
      rw [esc_q]
      clear HN HB e34 hlt k2 k3 k4 k5 k6
      go_enter Tryz.func165, Tryz.ntmps165
      go_wp2
      go_ret2
      exact ⟨rfl, Below.refl _ _⟩
    rcases k2 with rfl | k2
    · have e34 : gN s 1 = 92 := HB.out
      rw [e34] at hg
      rw [esc_b]
      clear HN HB e34 hlt k1 k3 k4 k5 k6
      go_enter Tryz.func165, Tryz.ntmps165
      go_wp2
      go_ret2
      exact ⟨rfl, Below.refl _ _⟩
    rcases k3 with rfl | k3
    · have e34 : gN s 1 = 110 := HB.out
      rw [e34] at hg
      rw [esc_n]
      clear HN HB e34 hlt k1 k2 k4 k5 k6
      go_enter Tryz.func165, Tryz.ntmps165
      go_wp2
      go_ret2
      exact ⟨rfl, Below.refl _ _⟩
    rcases k4 with rfl | k4
    · have e34 : gN s 1 = 116 := HB.out
      rw [e34] at hg
      rw [esc_t]
      clear HN HB e34 hlt k1 k2 k3 k5 k6
      go_enter Tryz.func165, Tryz.ntmps165
      go_wp2
      go_ret2
      exact ⟨rfl, Below.refl _ _⟩
    rcases k5 with rfl | k5
    · have e34 : gN s 1 = 114 := HB.out
      rw [e34] at hg
      rw [esc_r]
      clear HN HB e34 hlt k1 k2 k3 k4 k6
      go_enter Tryz.func165, Tryz.ntmps165
      go_wp2
      go_ret2
      exact ⟨rfl, Below.refl _ _⟩
    rcases k6 with rfl | k6
    · have e34 : gN s 1 = 117 := HB.out
      rw [e34] at hg
      have HN2 := HN.out rfl
      cases hX : escL (92 :: 117 :: t) with
      | none =>
        rw [hX] at HN2
        have HN3 : Hid (Calls Tryz.prog 187 #[.string s] w fun e w' => e = .returned (.tuple #[.int .i32 0, .int .i64 0]) ∧ Below w.heap.size w w') := HN2
        clear HN HB e34 hlt k1 k2 k3 k4 k5 HN2 hX
        go_enter Tryz.func165, Tryz.ntmps165
        go_wp2_with fail
        refine (Calls.mono HN3.out) ?_
        rintro e w1 ⟨rfl, hb1⟩
        go_wp2
        go_ret2
        exact ⟨rfl, hb1⟩
      | some c =>
        rw [hX] at HN2
        have HN3 : Hid (Calls Tryz.prog 187 #[.string s] w fun e w' => e = .returned (.tuple #[.int .i32 (c : Int), .int .i64 ((shR c).length : Int)]) ∧ Below w.heap.size w w') := HN2
        clear HN HB e34 hlt k1 k2 k3 k4 k5 HN2 hX
        go_enter Tryz.func165, Tryz.ntmps165
        go_wp2_with fail
        refine (Calls.mono HN3.out) ?_
        rintro e w1 ⟨rfl, hb1⟩
        go_wp2
        go_ret2
        exact ⟨rfl, hb1⟩
    · have HE : Hid (escL (92 :: b :: t) = none) := by
        have hne : ∀ x : UInt8, ((gN s 1 : Int) == (x.toNat : Int)) = false → b ≠ x := fun x h e => by
          rw [beq_eq_false_iff_ne] at h
          exact h (by rw [HB.out, e])
        exact esc_other (hne 34 k1) (hne 92 k2) (hne 110 k3) (hne 116 k4) (hne 114 k5) (hne 117 k6)
      rw [HE.out]
      simp only [show (34 : UInt8).toNat = 34 from rfl, show (92 : UInt8).toNat = 92 from rfl, show (110 : UInt8).toNat = 110 from rfl, show (116 : UInt8).toNat = 116 from rfl, show (114 : UInt8).toNat = 114 from rfl, show (117 : UInt8).toNat = 117 from rfl] at k1 k2 k3 k4 k5 k6
      have k1' : ((gN s 1 : Int) == 34) = false := k1
      have k2' : ((gN s 1 : Int) == 92) = false := k2
      have k3' : ((gN s 1 : Int) == 110) = false := k3
      have k4' : ((gN s 1 : Int) == 116) = false := k4
      have k5' : ((gN s 1 : Int) == 114) = false := k5
      have k6' : ((gN s 1 : Int) == 117) = false := k6
      clear HN HB k1 k2 k3 k4 k5 k6 HE
      generalize gN s 1 = y at *
      go_enter Tryz.func165, Tryz.ntmps165
      go_wp2
      go_ret2
      exact ⟨rfl, Below.refl _ _⟩
end Go.Proofs.YtjamkfkbajhefaaGreatDoor.V
/- strings.Builder's WriteRune of any rune: its walk. -/
namespace Go.Proofs.YtjamkfkbajhefaaGreatDoor.V
open Go.RowKit

theorem encRune_is {c : Nat} (hs : scal c) : Lib.encodeRune (c : Int) = enc c := by
  by_cases h1 : c < 128
  · rw [enc1 h1, Lib.encodeRune, Lib.encodeRuneZ_one (by omega) (by omega)]; simp
  by_cases h2 : c < 2048
  · rw [enc2 (by omega) h2, Lib.encodeRune, Lib.encodeRuneZ_two (by omega) (by omega)]
    simp only [List.map_cons, List.map_nil]
    congr 1
  by_cases h3 : c < 65536
  · rw [enc3 (by omega) h3 hs, Lib.encodeRune, Lib.encodeRuneZ_three (by unfold scal at hs; omega)]
    simp only [List.map_cons, List.map_nil]
    congr 1
  · rw [enc4 (by omega) hs, Lib.encodeRune, Lib.encodeRuneZ_four (by omega) (by unfold scal at hs; omega)]
    simp only [List.map_cons, List.map_nil]
    congr 1
theorem cells_rune {c : Nat} (hs : scal c) : Lib.runeCells (c : Int) = Lib.byteCells (enc c) := by rw [← Lib.byteCells_encodeRune, encRune_is hs]
theorem appendRune_any (B : Nat) (v : Value) (n : Nat) (xs : List Value) (c : Nat) (w : World) (hs : scal c) (hown : w.ownsRowF B 5 1 v n xs) (hlen : n + 4 ≤ 140737488355328) (hBw : B ≤ w.heap.size) :
    Calls Tryz.prog 166 #[v, .int .i32 (c : Int)] w fun e w' => ArPost B (xs ++ Lib.byteCells (enc c)) w e w' := by
  have hc : c ≤ 1114111 := by unfold scal at hs; omega
  have hxl : xs.length = n := by have := hown.1; omega
  refine (Tryz.utf8_AppendRune_row B v n xs c (by omega) (by omega) w hown hlen hBw).mono ?_
  rintro e w' ⟨v', rfl, ho, o, hg⟩
  rw [cells_rune hs] at ho
  refine ⟨v', rfl, ?_, ((Below.refl _ _).alloc hBw _).grown hg (by simp; omega) (fun k hk => (hown.lt k hk).1), ((Lib.OthersKept.refl _ _ _).alloc _).grown hg (fun g hg' => by obtain ⟨c, fz, h⟩ := rowF_cells hown g hg'; exact ⟨c, fz, by rw [Lib.alloc_old w _ g (Array.getElem?_eq_some_iff.1 h).1]; exact h⟩)⟩
  rw [List.length_append, hxl]
  exact ho
set_option maxRecDepth 100000 in
set_option maxHeartbeats 2000000 in
theorem writeRune_any (B b : Nat) (bs : List Value) (c : Nat) (w : World) (hsc : scal c) (h : IsB B b bs w) (hlen : bs.length + 4 ≤ 140737488355328) (hBw : B ≤ w.heap.size) :
    Calls Tryz.prog 136 #[.pointer (some ⟨b, 0, none⟩), .int .i32 (c : Int)] w fun e w' => e = .returned (.tuple #[.int .i64 (enc c).length, .nilIface]) ∧ IsB B b (bs ++ Lib.byteCells (enc c)) w' ∧ Below B w w' ∧ Lib.OthersKept 5 (some b) w w' := by
  have HA : Hid (∀ v W, W.ownsRowF B 5 1 v bs.length bs → B ≤ W.heap.size → Calls Tryz.prog 166 #[v, .int .i32 (c : Int)] W fun e w' => ArPost B (bs ++ Lib.byteCells (enc c)) W e w') := fun v W ho hB => appendRune_any B v bs.length bs c W hsc ho hlen hB
  have hel := enc_len4 c
  have hel1 := enc_len c
  have hll : (bs ++ Lib.byteCells (enc c)).length = bs.length + (enc c).length := by rw [List.length_append, Lib.byteCells_length]
  generalize hX : Lib.byteCells (enc c) = X at *
  generalize hm : (enc c).length = m at *
  clear hX hm
  go_enter Tryz.func136, Tryz.ntmps136
  go_wp2_with (go_at_call 70; refine (copyCheck_any B b bs _ h).mono ?_)
  rintro e w1 ⟨rfl, h1, hb1, ok1⟩
  obtain ⟨hB, v, hbk, hown, hne⟩ := h1
  have c0 : w1.cell? ⟨b, 0, none⟩ = some (.pointer (some ⟨b, 0, none⟩)) := by rw [Lib.cell_of_heap hbk]; rfl
  have c1 : w1.cell? ⟨b, 1, none⟩ = some v := by rw [Lib.cell_of_heap hbk]; rfl
  obtain ⟨ao, cap, rfl⟩ : ∃ ao cap, v = .slice ao bs.length cap := by
    rcases hown.2 with ⟨hv, h0⟩ | ⟨g, cap, cur, fz, hv, _⟩
    · exact ⟨none, 0, by rw [h0]; exact hv⟩
    · exact ⟨_, _, hv⟩
  have hs1 := hb1.size
  go_wp2_with fail
  refine (HA.out _ _ hown (by omega)).mono ?_
  rintro e w2 ⟨v', rfl, hown', hb2, ok2⟩
  rw [hll] at hown'
  have hb2k : w2.heap[b]? = some (.cells #[.pointer (some ⟨b, 0, none⟩), .slice ao bs.length cap] 89 (0, 0)) := ok2 b _ hbk (by simp) (fun c fz e => by cases e)
  have d0 : w2.cell? ⟨b, 0, none⟩ = some (.pointer (some ⟨b, 0, none⟩)) := by rw [Lib.cell_of_heap hb2k]; rfl
  have d1 : w2.cell? ⟨b, 1, none⟩ = some (.slice ao bs.length cap) := by rw [Lib.cell_of_heap hb2k]; rfl
  have f1 : w2.frozen? ⟨b, 1, none⟩ = false := Lib.frozen_of_heap hb2k 1
  obtain ⟨g, cap', rfl⟩ : ∃ g cap', v' = .slice (some ⟨g, 0, none⟩) (bs.length + m) cap' := by
    rcases hown'.2 with ⟨_, h0⟩ | ⟨g, cap, cur, fz, hv, _⟩
    · omega
    · exact ⟨g, cap, hv⟩
  have HR : Hid (IsB B b (bs ++ X) (w2.setCell ⟨b, 1, none⟩ (.slice (some ⟨g, 0, none⟩) (bs.length + m) cap')) ∧ Below B w (w2.setCell ⟨b, 1, none⟩ (.slice (some ⟨g, 0, none⟩) (bs.length + m) cap')) ∧ Lib.OthersKept 5 (some b) w (w2.setCell ⟨b, 1, none⟩ (.slice (some ⟨g, 0, none⟩) (bs.length + m) cap'))) := by
    refine ⟨.inr (Lib.BuilderAtF.put (T := 89) (e := 5) hB hb2k (by rw [hll]; exact hown') (by decide)), (hb1.trans hb2).setCell (p := ⟨b, 1, none⟩) hB _, Lib.OthersKept.setCell (b := b) (ok1.trans (fun k o hk _ ho => ok2 k o hk (by simp) ho)) ⟨b, 1, none⟩ rfl _⟩
  clear hown' hown hb2 ok2 hbk hne HA hll
  go_wp2
  go_ret2
  refine ⟨by simp; omega, HR.out.1, HR.out.2.1, HR.out.2.2⟩
end Go.Proofs.YtjamkfkbajhefaaGreatDoor.V
/- value.scanInt at any text: its walk. -/
namespace Go.Proofs.YtjamkfkbajhefaaGreatDoor.V
open Go.RowKit

/-- What scanning a literal hands back. -/
def scV (x : Sc) : Value := .tuple #[vv x.k x.n (str x.s), .string (str x.r), .int .i64 x.e]
theorem trim_digs (l : List UInt8) : Lib.trimLeftS l (⟨#[48, 49, 50, 51, 52, 53, 54, 55, 56, 57]⟩ : ByteArray).data.toList = l.dropWhile isD := by
  unfold Lib.trimLeftS
  congr 1
  funext b
  exact (isD_mem b).symm
theorem ext_str (s : ByteArray) (m : Nat) : s.extract 0 m = str (s.data.toList.take m) := ba_eq (by rw [str_data, Lib.extract_data]; simp)
theorem ext_from (s : ByteArray) (m : Nat) : s.extract m s.size = str (s.data.toList.drop m) := ba_eq (by
  rw [str_data, Lib.extract_data]
  apply List.take_of_length_le
  rw [List.length_drop, Array.length_toList]
  exact Nat.le_refl _)
theorem digs_len (l : List UInt8) : l.length = (digs l).length + (l.dropWhile isD).length := by
  conv => lhs; rw [← digs_app l]
  rw [List.length_append]
theorem digs_take (l : List UInt8) : l.take (digs l).length = digs l := by
  conv => lhs; rw [← digs_app l]
  rw [List.take_left' (by rw [digs_app])]
theorem gN_str (l : List UInt8) (i : Nat) (h : i < l.length) : gN (str l) i = (l.getD i 0).toNat := by
  have hs : i < (str l).size := by rw [str_size]; exact h
  rw [← gN_of (str l) i hs]
  show ((l.toArray)[i]'_).toNat = _
  rw [List.getD_eq_getElem?_getD, List.getElem?_eq_getElem h]
  rfl
theorem head_getD {l : List UInt8} (h : l ≠ []) : l.head? = some (l.getD 0 0) := by
  cases l with
  | nil => exact absurd rfl h
  | cons b t => rfl
/-- The frame of a scanner behind its calls: the result's cells, and what was there before. -/
structure Fr (w w2 : World) : Prop where
  z : Zero w.heap.size w2
  b : Below w.heap.size w w2
theorem Fr.of {w w2 : World} (hb : Below (wv w).heap.size (wv w) w2) : Fr w w2 := ⟨(Zero.new w).below hb (by simp), (wv_below w).trans (hb.mono (by simp))⟩
set_option maxRecDepth 100000 in
set_option maxHeartbeats 4000000 in
theorem scanInt_any (s : ByteArray) (w : World) (hs : s.size ≤ 1000000) :
    Calls Tryz.prog 122 #[.string s] w fun e w' => e = .returned (scV (scI (Lib.hasPrefix s.data.toList [45]) (Lib.trimPrefix s.data.toList [45]))) ∧ Below w.heap.size w w' := by
  have hTl : (Lib.trimPrefix s.data.toList [45]).length ≤ 1000000 := by
    unfold Lib.trimPrefix
    split
    · rw [List.length_drop, ← Lib.size_eq]; omega
    · rw [← Lib.size_eq]; exact hs
  have HCP : Hid (∀ w : World, Calls Tryz.prog 140 #[.string s, .string ⟨#[45]⟩] w fun e w' => e = .returned (.tuple #[.string ⟨(Lib.trimPrefix s.data.toList [45]).toArray⟩, .bool (Lib.hasPrefix s.data.toList [45])]) ∧ w' = w) := fun w => Tryz.strings_CutPrefix s ⟨#[45]⟩ w
  generalize Lib.hasPrefix s.data.toList [45] = neg at *
  generalize Lib.trimPrefix s.data.toList [45] = l at *
  have HTL : Hid (∀ w : World, Calls Tryz.prog 141 #[.string ⟨l.toArray⟩, .string ⟨#[48, 49, 50, 51, 52, 53, 54, 55, 56, 57]⟩] w fun e w' => e = .returned (.string (str (l.dropWhile isD))) ∧ Below w.heap.size w w') := fun w => by
    have := Tryz.strings_TrimLeft ⟨l.toArray⟩ ⟨#[48, 49, 50, 51, 52, 53, 54, 55, 56, 57]⟩ w (by decide) ascii10
    rw [trim_digs] at this
    exact this
  have hdl := digs_len l
  have hDz : (str (digs l)).size = (digs l).length := str_size _
  have hx : (⟨l.toArray⟩ : ByteArray).extract 0 (str (digs l)).size = str (digs l) := by
    rw [ext_str, str_size]
    exact congrArg str (digs_take l)
  have hR : (str (l.dropWhile isD)).size = (l.dropWhile isD).length := str_size _
  have h1 : wrap64 ((l.length : Int) - ((str (l.dropWhile isD)).size : Int)) = ((str (digs l)).size : Int) := by
    rw [hR, hDz, hdl]; unfold wrap64; omega
  have h2 : ((str (digs l)).size : Int) ≤ l.length := by rw [hDz]; omega
  have HRS : Hid (str (l.dropWhile isD) = str (l.drop (digs l).length)) := by show _ = _; rw [digs_drop]
  have hall := digs_all l
  have HX : Hid (scI neg l = if digs l = [] ∨ ((digs l).head? = some 48 ∧ (neg = true ∨ 1 < (digs l).length)) then .bad 3 else if 16 < (digs l).length ∨ 9007199254740991 < numOf (digs l) then .bad 2
      else ⟨1, if neg = true then -(numOf (digs l) : Int) else numOf (digs l), [], l.drop (digs l).length, 0⟩) := rfl
  generalize hDD : str (digs l) = D at *
  have hD0 : D.size ≠ 0 → gN D 0 = ((digs l).getD 0 0).toNat := fun h => by
    rw [← hDD, gN_str _ _ (by rw [← hDz]; omega)]
  have HDD : Hid (str (digs l) = D) := hDD
  have HDz : Hid (D.size = (digs l).length) := hDz
  clear hDD hDz hdl
  generalize str (l.dropWhile isD) = R at *
  clear hR
  by_cases c0 : D.size = 0
  · have he := empty_is D c0
    have HE : Hid (scI neg l = .bad 3) := by
      show _ = _
      rw [HX.out, if_pos (.inl (List.eq_nil_of_length_eq_zero (by have := HDz.out; omega)))]
    clear HX hall hD0 HDD HRS HDz c0
    go_enter Tryz.func122, Tryz.ntmps122
    go_wp2_with fail
    refine (HCP.out _).mono ?_
    rintro e w1 ⟨rfl, rfl⟩
    go_wp2_with fail
    refine (HTL.out _).mono ?_
    rintro e w2 ⟨rfl, hb2⟩
    have HF : Hid (Fr w w2) := Fr.of hb2
    obtain ⟨⟨d0, d1, d2, f0, f1, f2⟩, -⟩ := HF.out
    clear hb2
    go_wp2
    try simp only [Exit.inBlock, Exit.then]
    exact bodyPost_ret (results_v3 rfl _ _ w.heap.size rfl (HF.out.z.three.set _ _ _)) rfl ⟨by rw [HE.out]; rfl, set3_below HF.out.b _ _ _⟩
  have he := empty_not D c0
  have hpos : 0 < D.size := by omega
  have hpos' : (0 : Int) < D.size := by omega
  have hg := gN_of D 0 hpos
  have hg0 := hD0 c0
  have hne : digs l ≠ [] := fun e => c0 (by rw [HDz.out, e]; rfl)
  have hhd := head_getD hne
  have hb0 := hall ((digs l).getD 0 0) (by
    cases e : digs l with
    | nil => exact absurd e hne
    | cons b t => simp)
  have hg48 : (digs l).head? = some 48 ↔ gN D 0 = 48 := by
    rw [hhd, hg0]
    constructor
    · intro h; rw [Option.some.inj h]; rfl
    · intro h; exact congrArg some (UInt8.toNat_inj.1 h)
  have hlt0 := gN_lt D 0
  generalize gN D 0 = g at *
  have HG : Hid ((digs l).head? = some 48 ↔ g = 48) := hg48
  clear hg48 hg0 hD0 hhd hb0
  by_cases cz : g = 48 ∧ (neg = true ∨ 1 < D.size)
  · have HE : Hid (scI neg l = .bad 3) := by
      show _ = _
      rw [HX.out, if_pos (.inr ⟨HG.out.2 cz.1, by rw [← HDz.out]; exact cz.2⟩)]
    obtain ⟨rfl, cz⟩ := cz
    have cc : neg = true ∨ (neg = false ∧ decide ((1 : Int) < D.size) = true) := by
      cases neg
      · exact .inr ⟨rfl, by simp at cz ⊢; omega⟩
      · exact .inl rfl
    clear HX hall HDD HRS HDz c0 HG cz hne
    rcases cc with rfl | ⟨rfl, cc⟩
    all_goals
      go_enter Tryz.func122, Tryz.ntmps122
      go_wp2_with fail
      refine (HCP.out _).mono ?_
      rintro e w1 ⟨rfl, rfl⟩
      go_wp2_with fail
      refine (HTL.out _).mono ?_
      rintro e w2 ⟨rfl, hb2⟩
      have HF : Hid (Fr w w2) := Fr.of hb2
      obtain ⟨⟨d0, d1, d2, f0, f1, f2⟩, -⟩ := HF.out
      clear hb2
      go_wp2
      try simp only [Exit.inBlock, Exit.then]
      exact bodyPost_ret (results_v3 rfl _ _ w.heap.size rfl (HF.out.z.three.set _ _ _)) rfl ⟨by rw [HE.out]; rfl, set3_below HF.out.b _ _ _⟩
  have HNF : Hid (¬ (digs l = [] ∨ ((digs l).head? = some 48 ∧ (neg = true ∨ 1 < (digs l).length)))) := by
    rintro (e | ⟨e, f⟩)
    · exact hne e
    · exact cz ⟨HG.out.1 e, by rw [HDz.out]; exact f⟩
  have cc : ((g : Int) == 48) = false ∨ (g = 48 ∧ neg = false ∧ decide ((1 : Int) < D.size) = false) := by
    by_cases e : g = 48
    · refine .inr ⟨e, ?_, ?_⟩
      · cases hn : neg
        · rfl
        · exact absurd ⟨e, .inl hn⟩ cz
      · simp only [decide_eq_false_iff_not]
        intro h
        exact cz ⟨e, .inr (by omega)⟩
    · exact .inl (by rw [beq_eq_false_iff_ne]; omega)
  have Hcc : Hid (digs l ≠ []) := hne
  clear cz HG hne
  by_cases c16 : 16 < D.size
  · have d16 : decide ((16 : Int) < D.size) = true := by simp; omega
    have HE : Hid (scI neg l = .bad 2) := by
      show _ = _
      rw [HX.out, if_neg HNF.out, if_pos (.inl (by rw [← HDz.out]; exact c16))]
    clear HX hall HDD HRS HDz c0 HNF Hcc
    rcases cc with cc | ⟨rfl, rfl, cc⟩
    all_goals
      go_enter Tryz.func122, Tryz.ntmps122
      go_wp2_with fail
      refine (HCP.out _).mono ?_
      rintro e w1 ⟨rfl, rfl⟩
      go_wp2_with fail
      refine (HTL.out _).mono ?_
      rintro e w2 ⟨rfl, hb2⟩
      have HF : Hid (Fr w w2) := Fr.of hb2
      obtain ⟨⟨d0, d1, d2, f0, f1, f2⟩, -⟩ := HF.out
      clear hb2
      go_wp2
      try simp only [Exit.inBlock, Exit.then]
      exact bodyPost_ret (results_v3 rfl _ _ w.heap.size rfl (HF.out.z.three.set _ _ _)) rfl ⟨by rw [HE.out]; rfl, set3_below HF.out.b _ _ _⟩
  have d16 : decide ((16 : Int) < D.size) = false := by simp; omega
  have HAT : Hid (∀ k, k < D.size → gN D k = ((digs l).getD k 0).toNat ∧ isD ((digs l).getD k 0) = true ∧ numOf ((digs l).take (k + 1)) = 10 * numOf ((digs l).take k) + (((digs l).getD k 0).toNat - 48)) := fun k hk => by
    have hk' : k < (digs l).length := by rw [← HDz.out]; exact hk
    have hgd : (digs l).getD k 0 = (digs l)[k]'hk' := by rw [List.getD_eq_getElem?_getD, List.getElem?_eq_getElem hk']; rfl
    refine ⟨by rw [← HDD.out, gN_str _ _ hk'], ?_, ?_⟩
    · rw [hgd]; exact hall _ (List.getElem_mem hk')
    · rw [← List.take_append_getElem hk', numOf_snoc, hgd]
  have HNT : Hid (∀ k, k ≤ D.size → numOf ((digs l).take k) < 10 ^ 16) := fun k hk => by
    have h3 := numOf_lt ((digs l).take k).length ((digs l).take k) rfl (fun b hb => hall b (List.mem_of_mem_take hb))
    refine Nat.lt_of_lt_of_le h3 (Nat.pow_le_pow_right (by decide) ?_)
    rw [List.length_take]
    omega
  have HLast : Hid (numOf ((digs l).take D.size) = numOf (digs l)) := by
    show _ = _
    rw [HDz.out, List.take_length]
  have HE : Hid (scI neg l = if 9007199254740991 < numOf (digs l) then .bad 2 else ⟨1, if neg = true then -(numOf (digs l) : Int) else numOf (digs l), [], l.drop (digs l).length, 0⟩) := by
    show _ = _
    rw [HX.out, if_neg HNF.out]
    by_cases hM : 9007199254740991 < numOf (digs l)
    · rw [if_pos (.inr hM), if_pos hM]
    · rw [if_neg (fun h => h.elim (fun h => c16 (by rw [HDz.out]; exact h)) hM), if_neg hM]
  clear HX hall HNF Hcc c16 c0
  rcases cc with cc | ⟨rfl, rfl, cc⟩
  all_goals
    go_enter Tryz.func122, Tryz.ntmps122
    go_wp2_with fail
    refine (HCP.out _).mono ?_
    rintro e w1 ⟨rfl, rfl⟩
    go_wp2_with fail
    refine (HTL.out _).mono ?_
    rintro e w2 ⟨rfl, hb2⟩
    have HF : Hid (Fr w w2) := Fr.of hb2
    obtain ⟨⟨d0, d1, d2, f0, f1, f2⟩, -⟩ := HF.out
    clear hb2
    go_wp2_with fail
    go_loop [7, 45] (fun n i => ∃ (k : Nat) (a : Int), k ≤ D.size ∧ i = .int .i64 k ∧ n = .int .i64 a ∧ Hid (a = (numOf ((digs l).take k) : Nat))) (fun _ i => D.size - (intOf i).toNat)
    case atStart => exact ⟨0, 0, Nat.zero_le _, rfl, rfl, rfl⟩
    case round =>
      obtain ⟨k, a, hk, rfl, rfl, HA⟩ := hrel
      have hA := HA.out
      have hN := HNT.out k hk
      have a0 : 0 ≤ a := by omega
      have a1 : a < 10000000000000000 := by omega
      clear hA hN
      by_cases hkn : k < D.size
      · obtain ⟨e1, e2, e3⟩ := HAT.out k hkn
        simp only [isD, decide_eq_true_eq] at e2
        have hi : (k : Int) < D.size := by omega
        have hgk := gN_of D k hkn
        have hg48 : 48 ≤ gN D k := by omega
        have hg57 : gN D k ≤ 57 := by omega
        have HS : Hid (10 * a + ((gN D k : Int) - 48) = (numOf ((digs l).take (k + 1)) : Nat)) := by
          show _ = _
          rw [e3, HA.out, e1]
          omega
        clear e1 e2 e3
        generalize gN D k = y at *
        go_wp2
        refine ⟨⟨k + 1, 10 * a + ((y : Int) - 48), by omega, (by first | rfl | (congr 1; omega)), (by first | rfl | (congr 1; omega)), HS⟩, by simp [intOf]; omega⟩
      · obtain rfl : k = D.size := by omega
        have hAL : a = (numOf (digs l) : Nat) := by rw [HA.out, HLast.out]
        by_cases hM : 9007199254740991 < numOf (digs l)
        · have dM : decide ((9007199254740991 : Int) < a) = true := by simp; omega
          have HE2 : Hid (scI _ l = .bad 2) := HE.out.trans (if_pos hM)
          clear hAL hM HA HE
          go_wp2
          try simp only [Exit.inBlock, Exit.then]
          exact bodyPost_ret (results_v3 rfl _ _ w.heap.size rfl (HF.out.z.three.set _ _ _)) rfl ⟨by rw [HE2.out]; rfl, set3_below HF.out.b _ _ _⟩
        · have dM : decide ((9007199254740991 : Int) < a) = false := by simp; omega
          have hE2 := HE.out.trans (if_neg hM)
          rw [← hAL] at hE2
          have HE2 : Hid (scI _ l = ⟨1, if _ = true then -a else a, [], l.drop (digs l).length, 0⟩) := hE2
          have HV : Hid (R = str (l.drop (digs l).length)) := HRS.out
          have a2 : a ≤ 9007199254740991 := by omega
          clear hAL hM HA HE hE2
          first
            | (cases neg
               all_goals
                 go_wp2
                 try simp only [Exit.inBlock, Exit.then]
                 exact bodyPost_ret (results_v3 rfl _ _ w.heap.size rfl (HF.out.z.three.set _ _ _)) rfl ⟨by rw [HE2.out, HV.out]; rfl, set3_below HF.out.b _ _ _⟩)
            | (go_wp2
               try simp only [Exit.inBlock, Exit.then]
               exact bodyPost_ret (results_v3 rfl _ _ w.heap.size rfl (HF.out.z.three.set _ _ _)) rfl ⟨by rw [HE2.out, HV.out]; rfl, set3_below HF.out.b _ _ _⟩)
end Go.Proofs.YtjamkfkbajhefaaGreatDoor.V
