/- value.scanNumbered, scanEscape, scanRune at any text: walks. -/
import Derived.Test.YtacpllmlpmllbaaGreatDoorZk11
import Derived.Test.YtacpllmlpmllbaaGreatDoorZk9
import Derived.Deep.RegionHeld3
import Derived.Test.YtacpllmlpmllbaaGreatDoorZk8
import Derived.Lib.ItoaNum
import Derived.Laws.ResultCell
import Derived.Laws.MakeOwn
namespace Go.Proofs.YtacpllmlpmllbaaGreatDoor.V
open Go.RowKit

/-- What scanning a rune hands back. -/
def srV : Option (Nat × Nat) → Value
  | some p => .tuple #[.int .i32 (p.1 : Int), .int .i64 (p.2 : Int)]
  | none => .tuple #[.int .i32 0, .int .i64 0]
/-- What the variable of syntax errors holds. -/
def ES (w : World) : Prop := ∃ ev, w.cell? ⟨6, 0, none⟩ = some ev ∧ (ev = .nilIface ∨ ∃ te pe, ev = .iface te pe)
theorem ES_below {w w' : World} (h : ES w) (hb : Below w.heap.size w w') : ES w' := by
  obtain ⟨ev, h1, h2⟩ := h
  exact ⟨ev, (hb.cell (p := ⟨6, 0, none⟩) (World.block_lt_of_cell? _ _ h1)).trans h1, h2⟩
theorem parseUint_ok (t : ByteArray) (n : Nat) (w : World) (h1 : t.size ≠ 0) (h2 : t.size ≤ 2) (h : puL t.data.toList = some n) :
    Calls Tryz.prog 265 #[.string t, .int .i64 16, .int .i64 8] w fun e w' => e = .returned (.tuple #[.int .u64 (n : Int), .nilIface]) ∧ Below w.heap.size w w' := by
  have hp : puVal (puG 0 t.data.toList) = .tuple #[.int .u64 (n : Int), .nilIface] := by
    rw [puG_puL (by rw [← Lib.size_eq]; exact h1) (by rw [← Lib.size_eq]; exact h2), h]; rfl
  clear h
  go_enter Tryz.func265, Tryz.ntmps265
  go_wp2_with fail
  refine (parseUint_i t _ h1 h2).mono ?_
  rintro e w1 ⟨rfl, hb1⟩
  rw [hp]
  clear hp
  go_wp2
  go_ret2
  exact ⟨rfl, hb1⟩
/-- A syntax error. -/
def NoPost (w : World) (e : Ending) (w' : World) : Prop := (∃ q, e = .returned (.tuple #[.int .u64 0, .iface 239 (.pointer q)])) ∧ Below w.heap.size w w'
theorem parseUint_no (t : ByteArray) (w : World) (hE : ES w) (h1 : t.size ≠ 0) (h2 : t.size ≤ 2) (h : puL t.data.toList = none) :
    Calls Tryz.prog 265 #[.string t, .int .i64 16, .int .i64 8] w fun e w' => NoPost w e w' := by
  have hp : puVal (puG 0 t.data.toList) = .tuple #[.int .u64 0, .iface 236 (.int .i64 2)] := by
    rw [puG_puL (by rw [← Lib.size_eq]; exact h1) (by rw [← Lib.size_eq]; exact h2), h]; rfl
  clear h
  go_enter Tryz.func265, Tryz.ntmps265
  go_wp2_with fail
  refine (parseUint_i t _ h1 h2).mono ?_
  rintro e w1 ⟨rfl, hb1⟩
  rw [hp]
  clear hp
  obtain ⟨ev, e1, e2⟩ := ES_below hE hb1
  have HE : Hid (w1.cell? ⟨6, 0, none⟩ = some ev) := e1
  have HF : Hid (ev = .nilIface ∨ ∃ te pe, ev = .iface te pe) := e2
  clear e1 e2
  go_wp2_with fail
  refine (Tryz.strconv_toError_syntax _ _ _ _ ev _ (by omega) HE.out HF.out).mono ?_
  rintro e w2 ⟨N, rfl, -, -, hb2⟩
  have hB2 : Hid (Below w.heap.size w w2) := hb1.trans (hb2.mono hb1.size)
  clear hb2 HE HF
  go_wp2
  go_ret2
  exact ⟨⟨_, rfl⟩, hB2.out⟩
theorem take_list (s : ByteArray) (m : Nat) : (s.extract 0 m).data.toList = s.data.toList.take m := by
  rw [Lib.extract_data]
  simp
theorem mid_list (s : ByteArray) (a b : Nat) : (s.extract a b).data.toList = (s.data.toList.drop a).take (b - a) := Lib.extract_data ..
theorem beq_str (a b : ByteArray) : (a.toList == b.toList) = decide (a = b) := by
  rw [Bool.eq_iff_iff, beq_iff_eq, decide_eq_true_eq, ByteArray.toList_eq, ByteArray.toList_eq]
  exact ⟨ba_eq, fun h => by rw [h]⟩
theorem bneq_str {a b : ByteArray} (h : ¬ a = b) : (!a.toList == b.toList) = true := by rw [beq_str, decide_eq_false h]; rfl
theorem SN_call {w0 W w' : World} (hb : Below W.heap.size W w') (h : T16 W ∧ Below w0.heap.size w0 W) : T16 w' ∧ Below w0.heap.size w0 w' := ⟨T16_below h.1 hb, h.2.trans (hb.mono h.2.size)⟩
theorem SN_drew {w0 W : World} (h : T16 W ∧ Below w0.heap.size w0 W) : T16 W.drew ∧ Below w0.heap.size w0 W.drew := ⟨h.1, h.2.drew⟩
theorem min6 (s : ByteArray) : (s.extract 0 (min (s.size : Int) 6).toNat).data.toList = s.data.toList.take 6 := by
  rw [take_list]
  by_cases h : s.size ≤ 6
  · rw [show (min (s.size : Int) 6).toNat = s.size by omega, List.take_of_length_le (by rw [← Lib.size_eq]; exact Nat.le_refl _), List.take_of_length_le (by rw [← Lib.size_eq]; exact h)]
  · rw [show (min (s.size : Int) 6).toNat = 6 by omega]
theorem ixb_any (s : ByteArray) (w : World) : Calls Tryz.prog 214 #[.string (s.extract 0 (min (s.size : Int) 6).toNat), .int .u8 125] w fun e w' => e = .returned (.int .i64 (Lib.indexByte (s.data.toList.take 6) 125)) ∧ w' = w := by
  have := Tryz.strings_IndexByte (s.extract 0 (min (s.size : Int) 6).toNat) 125 w
  rw [min6] at this
  exact this
set_option maxRecDepth 100000 in
set_option maxHeartbeats 2000000 in
theorem scanNum_no (s : ByteArray) (w : World) (hs : s.size ≤ 140737488355328) (hJ : Lib.indexByte (s.data.toList.take 6) 125 < 4) :
    Calls Tryz.prog 248 #[.string s] w fun e w' => e = .returned (.tuple #[.int .i32 0, .int .i64 0]) ∧ Below w.heap.size w w' := by
  have hge := Lib.indexByte_ge (s.data.toList.take 6) 125
  have HI : Hid (∀ w, Calls Tryz.prog 214 #[.string (s.extract 0 (min (s.size : Int) 6).toNat), .int .u8 125] w fun e w' => e = .returned (.int .i64 (Lib.indexByte (s.data.toList.take 6) 125)) ∧ w' = w) := fun w => ixb_any s w
  generalize Lib.indexByte (s.data.toList.take 6) 125 = J at *
  go_enter Tryz.func248, Tryz.ntmps248
  go_wp2_with fail
  refine (HI.out _).mono ?_
  rintro e w1 ⟨rfl, rfl⟩
  go_wp2
  go_ret2
  exact ⟨rfl, Below.refl _ _⟩
set_option maxRecDepth 100000 in
set_option maxHeartbeats 2000000 in
theorem scanNum_err (s : ByteArray) (w : World) (hs : s.size ≤ 140737488355328) (J : Nat) (hJ : Lib.indexByte (s.data.toList.take 6) 125 = (J : Int)) (h4 : J = 4 ∨ J = 5) (hz : J < s.size) (hE : ES w) (hp : puL (s.extract 3 J).data.toList = none) :
    Calls Tryz.prog 248 #[.string s] w fun e w' => e = .returned (.tuple #[.int .i32 0, .int .i64 0]) ∧ Below w.heap.size w w' := by
  have HI : Hid (∀ w, Calls Tryz.prog 214 #[.string (s.extract 0 (min (s.size : Int) 6).toNat), .int .u8 125] w fun e w' => e = .returned (.int .i64 (J : Int)) ∧ w' = w) := fun w => by rw [← hJ]; exact ixb_any s w
  have hms : (s.extract 3 J).size = J - 3 := by rw [ByteArray.size_extract]; omega
  have HP : Hid (∀ w, ES w → Calls Tryz.prog 265 #[.string (s.extract 3 J), .int .i64 16, .int .i64 8] w fun e w' => NoPost w e w') := fun w h => parseUint_no _ w h (by omega) (by omega) hp
  have hz' : (J : Int) ≤ s.size := by omega
  clear hJ hp hms
  rcases h4 with rfl | rfl
  all_goals
    go_enter Tryz.func248, Tryz.ntmps248
    go_wp2_with fail
    refine (HI.out _).mono ?_
    rintro e w1 ⟨rfl, rfl⟩
    go_wp2_with fail
    refine (HP.out _ hE).mono ?_
    rintro e w2 ⟨⟨q, rfl⟩, hb2⟩
    go_wp2
    go_region
    all_goals go_wp2
    all_goals go_ret2
    all_goals exact ⟨rfl, by first | assumption | exact Below.drew (by assumption)⟩
set_option maxRecDepth 100000 in
set_option maxHeartbeats 2000000 in
theorem scanNum_ok (s : ByteArray) (w : World) (hs : s.size ≤ 140737488355328) (J n : Nat) (hJ : Lib.indexByte (s.data.toList.take 6) 125 = (J : Int)) (h4 : J = 4 ∨ J = 5) (hz : J < s.size) (hT : T16 w) (hp : puL (s.extract 3 J).data.toList = some n) :
    Calls Tryz.prog 248 #[.string s] w fun e w' => e = .returned (if str (shR n) = s.extract 0 (J + 1) then .tuple #[.int .i32 (n : Int), .int .i64 ((J + 1 : Nat) : Int)] else .tuple #[.int .i32 0, .int .i64 0]) ∧ Below w.heap.size w w' := by
  have hn := puL_lt hp
  have HI : Hid (∀ w, Calls Tryz.prog 214 #[.string (s.extract 0 (min (s.size : Int) 6).toNat), .int .u8 125] w fun e w' => e = .returned (.int .i64 (J : Int)) ∧ w' = w) := fun w => by rw [← hJ]; exact ixb_any s w
  have hms : (s.extract 3 J).size = J - 3 := by rw [ByteArray.size_extract]; omega
  have HP : Hid (∀ w, Calls Tryz.prog 265 #[.string (s.extract 3 J), .int .i64 16, .int .i64 8] w fun e w' => e = .returned (.tuple #[.int .u64 (n : Int), .nilIface]) ∧ Below w.heap.size w w') := fun w => parseUint_ok _ n w (by omega) (by omega) hp
  have HS : Hid (∀ w, T16 w → Calls Tryz.prog 146 #[.int .i32 (n : Int)] w fun e w' => e = .returned (.string (str (shR n))) ∧ Below w.heap.size w w') := fun w h => showRune_all n w (.inl (by omega)) h
  have hz' : (J : Int) ≤ s.size := by omega
  generalize str (shR n) = Y at *
  clear hJ hp hms
  have key : ∀ (C : Bool), C = decide (Y = s.extract 0 (J + 1)) → Calls Tryz.prog 248 #[.string s] w fun e w' => e = .returned (if C = true then .tuple #[.int .i32 (n : Int), .int .i64 ((J + 1 : Nat) : Int)] else .tuple #[.int .i32 0, .int .i64 0]) ∧ Below w.heap.size w w' := by
    intro C hC
    rcases h4 with rfl | rfl
    all_goals
      have hz5 : (5 : Int) ≤ s.size := by omega
      try (have hz6 : (6 : Int) ≤ s.size := by omega)
      cases C
      · have hc : ¬ Y = s.extract 0 _ := of_decide_eq_false hC.symm
        simp only [Nat.reduceAdd] at hc
        have hq := bneq_str hc
        clear hC hc
        go_enter Tryz.func248, Tryz.ntmps248
        go_wp2_with fail
        refine (HI.out _).mono ?_
        rintro e w1 ⟨rfl, rfl⟩
        go_wp2_with fail
        refine (HP.out _).mono ?_
        rintro e w2 ⟨rfl, hb2⟩
        have hT2 : T16 w2 ∧ Below w1.heap.size w1 w2 := ⟨T16_below hT hb2, hb2⟩
        clear hb2
        go_wp2
        go_region_held3 (fun w' => T16 w' ∧ Below w1.heap.size w1 w') (first | assumption | exact SN_call (by assumption) (by assumption) | exact SN_drew (by assumption)) (first | (go_at_call 146; refine (HS.out _ ?_).mono ?_; exact (show T16 _ ∧ _ by assumption).1; rintro e w' ⟨rfl, hb⟩))
        all_goals go_wp2
        all_goals go_ret2
        all_goals exact ⟨rfl, (show T16 _ ∧ _ by assumption).2⟩
      · have hc : Y = s.extract 0 _ := of_decide_eq_true hC.symm
        simp only [Nat.reduceAdd] at hc
        clear hC
        subst hc
        go_enter Tryz.func248, Tryz.ntmps248
        go_wp2_with fail
        refine (HI.out _).mono ?_
        rintro e w1 ⟨rfl, rfl⟩
        go_wp2_with fail
        refine (HP.out _).mono ?_
        rintro e w2 ⟨rfl, hb2⟩
        have hT2 : T16 w2 ∧ Below w1.heap.size w1 w2 := ⟨T16_below hT hb2, hb2⟩
        clear hb2
        go_wp2
        go_region_held3 (fun w' => T16 w' ∧ Below w1.heap.size w1 w') (first | assumption | exact SN_call (by assumption) (by assumption) | exact SN_drew (by assumption)) (first | (go_at_call 146; refine (HS.out _ ?_).mono ?_; exact (show T16 _ ∧ _ by assumption).1; rintro e w' ⟨rfl, hb⟩))
        all_goals go_wp2
        all_goals go_ret2
        all_goals exact ⟨rfl, (show T16 _ ∧ _ by assumption).2⟩
  have := key _ rfl
  simpa using this
theorem str_inj {a b : List UInt8} (h : str a = str b) : a = b := by rw [← str_data a, h, str_data]
theorem ext5 (s : ByteArray) (m : Nat) : s.extract 0 m = str (s.data.toList.take m) := ba_eq (by rw [str_data, Lib.extract_data]; simp)
/-- scanNumbered at any text that opens with a back stroke and an u. -/
theorem scanNum_any (s : ByteArray) (u : List UInt8) (w : World) (hs : s.size ≤ 140737488355328) (hu : s.data.toList = 92 :: 117 :: u) (hT : T16 w) (hE : ES w) :
    Calls Tryz.prog 248 #[.string s] w fun e w' => e = .returned (srV ((escL s.data.toList).map fun c => (c, (shR c).length))) ∧ Below w.heap.size w w' := by
  have hsz : s.size = u.length + 2 := by rw [Lib.size_eq, hu]; rfl
  rcases ix_cases u with h | ⟨h, a, b, t, rfl⟩ | ⟨h, a, b, c, t, rfl⟩
  · rw [hu, esc_num_no h]
    exact scanNum_no s w hs (by rw [hu]; exact h)
  · have hm : (s.extract 3 4).data.toList = [b] := by rw [mid_list, hu]; rfl
    have h5 : s.extract 0 (4 + 1) = str [92, 117, a, b, 125] := by rw [ext5, hu]; rfl
    rw [hu, esc_num1 h]
    cases hp : puL [b] with
    | none => exact scanNum_err s w hs 4 (by rw [hu]; exact h) (.inl rfl) (by rw [hsz]; simp) hE (by rw [hm]; exact hp)
    | some n =>
      have := scanNum_ok s w hs 4 n (by rw [hu]; exact h) (.inl rfl) (by rw [hsz]; simp) hT (by rw [hm]; exact hp)
      rw [h5] at this
      have e : (srV (((some n).bind fun n => if shR n = [92, 117, a, b, 125] then some n else none).map fun c => (c, (shR c).length))) = if str (shR n) = str [92, 117, a, b, 125] then Value.tuple #[.int .i32 (n : Int), .int .i64 ((4 + 1 : Nat) : Int)] else .tuple #[.int .i32 0, .int .i64 0] := by
        by_cases hc : shR n = [92, 117, a, b, 125]
        · simp [hc, srV]
        · rw [if_neg (fun e => hc (str_inj e))]
          simp [hc, srV]
      rw [e]
      exact this
  · have hm : (s.extract 3 5).data.toList = [b, c] := by rw [mid_list, hu]; rfl
    have h6 : s.extract 0 (5 + 1) = str [92, 117, a, b, c, 125] := by rw [ext5, hu]; rfl
    rw [hu, esc_num2 h]
    cases hp : puL [b, c] with
    | none => exact scanNum_err s w hs 5 (by rw [hu]; exact h) (.inr rfl) (by rw [hsz]; simp) hE (by rw [hm]; exact hp)
    | some n =>
      have := scanNum_ok s w hs 5 n (by rw [hu]; exact h) (.inr rfl) (by rw [hsz]; simp) hT (by rw [hm]; exact hp)
      rw [h6] at this
      have e : (srV (((some n).bind fun n => if shR n = [92, 117, a, b, c, 125] then some n else none).map fun c => (c, (shR c).length))) = if str (shR n) = str [92, 117, a, b, c, 125] then Value.tuple #[.int .i32 (n : Int), .int .i64 ((5 + 1 : Nat) : Int)] else .tuple #[.int .i32 0, .int .i64 0] := by
        by_cases hc : shR n = [92, 117, a, b, c, 125]
        · simp [hc, srV]
        · rw [if_neg (fun e => hc (str_inj e))]
          simp [hc, srV]
      rw [e]
      exact this
theorem gN_list (s : ByteArray) (i : Nat) (h : i < s.size) : gN s i = (s.data.toList.getD i 0).toNat := by
  rw [← gN_of s i h, List.getD_eq_getElem?_getD, List.getElem?_eq_getElem (by rw [← Lib.size_eq]; exact h)]
  rfl
set_option maxRecDepth 100000 in
set_option maxHeartbeats 2000000 in
theorem scanEscape_any (s : ByteArray) (w : World) (hs : s.size ≤ 140737488355328) (hh : s.data.toList.head? = some 92) (hT : T16 w) (hE : ES w) :
    Calls Tryz.prog 234 #[.string s] w fun e w' => e = .returned (srV ((escL s.data.toList).map fun c => (c, (shR c).length))) ∧ Below w.heap.size w w' := by
  have hse : s.size = s.data.toList.length := Lib.size_eq s
  obtain ⟨l', hl⟩ : ∃ t, s.data.toList = 92 :: t := by
    cases e : s.data.toList with
    | nil => rw [e] at hh; cases hh
    | cons b t => rw [e] at hh; simp only [List.head?_cons, Option.some.injEq] at hh; exact ⟨t, by rw [hh]⟩
  rw [hl]
  cases l' with
  | nil =>
    rw [hl] at hse
    have hd : decide ((s.size : Int) < 2) = true := by rw [hse]; rfl
    rw [esc_one]
    clear hl hse hh
    go_enter Tryz.func234, Tryz.ntmps234
    go_wp2
    go_ret2
    exact ⟨rfl, Below.refl _ _⟩
  | cons b t =>
    rw [hl] at hse
    have hd : decide ((s.size : Int) < 2) = false := by rw [hse]; simp only [List.length_cons, decide_eq_false_iff_not]; omega
    have h1 : 1 < s.size := by rw [hse]; simp
    have h1' : (1 : Int) < s.size := by omega
    have hg := gN_of s 1 h1
    have hb : gN s 1 = b.toNat := by rw [gN_list s 1 h1, hl]; rfl
    have hlt := gN_lt s 1
    have HB : Hid (gN s 1 = b.toNat) := hb
    have key : ∀ x : UInt8, b = x ∨ ((gN s 1 : Int) == (x.toNat : Int)) = false := fun x => by
      by_cases e : b = x
      · exact .inl e
      · refine .inr ?_
        rw [beq_eq_false_iff_ne, HB.out]
        intro h
        exact e (UInt8.toNat_inj.1 (by omega))
    have k1 := key 34
    have k2 := key 92
    have k3 := key 110
    have k4 := key 116
    have k5 := key 114
    have k6 := key 117
    have HN : Hid (b = 117 → Calls Tryz.prog 248 #[.string s] w fun e w' => e = .returned (srV ((escL s.data.toList).map fun c => (c, (shR c).length))) ∧ Below w.heap.size w w') := fun e => scanNum_any s t w hs (by rw [hl, e]) hT hE
    rw [hl] at HN
    clear hl hse hh hb key
    rcases k1 with rfl | k1
    · have e34 : gN s 1 = 34 := HB.out
      rw [e34] at hg
      rw [esc_q]
      clear HN HB e34 hlt k2 k3 k4 k5 k6
      go_enter Tryz.func234, Tryz.ntmps234
      go_wp2
      go_ret2
      exact ⟨rfl, Below.refl _ _⟩
    rcases k2 with rfl | k2
    · have e34 : gN s 1 = 92 := HB.out
      rw [e34] at hg
      rw [esc_b]
      clear HN HB e34 hlt k1 k3 k4 k5 k6
      go_enter Tryz.func234, Tryz.ntmps234
      go_wp2
      go_ret2
      exact ⟨rfl, Below.refl _ _⟩
    rcases k3 with rfl | k3
    · have e34 : gN s 1 = 110 := HB.out
      rw [e34] at hg
      rw [esc_n]
      clear HN HB e34 hlt k1 k2 k4 k5 k6
      go_enter Tryz.func234, Tryz.ntmps234
      go_wp2
      go_ret2
      exact ⟨rfl, Below.refl _ _⟩
    rcases k4 with rfl | k4
    · have e34 : gN s 1 = 116 := HB.out
      rw [e34] at hg
      rw [esc_t]
      clear HN HB e34 hlt k1 k2 k3 k5 k6
      go_enter Tryz.func234, Tryz.ntmps234
      go_wp2
      go_ret2
      exact ⟨rfl, Below.refl _ _⟩
    rcases k5 with rfl | k5
    · have e34 : gN s 1 = 114 := HB.out
      rw [e34] at hg
      rw [esc_r]
      clear HN HB e34 hlt k1 k2 k3 k4 k6
      go_enter Tryz.func234, Tryz.ntmps234
      go_wp2
      go_ret2
      exact ⟨rfl, Below.refl _ _⟩
    rcases k6 with rfl | k6
    · have e34 : gN s 1 = 117 := HB.out
      rw [e34] at hg
      have HN2 := HN.out rfl
      cases hX : escL (92 :: 117 :: t) with
      | none =>
        rw [hX] at HN2
        have HN3 : Hid (Calls Tryz.prog 248 #[.string s] w fun e w' => e = .returned (.tuple #[.int .i32 0, .int .i64 0]) ∧ Below w.heap.size w w') := HN2
        clear HN HB e34 hlt k1 k2 k3 k4 k5 HN2 hX
        go_enter Tryz.func234, Tryz.ntmps234
        go_wp2_with fail
        refine (Calls.mono HN3.out) ?_
        rintro e w1 ⟨rfl, hb1⟩
        go_wp2
        go_ret2
        exact ⟨rfl, hb1⟩
      | some c =>
        rw [hX] at HN2
        have HN3 : Hid (Calls Tryz.prog 248 #[.string s] w fun e w' => e = .returned (.tuple #[.int .i32 (c : Int), .int .i64 ((shR c).length : Int)]) ∧ Below w.heap.size w w') := HN2
        clear HN HB e34 hlt k1 k2 k3 k4 k5 HN2 hX
        go_enter Tryz.func234, Tryz.ntmps234
        go_wp2_with fail
        refine (Calls.mono HN3.out) ?_
        rintro e w1 ⟨rfl, hb1⟩
        go_wp2
        go_ret2
        exact ⟨rfl, hb1⟩
    · have HE : Hid (escL (92 :: b :: t) = none) := by
        have hne : ∀ x : UInt8, ((gN s 1 : Int) == (x.toNat : Int)) = false → b ≠ x := fun x h e => by
          rw [beq_eq_false_iff_ne] at h
          exact h (by rw [HB.out, e])
        exact esc_other (hne 34 k1) (hne 92 k2) (hne 110 k3) (hne 116 k4) (hne 114 k5) (hne 117 k6)
      rw [HE.out]
      simp only [show (34 : UInt8).toNat = 34 from rfl, show (92 : UInt8).toNat = 92 from rfl, show (110 : UInt8).toNat = 110 from rfl, show (116 : UInt8).toNat = 116 from rfl, show (114 : UInt8).toNat = 114 from rfl, show (117 : UInt8).toNat = 117 from rfl] at k1 k2 k3 k4 k5 k6
      have k1' : ((gN s 1 : Int) == 34) = false := k1
      have k2' : ((gN s 1 : Int) == 92) = false := k2
      have k3' : ((gN s 1 : Int) == 110) = false := k3
      have k4' : ((gN s 1 : Int) == 116) = false := k4
      have k5' : ((gN s 1 : Int) == 114) = false := k5
      have k6' : ((gN s 1 : Int) == 117) = false := k6
      clear HN HB k1 k2 k3 k4 k5 k6 HE
      generalize gN s 1 = y at *
      go_enter Tryz.func234, Tryz.ntmps234
      go_wp2
      go_ret2
      exact ⟨rfl, Below.refl _ _⟩
end Go.Proofs.YtacpllmlpmllbaaGreatDoor.V
/- strings.Builder's WriteRune of any rune: its walk. -/
namespace Go.Proofs.YtacpllmlpmllbaaGreatDoor.V
open Go.RowKit

theorem encRune_is {c : Nat} (hs : scal c) : Lib.encodeRune (c : Int) = enc c := by
  by_cases h1 : c < 128
  · rw [enc1 h1, Lib.encodeRune, Lib.encodeRuneZ_one (by omega) (by omega)]; simp
  by_cases h2 : c < 2048
  · rw [enc2 (by omega) h2, Lib.encodeRune, Lib.encodeRuneZ_two (by omega) (by omega)]
    simp only [List.map_cons, List.map_nil]
    congr 1
  by_cases h3 : c < 65536
  · rw [enc3 (by omega) h3 hs, Lib.encodeRune, Lib.encodeRuneZ_three (by unfold scal at hs; omega)]
    simp only [List.map_cons, List.map_nil]
    congr 1
  · rw [enc4 (by omega) hs, Lib.encodeRune, Lib.encodeRuneZ_four (by omega) (by unfold scal at hs; omega)]
    simp only [List.map_cons, List.map_nil]
    congr 1
theorem cells_rune {c : Nat} (hs : scal c) : Lib.runeCells (c : Int) = Lib.byteCells (enc c) := by rw [← Lib.byteCells_encodeRune, encRune_is hs]
theorem appendRune_any (B : Nat) (v : Value) (n : Nat) (xs : List Value) (c : Nat) (w : World) (hs : scal c) (hown : w.ownsRowF B 5 1 v n xs) (hlen : n + 4 ≤ 140737488355328) (hBw : B ≤ w.heap.size) :
    Calls Tryz.prog 235 #[v, .int .i32 (c : Int)] w fun e w' => ArPost B (xs ++ Lib.byteCells (enc c)) w e w' := by
  have hc : c ≤ 1114111 := by unfold scal at hs; omega
  have hxl : xs.length = n := by have := hown.1; omega
  refine (Tryz.utf8_AppendRune_row B v n xs c (by omega) (by omega) w hown hlen hBw).mono ?_
  rintro e w' ⟨v', rfl, ho, o, hg⟩
  rw [cells_rune hs] at ho
  refine ⟨v', rfl, ?_, ((Below.refl _ _).alloc hBw _).grown hg (by simp; omega) (fun k hk => (hown.lt k hk).1), ((Lib.OthersKept.refl _ _ _).alloc _).grown hg (fun g hg' => by obtain ⟨c, fz, h⟩ := rowF_cells hown g hg'; exact ⟨c, fz, by rw [Lib.alloc_old w _ g (Array.getElem?_eq_some_iff.1 h).1]; exact h⟩)⟩
  rw [List.length_append, hxl]
  exact ho
set_option maxRecDepth 100000 in
set_option maxHeartbeats 2000000 in
theorem writeRune_any (B b : Nat) (bs : List Value) (c : Nat) (w : World) (hsc : scal c) (h : IsB B b bs w) (hlen : bs.length + 4 ≤ 140737488355328) (hBw : B ≤ w.heap.size) :
    Calls Tryz.prog 212 #[.pointer (some ⟨b, 0, none⟩), .int .i32 (c : Int)] w fun e w' => e = .returned (.tuple #[.int .i64 (enc c).length, .nilIface]) ∧ IsB B b (bs ++ Lib.byteCells (enc c)) w' ∧ Below B w w' ∧ Lib.OthersKept 5 (some b) w w' := by
  have HA : Hid (∀ v W, W.ownsRowF B 5 1 v bs.length bs → B ≤ W.heap.size → Calls Tryz.prog 235 #[v, .int .i32 (c : Int)] W fun e w' => ArPost B (bs ++ Lib.byteCells (enc c)) W e w') := fun v W ho hB => appendRune_any B v bs.length bs c W hsc ho hlen hB
  have hel := enc_len4 c
  have hel1 := enc_len c
  have hll : (bs ++ Lib.byteCells (enc c)).length = bs.length + (enc c).length := by rw [List.length_append, Lib.byteCells_length]
  generalize hX : Lib.byteCells (enc c) = X at *
  generalize hm : (enc c).length = m at *
  clear hX hm
  go_enter Tryz.func212, Tryz.ntmps212
  go_wp2_with (go_at_call 95; refine (copyCheck_any B b bs _ h).mono ?_)
  rintro e w1 ⟨rfl, h1, hb1, ok1⟩
  obtain ⟨hB, v, hbk, hown, hne⟩ := h1
  have c0 : w1.cell? ⟨b, 0, none⟩ = some (.pointer (some ⟨b, 0, none⟩)) := by rw [Lib.cell_of_heap hbk]; rfl
  have c1 : w1.cell? ⟨b, 1, none⟩ = some v := by rw [Lib.cell_of_heap hbk]; rfl
  obtain ⟨ao, cap, rfl⟩ : ∃ ao cap, v = .slice ao bs.length cap := by
    rcases hown.2 with ⟨hv, h0⟩ | ⟨g, cap, cur, fz, hv, _⟩
    · exact ⟨none, 0, by rw [h0]; exact hv⟩
    · exact ⟨_, _, hv⟩
  have hs1 := hb1.size
  go_wp2_with fail
  refine (HA.out _ _ hown (by omega)).mono ?_
  rintro e w2 ⟨v', rfl, hown', hb2, ok2⟩
  rw [hll] at hown'
  have hb2k : w2.heap[b]? = some (.cells #[.pointer (some ⟨b, 0, none⟩), .slice ao bs.length cap] 94 (0, 0)) := ok2 b _ hbk (by simp) (fun c fz e => by cases e)
  have d0 : w2.cell? ⟨b, 0, none⟩ = some (.pointer (some ⟨b, 0, none⟩)) := by rw [Lib.cell_of_heap hb2k]; rfl
  have d1 : w2.cell? ⟨b, 1, none⟩ = some (.slice ao bs.length cap) := by rw [Lib.cell_of_heap hb2k]; rfl
  have f1 : w2.frozen? ⟨b, 1, none⟩ = false := Lib.frozen_of_heap hb2k 1
  obtain ⟨g, cap', rfl⟩ : ∃ g cap', v' = .slice (some ⟨g, 0, none⟩) (bs.length + m) cap' := by
    rcases hown'.2 with ⟨_, h0⟩ | ⟨g, cap, cur, fz, hv, _⟩
    · omega
    · exact ⟨g, cap, hv⟩
  have HR : Hid (IsB B b (bs ++ X) (w2.setCell ⟨b, 1, none⟩ (.slice (some ⟨g, 0, none⟩) (bs.length + m) cap')) ∧ Below B w (w2.setCell ⟨b, 1, none⟩ (.slice (some ⟨g, 0, none⟩) (bs.length + m) cap')) ∧ Lib.OthersKept 5 (some b) w (w2.setCell ⟨b, 1, none⟩ (.slice (some ⟨g, 0, none⟩) (bs.length + m) cap'))) := by
    refine ⟨.inr (Lib.BuilderAtF.put (T := 94) (e := 5) hB hb2k (by rw [hll]; exact hown') (by decide)), (hb1.trans hb2).setCell (p := ⟨b, 1, none⟩) hB _, Lib.OthersKept.setCell (b := b) (ok1.trans (fun k o hk _ ho => ok2 k o hk (by simp) ho)) ⟨b, 1, none⟩ rfl _⟩
  clear hown' hown hb2 ok2 hbk hne HA hll
  go_wp2
  go_ret2
  refine ⟨by simp; omega, HR.out.1, HR.out.2.1, HR.out.2.2⟩
end Go.Proofs.YtacpllmlpmllbaaGreatDoor.V
/- Literals: what is read was shown so, and what is shown is read. Plain, of no program. -/
namespace Go.Proofs.YtacpllmlpmllbaaGreatDoor.V
open Go.Lib
set_option maxRecDepth 100000

/-! ### texts -/
/-! ### bytes -/
theorem hxd_lt {b : UInt8} {x : Nat} (h : hxd b = some x) : x < 16 := by
  unfold hxd at h
  split at h
  · cases h; omega
  split at h
  · cases h; omega
  · cases h
theorem hxs_app : ∀ (D R : List UInt8), 39 ∉ D → hxs (D ++ 39 :: R) = (hxp D).map fun b => (b, R)
  | [], R, _ => by
    cases R with
    | nil => rfl
    | cons b R => show hxs (39 :: b :: R) = _; unfold hxs; rw [if_pos rfl]; rfl
  | [a], R, h => by
    have ha : a ≠ 39 := fun e => h (by simp [e])
    show hxs (a :: 39 :: R) = _
    unfold hxs
    rw [if_neg ha, show hxd 39 = none by decide]
    cases hxd a <;> rfl
  | a :: b :: t, R, h => by
    have ha : a ≠ 39 := fun e => h (by simp [e])
    have ht : 39 ∉ t := fun e => h (by simp [e])
    show hxs (a :: b :: (t ++ 39 :: R)) = _
    unfold hxs hxp
    rw [if_neg ha, hxs_app t R ht]
    cases hxd a <;> cases hxd b <;> cases hxp t <;> rfl
theorem hxs_open : ∀ (l : List UInt8), 39 ∉ l → hxs l = none
  | [], _ => rfl
  | [a], h => by
    have ha : a ≠ 39 := fun e => h (by simp [e])
    unfold hxs
    rw [if_neg ha]
  | a :: b :: t, h => by
    have ha : a ≠ 39 := fun e => h (by simp [e])
    have ht : 39 ∉ t := fun e => h (by simp [e])
    unfold hxs
    rw [if_neg ha, hxs_open t ht]
    cases hxd a <;> cases hxd b <;> rfl
theorem hxp_odd : ∀ (D : List UInt8), D.length % 2 ≠ 0 → hxp D = none
  | [], h => absurd rfl h
  | [a], _ => rfl
  | a :: b :: t, h => by
    unfold hxp
    rw [hxp_odd t (by simp only [List.length_cons] at h; omega)]
    cases hxd a <;> cases hxd b <;> rfl

/-! ### numbers -/
end Go.Proofs.YtacpllmlpmllbaaGreatDoor.V
/- Literals: once and back, whole. Plain, of no program. -/
namespace Go.Proofs.YtacpllmlpmllbaaGreatDoor.V
open Go.Lib
set_option maxRecDepth 100000

/-- May a value be? (As a proposition, over lists.) -/
def okL (k n : Int) (s : List UInt8) : Prop :=
  (k = 1 ∧ s = [] ∧ -9007199254740991 ≤ n ∧ n ≤ 9007199254740991) ∨ (k = 2 ∧ n = 0 ∧ s.length ≤ 200 ∧ validD s = true) ∨ (k = 3 ∧ s = [] ∧ (n = 0 ∨ n = 1)) ∨ (k = 4 ∧ n = 0 ∧ s.length ≤ 200)
/-- A value's literal. -/
def shwL (k n : Int) (s : List UInt8) : List UInt8 :=
  if k = 1 then itoa n else if k = 3 then (if n = 1 then [116, 114, 117, 101] else [102, 97, 108, 115, 101])
  else if k = 4 then 120 :: 39 :: hexs s ++ [39] else 34 :: (rns s).flatMap shR ++ [34]

theorem dec_len' : ∀ (k n : Nat), n < 10 ^ k → 0 < k → (decDigits n).length ≤ k
  | 0, _, _, h => absurd h (by decide)
  | k + 1, n, h, _ => by
    rw [decDigits]
    by_cases hn : n < 10
    · rw [dif_pos hn]
      show 1 ≤ k + 1
      omega
    · rw [dif_neg hn, List.length_append]
      have hp : 10 ^ (k + 1) = 10 ^ k * 10 := Nat.pow_succ 10 k
      have h1 : n / 10 < 10 ^ k := by omega
      have hk : 0 < k := by
        cases k with
        | zero => simp at h; omega
        | succ k => omega
      have := dec_len' k (n / 10) h1 hk
      show _ + 1 ≤ _
      omega
end Go.Proofs.YtacpllmlpmllbaaGreatDoor.V
/- value.scanInt at the examples: walks. -/
namespace Go.Proofs.YtacpllmlpmllbaaGreatDoor.V
open Go.RowKit

theorem results_cell3 {fn : Func} {p u v : Tmp} {ty : TypeId} (h : fn.results = #[.cell p ty, .tmp u, .tmp v]) (tmps : Array Value) (P : Program) (w : World) :
    (results fn tmps).run P w =
      ((asAddr (tmps.getD p undef)).run P w).andThen fun a w₁ => ((loadVar ty a).run P w₁).andThen fun x w₂ => .ok (.tuple #[x, tmps.getD u undef, tmps.getD v undef]) w₂ := by
  simp only [results, h]
  simp [Sem.run_bind, Result.andThen]
abbrev v0 : Value := vv 0 0 ⟨#[]⟩
theorem ascii10 : ∀ (j : Nat) b, (⟨#[48, 49, 50, 51, 52, 53, 54, 55, 56, 57]⟩ : ByteArray).data.toList[j]? = some b → b.toNat < 128 := by
  intro j b h
  have hm : b ∈ [48, 49, 50, 51, 52, 53, 54, 55, 56, 57] := List.mem_of_getElem? h
  simp at hm
  rcases hm with rfl | rfl | rfl | rfl | rfl | rfl | rfl | rfl | rfl | rfl <;> decide
abbrev HX : ByteArray := ⟨#[48, 49, 50, 51, 52, 53, 54, 55, 56, 57, 97, 98, 99, 100, 101, 102]⟩
def ML (w : World) : Prop := ∃ m, w.cell? ⟨2, 0, none⟩ = some (.int .i64 m)
theorem ML_below {w w' : World} (h : ML w) (hb : Below w.heap.size w w') : ML w' := by
  obtain ⟨m, hm⟩ := h
  exact ⟨m, (hb.cell (p := ⟨2, 0, none⟩) (World.block_lt_of_cell? _ _ hm)).trans hm⟩
theorem mk2 (W : World) : (Instr.makeSlice 92 (.int .i64 2) (.int .i64 2)).run Tryz.prog W = .ok (.slice (some ⟨W.heap.size, 0, none⟩) 2 2) (W.alloc (.cells #[.int .u8 0, .int .u8 0] 5)) := by
  obtain ⟨i0, hi, hz0, hz1, hz2⟩ := info_parts info_u8
  have := run_makeSlice (P := Tryz.prog) W 92 5 i0 _ Tryz.underlying92 hi hz0 .i64 .i64 2 2 (by decide) (by decide) (by rw [hz1]; decide) (by rw [hz2]; decide) (by decide)
  rw [hz1] at this
  have e : madeCells (Value.int .u8 0).cells (Int.toNat 2 * 1) = #[.int .u8 0, .int .u8 0] := by
    simp [madeCells, Value.cells, Array.range]
    rfl
  rw [e] at this
  exact this
theorem conv2 (w : World) (g : Nat) (h0 : w.cell? ⟨g, 0, none⟩ = some (.int .u8 0)) (h1 : w.cell? ⟨g, 1, none⟩ = some (.int .u8 255)) : (convert 92 9 (.slice (some ⟨g, 0, none⟩) 2 2)).run Tryz.prog w = .ok (.string (strOfNums [0, 255])) w :=
  run_convert_bytes_arg (P := Tryz.prog) w 92 5 Tryz.underlying92 Tryz.underlying5 g 0 2 2 [0, 255] rfl (fun i hi => by
    match i, hi with
    | 0, _ => simpa using h0
    | 1, _ => simpa using h1) 9 Tryz.underlying9
end Go.Proofs.YtacpllmlpmllbaaGreatDoor.V
/- value.scanRune and scanText at the examples, Scan, Parse; the law's awake: walks. -/
namespace Go.Proofs.YtacpllmlpmllbaaGreatDoor.V
open Go.RowKit

end Go.Proofs.YtacpllmlpmllbaaGreatDoor.V
/- value.scanText at the example, Scan and Parse at the four examples; the law's awake: walks. -/
namespace Go.Proofs.YtacpllmlpmllbaaGreatDoor.V
open Go.RowKit

/-- The result's cells, not yet set. -/
structure Zero (b : Nat) (w : World) : Prop where
  c0 : w.cell? ⟨b, 0, none⟩ = some (.int .i64 0)
  c1 : w.cell? ⟨b, 1, none⟩ = some (.int .i64 0)
  c2 : w.cell? ⟨b, 2, none⟩ = some (.string ⟨#[]⟩)
  f0 : w.frozen? ⟨b, 0, none⟩ = false
  f1 : w.frozen? ⟨b, 1, none⟩ = false
  f2 : w.frozen? ⟨b, 2, none⟩ = false
theorem Zero.below {b B : Nat} {w w' : World} (h : Zero b w) (hb : Below B w w') (hlt : b < B) : Zero b w' :=
  ⟨(hb.cell (p := ⟨b, 0, none⟩) hlt).trans h.c0, (hb.cell (p := ⟨b, 1, none⟩) hlt).trans h.c1, (hb.cell (p := ⟨b, 2, none⟩) hlt).trans h.c2, (hb.frozen (p := ⟨b, 0, none⟩) hlt).trans h.f0, (hb.frozen (p := ⟨b, 1, none⟩) hlt).trans h.f1, (hb.frozen (p := ⟨b, 2, none⟩) hlt).trans h.f2⟩
theorem Zero.new (w : World) : Zero w.heap.size (w.alloc (.cells #[.int .i64 0, .int .i64 0, .string ⟨#[]⟩] 76)) :=
  ⟨by simp, by simp, by simp, by simp, by simp, by simp⟩
abbrev wv (w : World) : World := w.alloc (.cells #[.int .i64 0, .int .i64 0, .string ⟨#[]⟩] 76)
theorem wv_below (w : World) : Below w.heap.size w (wv w) := (Below.refl _ _).alloc (Nat.le_refl _) _
theorem wv_size (w : World) : (wv w).heap.size = w.heap.size + 1 := by simp
theorem load_vv (W : World) (b : Nat) (k n : Int) (s : ByteArray) (c0 : W.cell? ⟨b, 0, none⟩ = some (.int .i64 k)) (c1 : W.cell? ⟨b, 1, none⟩ = some (.int .i64 n)) (c2 : W.cell? ⟨b, 2, none⟩ = some (.string s)) : (loadVar 76 ⟨b, 0, none⟩).run Tryz.prog W = .ok (vv k n s) W := by
  go_simp
abbrev set3 (W : World) (b : Nat) (x y z : Value) : World := ((W.setCell ⟨b, 0, none⟩ x).setCell ⟨b, 1, none⟩ y).setCell ⟨b, 2, none⟩ z
structure Three (b : Nat) (W : World) (x y z : Value) : Prop where
  c0 : W.cell? ⟨b, 0, none⟩ = some x
  c1 : W.cell? ⟨b, 1, none⟩ = some y
  c2 : W.cell? ⟨b, 2, none⟩ = some z
theorem Three.set {b : Nat} {W : World} {x y z : Value} (h : Three b W x y z) (x' y' z' : Value) : Three b (set3 W b x' y' z') x' y' z' := by
  have a1 : (W.setCell ⟨b, 0, none⟩ x').cell? ⟨b, 1, none⟩ = some y := (World.cell?_setCell_other _ _ _ _ (by simp)).trans h.c1
  have a2 : ((W.setCell ⟨b, 0, none⟩ x').setCell ⟨b, 1, none⟩ y').cell? ⟨b, 2, none⟩ = some z := (World.cell?_setCell_other _ _ _ _ (by simp)).trans ((World.cell?_setCell_other _ _ _ _ (by simp)).trans h.c2)
  refine ⟨?_, ?_, ?_⟩
  · rw [World.cell?_setCell_other _ _ _ _ (by simp), World.cell?_setCell_other _ _ _ _ (by simp), World.cell?_setCell_same _ _ _ h.c0]
  · rw [World.cell?_setCell_other _ _ _ _ (by simp), World.cell?_setCell_same _ _ _ a1]
  · rw [World.cell?_setCell_same _ _ _ a2]
theorem Three.alloc {b : Nat} {W : World} {x y z : Value} (h : Three b W x y z) (o : Obj) : Three b (W.alloc o) x y z := by
  have hA := (Below.refl W.heap.size W).alloc (Nat.le_refl _) o
  have hlt : b < W.heap.size := World.block_lt_of_cell? _ _ h.c0
  exact ⟨(hA.cell (p := ⟨b, 0, none⟩) hlt).trans h.c0, (hA.cell (p := ⟨b, 1, none⟩) hlt).trans h.c1, (hA.cell (p := ⟨b, 2, none⟩) hlt).trans h.c2⟩
theorem Zero.three {b : Nat} {w : World} (h : Zero b w) : Three b w (.int .i64 0) (.int .i64 0) (.string ⟨#[]⟩) := ⟨h.c0, h.c1, h.c2⟩
theorem results_v3 {fn : Func} {p u v : Tmp} (h : fn.results = #[.cell p 76, .tmp u, .tmp v]) (tmps : Array Value) (W : World) (b : Nat) (hp : tmps.getD p undef = .pointer (some ⟨b, 0, none⟩)) {k n : Int} {s : ByteArray} (h3 : Three b W (.int .i64 k) (.int .i64 n) (.string s)) :
    (results fn tmps).run Tryz.prog W = .ok (.tuple #[vv k n s, tmps.getD u undef, tmps.getD v undef]) W := by
  rw [results_cell3 h, hp]
  have e : (asAddr (.pointer (some ⟨b, 0, none⟩))).run Tryz.prog W = .ok ⟨b, 0, none⟩ W := rfl
  rw [e]
  simp only [Result.andThen]
  rw [load_vv W b k n s h3.c0 h3.c1 h3.c2]
/-- The result's three cells set. -/
theorem set3_below {w0 w : World} {b : Nat} (h : Below b w0 w) (x y z : Value) : Below b w0 (((w.setCell ⟨b, 0, none⟩ x).setCell ⟨b, 1, none⟩ y).setCell ⟨b, 2, none⟩ z) :=
  ((h.setCell (p := ⟨b, 0, none⟩) (Nat.le_refl _) _).setCell (p := ⟨b, 1, none⟩) (Nat.le_refl _) _).setCell (p := ⟨b, 2, none⟩) (Nat.le_refl _) _

def lenOf : Value → Nat
  | .string s => s.size
  | _ => 0
/-- What the walks ask of the world. -/
structure VT (w : World) : Prop where
  u : UT w
  t : T16 w
  m : ML w
theorem VT.below {w w' : World} (h : VT w) (hb : Below w.heap.size w w') : VT w' := ⟨Utf8Tabs_below h.u hb, T16_below h.t hb, ML_below h.m hb⟩
end Go.Proofs.YtacpllmlpmllbaaGreatDoor.V
