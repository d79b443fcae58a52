/- strconv.ParseUint at base 16 and 8 bits, of one or two bytes: walks. -/
import Derived.Test.YtbekpemidpngaaaGreatDoorZk7
import Derived.Test.YtbekpemidpngaaaGreatDoorZk18
import Derived.Lib.ConvBytes
import Derived.Test.YtbekpemidpngaaaGreatDoorZk10
import Derived.Deep.RegionHeld3
namespace Go.Proofs.YtbekpemidpngaaaGreatDoor.V
open Go.RowKit

def puG : Nat → List UInt8 → Option Nat
  | acc, [] => some acc
  | acc, c :: t => match puD c with
    | none => none
    | some d => puG (16 * acc + d) t
theorem puG_puL {l : List UInt8} (h1 : l.length ≠ 0) (h2 : l.length ≤ 2) : puG 0 l = puL l := by
  match l, h1, h2 with
  | [x], _, _ =>
    simp only [puG, puL]
    cases puD x <;> simp
  | [x, y], _, _ =>
    simp only [puG, puL]
    cases puD x with
    | none => rfl
    | some d =>
      simp only
      cases puD y <;> simp
/-- What the inner ParseUint hands back. -/
def puVal : Option Nat → Value
  | some n => .tuple #[.int .u64 (n : Int), .nilIface]
  | none => .tuple #[.int .u64 0, .iface 259 (.int .i64 2)]
theorem or32 : ∀ n : Fin 256, bits BinOp.or IntKind.u8 (n.val : Int) 32 = ((n.val ||| 32 : Nat) : Int) := by decide +kernel
theorem or32_lt : ∀ n : Fin 256, (n.val ||| 32) < 256 := by decide +kernel
theorem lower_any (c : Nat) (w : World) (h : c < 256) : Calls Tryz.prog 217 #[.int .u8 (c : Int)] w fun e w' => e = .returned (.int .u8 ((c ||| 32 : Nat) : Int)) ∧ w' = w := by
  have ho := or32 ⟨c, h⟩
  simp only at ho
  go_enter Tryz.func217, Tryz.ntmps217
  go_wp2
  go_ret
  exact ⟨rfl, rfl⟩
theorem bytesWorld_below (w : World) (e : TypeId) (s : ByteArray) : Below w.heap.size w (Lib.bytesWorld w e s) := ⟨rfl, rfl, rfl, by rw [Lib.bytesWorld_size]; exact Nat.le_succ _, fun k hk => Lib.bytesWorld_at_old w e s k hk⟩
set_option maxHeartbeats 8000000 in
set_option maxRecDepth 100000 in
theorem parseUint_i (t : ByteArray) (w : World) (h1 : t.size ≠ 0) (h2 : t.size ≤ 2) :
    Calls Tryz.prog 213 #[.string t, .int .i64 16, .int .i64 8] w fun e w' => e = .returned (puVal (puG 0 t.data.toList)) ∧ Below w.heap.size w w' := by
  have hemp : t.toList.isEmpty = false := empty_not t h1
  have hcv := Lib.run_convert_string_bytes (P := Tryz.prog) w 9 124 5 t (u := .string) Tryz.underlying9 Tryz.underlying124 Tryz.underlying5
  have hB : ∀ j, j < t.size → (Lib.bytesWorld w 5 t).cell? ⟨w.heap.size, j, none⟩ = some (.int .u8 (t.data.toList.getD j 0).toNat) := fun j hj => Lib.bytesWorld_cell w 5 t j hj
  have HW : Hid (Below w.heap.size w (Lib.bytesWorld w 5 t)) := bytesWorld_below w _ t
  generalize Lib.bytesWorld w 5 t = W1 at *
  obtain ⟨bs, hL⟩ : ∃ bs, bs = t.data.toList := ⟨_, rfl⟩
  have hLn : bs.length = t.size := by rw [hL, Lib.size_eq]
  rw [← hL] at hB ⊢
  clear hL h1
  have hmv : IntKind.u64.wrap (IntKind.u64.wrap 256 - 1) = 255 := by decide +kernel
  go_enter Tryz.func213, Tryz.ntmps213
  go_wp2
  go_loop [12, 13, 101] (fun vu vn vi => ∃ (k acc : Nat) (a : Int), vu = .bool false ∧ vn = .int .u64 a ∧ vi = .int .i64 k ∧ k ≤ t.size ∧ Hid (a = (acc : Int) ∧ (k = 0 → acc = 0) ∧ (k = 1 → acc < 16) ∧ acc < 256 ∧ puG 0 bs = puG acc (bs.drop k)))
    (fun _ _ vi => t.size - (intOf vi).toNat)
  case atStart => exact ⟨0, 0, 0, rfl, rfl, rfl, by omega, rfl, fun _ => rfl, fun h => by omega, by omega, rfl⟩
  case round =>
    obtain ⟨k, acc, a, rfl, rfl, rfl, hk, hh⟩ := hrel
    obtain ⟨ha, hk0, hk1, hacc, hdec⟩ := hh.out
    clear hh
    by_cases hkn : k < t.size
    · have hc := hB k hkn
      have hdrop : bs.drop k = bs[k]'(by omega) :: bs.drop (k + 1) := List.drop_eq_getElem_cons (by omega)
      have hget : bs.getD k 0 = bs[k]'(by omega) := by simp [List.getD, List.getElem?_eq_getElem (show k < bs.length by omega)]
      rw [hdrop] at hdec
      rw [hget] at hc
      generalize bs[k]'(by omega) = c at hc hdec
      have hc256 : c.toNat < 256 := c.toNat_lt
      have hacc16 : acc < 16 := by
        rcases Nat.lt_or_ge 0 k with h | h
        · exact hk1 (by omega)
        · rw [hk0 (by omega)]; decide
      clear hB hdrop hget
      by_cases hdig : 48 ≤ c.toNat ∧ c.toNat ≤ 57
      · have hF : puG acc (c :: bs.drop (k + 1)) = puG (16 * acc + (c.toNat - 48)) (bs.drop (k + 1)) := by
          simp only [puG, puD, if_pos hdig]
        obtain ⟨hd0, hd1⟩ := hdig
        have HN : Hid (a * 16 + ((c.toNat : Int) - 48) = ((16 * acc + (c.toNat - 48) : Nat) : Int) ∧ (k + 1 = 0 → 16 * acc + (c.toNat - 48) = 0) ∧ (k + 1 = 1 → 16 * acc + (c.toNat - 48) < 16) ∧ 16 * acc + (c.toNat - 48) < 256 ∧ puG 0 bs = puG (16 * acc + (c.toNat - 48)) (bs.drop (k + 1))) := ⟨by omega, fun h => by omega, fun h => by have := hk0 (by omega); omega, by omega, hdec.trans hF⟩
        have a0 : 0 ≤ a := by omega
        have a1 : a < 16 := by omega
        clear hF hdec ha hk0 hk1 hacc hacc16
        go_wp2
        refine ⟨⟨k + 1, 16 * acc + (c.toNat - 48), a * 16 + ((c.toNat : Int) - 48), rfl, (by first | rfl | (congr 1; omega)), (by first | rfl | (congr 1; omega)), by omega, HN⟩, by simp [intOf]; omega⟩
      · have ho := or32_lt ⟨c.toNat, hc256⟩
        simp only at ho
        by_cases hlet : 97 ≤ (c.toNat ||| 32) ∧ (c.toNat ||| 32) ≤ 102
        · have hF : puG acc (c :: bs.drop (k + 1)) = puG (16 * acc + ((c.toNat ||| 32) - 87)) (bs.drop (k + 1)) := by
            simp only [puG, puD, if_neg hdig, if_pos hlet]
          have HL : Hid (∀ w : World, Calls Tryz.prog 217 #[.int .u8 (c.toNat : Int)] w fun e w' => e = .returned (.int .u8 ((c.toNat ||| 32 : Nat) : Int)) ∧ w' = w) := fun w => lower_any c.toNat w hc256
          generalize (c.toNat ||| 32) = m at *
          obtain ⟨hm0, hm1⟩ := hlet
          have HN : Hid (a * 16 + ((m : Int) - 87) = ((16 * acc + (m - 87) : Nat) : Int) ∧ (k + 1 = 0 → 16 * acc + (m - 87) = 0) ∧ (k + 1 = 1 → 16 * acc + (m - 87) < 16) ∧ 16 * acc + (m - 87) < 256 ∧ puG 0 bs = puG (16 * acc + (m - 87)) (bs.drop (k + 1))) := ⟨by omega, fun h => by omega, fun h => by have := hk0 (by omega); omega, by omega, hdec.trans hF⟩
          have a0 : 0 ≤ a := by omega
          have a1 : a < 16 := by omega
          have n95 : ((c.toNat : Int) == 95) = false ∨ ((c.toNat : Int) == 95) = true := by cases ((c.toNat : Int) == 95) <;> simp
          have nd : (decide ((48 : Int) ≤ c.toNat) = false) ∨ (decide ((48 : Int) ≤ c.toNat) = true ∧ decide ((c.toNat : Int) ≤ 57) = false) := by
            by_cases h48 : 48 ≤ c.toNat
            · exact .inr ⟨by simp; omega, by simp; omega⟩
            · exact .inl (by simp; omega)
          have d1 : decide ((97 : Int) ≤ m) = true := by simp; omega
          have d2 : decide ((m : Int) ≤ 122) = true := by simp; omega
          clear hF hdec ha hk0 hk1 hacc hacc16 hdig
          rcases nd with nd | ⟨nd, nd2⟩
          all_goals
            rcases n95 with n95 | n95
            all_goals
              go_wp2_with (go_at_call 217; refine (HL.out _).mono ?_; rintro e w' ⟨rfl, rfl⟩)
              refine ⟨⟨k + 1, 16 * acc + (m - 87), a * 16 + ((m : Int) - 87), rfl, (by first | rfl | (congr 1; omega)), (by first | rfl | (congr 1; omega)), by omega, HN⟩, by simp [intOf]; omega⟩
        · have hF : puG acc (c :: bs.drop (k + 1)) = none := by
            simp only [puG, puD, if_neg hdig, if_neg hlet]
          have HD : Hid (puG 0 bs = none) := hdec.trans hF
          have HL : Hid (∀ w : World, Calls Tryz.prog 217 #[.int .u8 (c.toNat : Int)] w fun e w' => e = .returned (.int .u8 ((c.toNat ||| 32 : Nat) : Int)) ∧ w' = w) := fun w => lower_any c.toNat w hc256
          generalize (c.toNat ||| 32) = m at *
          have n95 : ((c.toNat : Int) == 95) = false ∨ ((c.toNat : Int) == 95) = true := by cases ((c.toNat : Int) == 95) <;> simp
          have nd : (decide ((48 : Int) ≤ c.toNat) = false) ∨ (decide ((48 : Int) ≤ c.toNat) = true ∧ decide ((c.toNat : Int) ≤ 57) = false) := by
            by_cases h48 : 48 ≤ c.toNat
            · exact .inr ⟨by simp; omega, by simp; omega⟩
            · exact .inl (by simp; omega)
          have nm : (decide ((97 : Int) ≤ m) = false) ∨ (decide ((97 : Int) ≤ m) = true ∧ decide ((m : Int) ≤ 122) = false) ∨ (decide ((97 : Int) ≤ m) = true ∧ decide ((m : Int) ≤ 122) = true ∧ 103 ≤ m ∧ m ≤ 122) := by
            by_cases h97 : 97 ≤ m
            · by_cases h122 : m ≤ 122
              · exact .inr (.inr ⟨by simp; omega, by simp; omega, by omega, h122⟩)
              · exact .inr (.inl ⟨by simp; omega, by simp; omega⟩)
            · exact .inl (by simp; omega)
          clear hF hdec ha hk0 hk1 hacc hacc16 hdig hlet
          rcases nd with nd | ⟨nd, nd2⟩
          all_goals
            rcases n95 with n95 | n95
            all_goals
              rcases nm with nm | ⟨nm, nm2⟩ | ⟨nm, nm2, nm3, nm4⟩
              all_goals
                go_wp2_with (go_at_call 217; refine (HL.out _).mono ?_; rintro e w' ⟨rfl, rfl⟩)
                go_ret2
                exact ⟨by rw [HD.out]; rfl, HW.out⟩
    · have hkk : k = t.size := by omega
      subst hkk
      have hF : puG acc (bs.drop t.size) = some acc := by rw [List.drop_eq_nil_of_le (by omega)]; rfl
      rw [hF] at hdec
      have HD : Hid (puG 0 bs = some acc) := hdec
      subst ha
      clear hacc hF hk0 hk1 hdec hB
      go_wp2
      go_ret2
      exact ⟨by rw [HD.out]; rfl, HW.out⟩
end Go.Proofs.YtbekpemidpngaaaGreatDoor.V
/- value.scanNumbered, scanEscape, scanRune at any text: walks. -/
namespace Go.Proofs.YtbekpemidpngaaaGreatDoor.V
open Go.RowKit

/-- What scanning a rune hands back. -/
def srV : Option (Nat × Nat) → Value
  | some p => .tuple #[.int .i32 (p.1 : Int), .int .i64 (p.2 : Int)]
  | none => .tuple #[.int .i32 0, .int .i64 0]
/-- What the variable of syntax errors holds. -/
def ES (w : World) : Prop := ∃ ev, w.cell? ⟨6, 0, none⟩ = some ev ∧ (ev = .nilIface ∨ ∃ te pe, ev = .iface te pe)
theorem ES_below {w w' : World} (h : ES w) (hb : Below w.heap.size w w') : ES w' := by
  obtain ⟨ev, h1, h2⟩ := h
  exact ⟨ev, (hb.cell (p := ⟨6, 0, none⟩) (World.block_lt_of_cell? _ _ h1)).trans h1, h2⟩
theorem parseUint_ok (t : ByteArray) (n : Nat) (w : World) (h1 : t.size ≠ 0) (h2 : t.size ≤ 2) (h : puL t.data.toList = some n) :
    Calls Tryz.prog 204 #[.string t, .int .i64 16, .int .i64 8] w fun e w' => e = .returned (.tuple #[.int .u64 (n : Int), .nilIface]) ∧ Below w.heap.size w w' := by
  have hp : puVal (puG 0 t.data.toList) = .tuple #[.int .u64 (n : Int), .nilIface] := by
    rw [puG_puL (by rw [← Lib.size_eq]; exact h1) (by rw [← Lib.size_eq]; exact h2), h]; rfl
  clear h
  go_enter Tryz.func204, Tryz.ntmps204
  go_wp2_with fail
  refine (parseUint_i t _ h1 h2).mono ?_
  rintro e w1 ⟨rfl, hb1⟩
  rw [hp]
  clear hp
  go_wp2
  go_ret2
  exact ⟨rfl, hb1⟩
/-- A syntax error. -/
def NoPost (w : World) (e : Ending) (w' : World) : Prop := (∃ q, e = .returned (.tuple #[.int .u64 0, .iface 261 (.pointer q)])) ∧ Below w.heap.size w w'
theorem parseUint_no (t : ByteArray) (w : World) (hE : ES w) (h1 : t.size ≠ 0) (h2 : t.size ≤ 2) (h : puL t.data.toList = none) :
    Calls Tryz.prog 204 #[.string t, .int .i64 16, .int .i64 8] w fun e w' => NoPost w e w' := by
  have hp : puVal (puG 0 t.data.toList) = .tuple #[.int .u64 0, .iface 259 (.int .i64 2)] := by
    rw [puG_puL (by rw [← Lib.size_eq]; exact h1) (by rw [← Lib.size_eq]; exact h2), h]; rfl
  clear h
  go_enter Tryz.func204, Tryz.ntmps204
  go_wp2_with fail
  refine (parseUint_i t _ h1 h2).mono ?_
  rintro e w1 ⟨rfl, hb1⟩
  rw [hp]
  clear hp
  obtain ⟨ev, e1, e2⟩ := ES_below hE hb1
  have HE : Hid (w1.cell? ⟨6, 0, none⟩ = some ev) := e1
  have HF : Hid (ev = .nilIface ∨ ∃ te pe, ev = .iface te pe) := e2
  clear e1 e2
  go_wp2_with fail
  refine (Tryz.strconv_toError_syntax _ _ _ _ ev _ (by omega) HE.out HF.out).mono ?_
  rintro e w2 ⟨N, rfl, -, -, hb2⟩
  have hB2 : Hid (Below w.heap.size w w2) := hb1.trans (hb2.mono hb1.size)
  clear hb2 HE HF
  go_wp2
  go_ret2
  exact ⟨⟨_, rfl⟩, hB2.out⟩
theorem take_list (s : ByteArray) (m : Nat) : (s.extract 0 m).data.toList = s.data.toList.take m := by
  rw [Lib.extract_data]
  simp
theorem mid_list (s : ByteArray) (a b : Nat) : (s.extract a b).data.toList = (s.data.toList.drop a).take (b - a) := Lib.extract_data ..
theorem beq_str (a b : ByteArray) : (a.toList == b.toList) = decide (a = b) := by
  rw [Bool.eq_iff_iff, beq_iff_eq, decide_eq_true_eq, ByteArray.toList_eq, ByteArray.toList_eq]
  exact ⟨ba_eq, fun h => by rw [h]⟩
theorem bneq_str {a b : ByteArray} (h : ¬ a = b) : (!a.toList == b.toList) = true := by rw [beq_str, decide_eq_false h]; rfl
theorem SN_call {w0 W w' : World} (hb : Below W.heap.size W w') (h : T16 W ∧ Below w0.heap.size w0 W) : T16 w' ∧ Below w0.heap.size w0 w' := ⟨T16_below h.1 hb, h.2.trans (hb.mono h.2.size)⟩
theorem SN_drew {w0 W : World} (h : T16 W ∧ Below w0.heap.size w0 W) : T16 W.drew ∧ Below w0.heap.size w0 W.drew := ⟨h.1, h.2.drew⟩
theorem min6 (s : ByteArray) : (s.extract 0 (min (s.size : Int) 6).toNat).data.toList = s.data.toList.take 6 := by
  rw [take_list]
  by_cases h : s.size ≤ 6
  · rw [show (min (s.size : Int) 6).toNat = s.size by omega, List.take_of_length_le (by rw [← Lib.size_eq]; exact Nat.le_refl _), List.take_of_length_le (by rw [← Lib.size_eq]; exact h)]
  · rw [show (min (s.size : Int) 6).toNat = 6 by omega]
theorem ixb_any (s : ByteArray) (w : World) : Calls Tryz.prog 135 #[.string (s.extract 0 (min (s.size : Int) 6).toNat), .int .u8 125] w fun e w' => e = .returned (.int .i64 (Lib.indexByte (s.data.toList.take 6) 125)) ∧ w' = w := by
  have := Tryz.strings_IndexByte (s.extract 0 (min (s.size : Int) 6).toNat) 125 w
  rw [min6] at this
  exact this
set_option maxRecDepth 100000 in
set_option maxHeartbeats 2000000 in
theorem scanNum_no (s : ByteArray) (w : World) (hs : s.size ≤ 140737488355328) (hJ : Lib.indexByte (s.data.toList.take 6) 125 < 4) :
    Calls Tryz.prog 186 #[.string s] w fun e w' => e = .returned (.tuple #[.int .i32 0, .int .i64 0]) ∧ Below w.heap.size w w' := by
  have hge := Lib.indexByte_ge (s.data.toList.take 6) 125
  have HI : Hid (∀ w, Calls Tryz.prog 135 #[.string (s.extract 0 (min (s.size : Int) 6).toNat), .int .u8 125] w fun e w' => e = .returned (.int .i64 (Lib.indexByte (s.data.toList.take 6) 125)) ∧ w' = w) := fun w => ixb_any s w
  generalize Lib.indexByte (s.data.toList.take 6) 125 = J at *
  go_enter Tryz.func186, Tryz.ntmps186
  go_wp2_with fail
  refine (HI.out _).mono ?_
  rintro e w1 ⟨rfl, rfl⟩
  go_wp2
  go_ret2
  exact ⟨rfl, Below.refl _ _⟩
set_option maxRecDepth 100000 in
set_option maxHeartbeats 2000000 in
theorem scanNum_err (s : ByteArray) (w : World) (hs : s.size ≤ 140737488355328) (J : Nat) (hJ : Lib.indexByte (s.data.toList.take 6) 125 = (J : Int)) (h4 : J = 4 ∨ J = 5) (hz : J < s.size) (hE : ES w) (hp : puL (s.extract 3 J).data.toList = none) :
    Calls Tryz.prog 186 #[.string s] w fun e w' => e = .returned (.tuple #[.int .i32 0, .int .i64 0]) ∧ Below w.heap.size w w' := by
  have HI : Hid (∀ w, Calls Tryz.prog 135 #[.string (s.extract 0 (min (s.size : Int) 6).toNat), .int .u8 125] w fun e w' => e = .returned (.int .i64 (J : Int)) ∧ w' = w) := fun w => by rw [← hJ]; exact ixb_any s w
  have hms : (s.extract 3 J).size = J - 3 := by rw [ByteArray.size_extract]; omega
  have HP : Hid (∀ w, ES w → Calls Tryz.prog 204 #[.string (s.extract 3 J), .int .i64 16, .int .i64 8] w fun e w' => NoPost w e w') := fun w h => parseUint_no _ w h (by omega) (by omega) hp
  have hz' : (J : Int) ≤ s.size := by omega
  clear hJ hp hms
  rcases h4 with rfl | rfl
  all_goals
    go_enter Tryz.func186, Tryz.ntmps186
    go_wp2_with fail
    refine (HI.out _).mono ?_
    rintro e w1 ⟨rfl, rfl⟩
    go_wp2_with fail
    refine (HP.out _ hE).mono ?_
    rintro e w2 ⟨⟨q, rfl⟩, hb2⟩
    go_wp2
    go_region
    all_goals go_wp2
    all_goals go_ret2
    all_goals exact ⟨rfl, by first | assumption | exact Below.drew (by assumption)⟩
set_option maxRecDepth 100000 in
set_option maxHeartbeats 2000000 in
theorem scanNum_ok (s : ByteArray) (w : World) (hs : s.size ≤ 140737488355328) (J n : Nat) (hJ : Lib.indexByte (s.data.toList.take 6) 125 = (J : Int)) (h4 : J = 4 ∨ J = 5) (hz : J < s.size) (hT : T16 w) (hp : puL (s.extract 3 J).data.toList = some n) :
    Calls Tryz.prog 186 #[.string s] w fun e w' => e = .returned (if str (shR n) = s.extract 0 (J + 1) then .tuple #[.int .i32 (n : Int), .int .i64 ((J + 1 : Nat) : Int)] else .tuple #[.int .i32 0, .int .i64 0]) ∧ Below w.heap.size w w' := by
  have hn := puL_lt hp
  have HI : Hid (∀ w, Calls Tryz.prog 135 #[.string (s.extract 0 (min (s.size : Int) 6).toNat), .int .u8 125] w fun e w' => e = .returned (.int .i64 (J : Int)) ∧ w' = w) := fun w => by rw [← hJ]; exact ixb_any s w
  have hms : (s.extract 3 J).size = J - 3 := by rw [ByteArray.size_extract]; omega
  have HP : Hid (∀ w, Calls Tryz.prog 204 #[.string (s.extract 3 J), .int .i64 16, .int .i64 8] w fun e w' => e = .returned (.tuple #[.int .u64 (n : Int), .nilIface]) ∧ Below w.heap.size w w') := fun w => parseUint_ok _ n w (by omega) (by omega) hp
  have HS : Hid (∀ w, T16 w → Calls Tryz.prog 143 #[.int .i32 (n : Int)] w fun e w' => e = .returned (.string (str (shR n))) ∧ Below w.heap.size w w') := fun w h => showRune_all n w (.inl (by omega)) h
  have hz' : (J : Int) ≤ s.size := by omega
  generalize str (shR n) = Y at *
  clear hJ hp hms
  have key : ∀ (C : Bool), C = decide (Y = s.extract 0 (J + 1)) → Calls Tryz.prog 186 #[.string s] w fun e w' => e = .returned (if C = true then .tuple #[.int .i32 (n : Int), .int .i64 ((J + 1 : Nat) : Int)] else .tuple #[.int .i32 0, .int .i64 0]) ∧ Below w.heap.size w w' := by
    intro C hC
    rcases h4 with rfl | rfl
    all_goals
      have hz5 : (5 : Int) ≤ s.size := by omega
      try (have hz6 : (6 : Int) ≤ s.size := by omega)
      cases C
      · have hc : ¬ Y = s.extract 0 _ := of_decide_eq_false hC.symm
        simp only [Nat.reduceAdd] at hc
        have hq := bneq_str hc
        clear hC hc
        go_enter Tryz.func186, Tryz.ntmps186
        go_wp2_with fail
        refine (HI.out _).mono ?_
        rintro e w1 ⟨rfl, rfl⟩
        go_wp2_with fail
        refine (HP.out _).mono ?_
        rintro e w2 ⟨rfl, hb2⟩
        have hT2 : T16 w2 ∧ Below w1.heap.size w1 w2 := ⟨T16_below hT hb2, hb2⟩
        clear hb2
        go_wp2
        go_region_held3 (fun w' => T16 w' ∧ Below w1.heap.size w1 w') (first | assumption | exact SN_call (by assumption) (by assumption) | exact SN_drew (by assumption)) (first | (go_at_call 143; refine (HS.out _ ?_).mono ?_; exact (show T16 _ ∧ _ by assumption).1; rintro e w' ⟨rfl, hb⟩))
        all_goals go_wp2
        all_goals go_ret2
        all_goals exact ⟨rfl, (show T16 _ ∧ _ by assumption).2⟩
      · have hc : Y = s.extract 0 _ := of_decide_eq_true hC.symm
        simp only [Nat.reduceAdd] at hc
        clear hC
        subst hc
        go_enter Tryz.func186, Tryz.ntmps186
        go_wp2_with fail
        refine (HI.out _).mono ?_
        rintro e w1 ⟨rfl, rfl⟩
        go_wp2_with fail
        refine (HP.out _).mono ?_
        rintro e w2 ⟨rfl, hb2⟩
        have hT2 : T16 w2 ∧ Below w1.heap.size w1 w2 := ⟨T16_below hT hb2, hb2⟩
        clear hb2
        go_wp2
        go_region_held3 (fun w' => T16 w' ∧ Below w1.heap.size w1 w') (first | assumption | exact SN_call (by assumption) (by assumption) | exact SN_drew (by assumption)) (first | (go_at_call 143; refine (HS.out _ ?_).mono ?_; exact (show T16 _ ∧ _ by assumption).1; rintro e w' ⟨rfl, hb⟩))
        all_goals go_wp2
        all_goals go_ret2
        all_goals exact ⟨rfl, (show T16 _ ∧ _ by assumption).2⟩
  have := key _ rfl
  simpa using this
theorem str_inj {a b : List UInt8} (h : str a = str b) : a = b := by rw [← str_data a, h, str_data]
theorem ext5 (s : ByteArray) (m : Nat) : s.extract 0 m = str (s.data.toList.take m) := ba_eq (by rw [str_data, Lib.extract_data]; simp)
/-- scanNumbered at any text that opens with a back stroke and an u. -/
theorem scanNum_any (s : ByteArray) (u : List UInt8) (w : World) (hs : s.size ≤ 140737488355328) (hu : s.data.toList = 92 :: 117 :: u) (hT : T16 w) (hE : ES w) :
    Calls Tryz.prog 186 #[.string s] w fun e w' => e = .returned (srV ((escL s.data.toList).map fun c => (c, (shR c).length))) ∧ Below w.heap.size w w' := by
  have hsz : s.size = u.length + 2 := by rw [Lib.size_eq, hu]; rfl
  rcases ix_cases u with h | ⟨h, a, b, t, rfl⟩ | ⟨h, a, b, c, t, rfl⟩
  · rw [hu, esc_num_no h]
    exact scanNum_no s w hs (by rw [hu]; exact h)
  · have hm : (s.extract 3 4).data.toList = [b] := by rw [mid_list, hu]; rfl
    have h5 : s.extract 0 (4 + 1) = str [92, 117, a, b, 125] := by rw [ext5, hu]; rfl
    rw [hu, esc_num1 h]
    cases hp : puL [b] with
    | none => exact scanNum_err s w hs 4 (by rw [hu]; exact h) (.inl rfl) (by rw [hsz]; simp) hE (by rw [hm]; exact hp)
    | some n =>
      have := scanNum_ok s w hs 4 n (by rw [hu]; exact h) (.inl rfl) (by rw [hsz]; simp) hT (by rw [hm]; exact hp)
      rw [h5] at this
      have e : (srV (((some n).bind fun n => if shR n = [92, 117, a, b, 125] then some n else none).map fun c => (c, (shR c).length))) = if str (shR n) = str [92, 117, a, b, 125] then Value.tuple #[.int .i32 (n : Int), .int .i64 ((4 + 1 : Nat) : Int)] else .tuple #[.int .i32 0, .int .i64 0] := by
        by_cases hc : shR n = [92, 117, a, b, 125]
        · simp [hc, srV]
        · rw [if_neg (fun e => hc (str_inj e))]
          simp [hc, srV]
      rw [e]
      exact this
  · have hm : (s.extract 3 5).data.toList = [b, c] := by rw [mid_list, hu]; rfl
    have h6 : s.extract 0 (5 + 1) = str [92, 117, a, b, c, 125] := by rw [ext5, hu]; rfl
    rw [hu, esc_num2 h]
    cases hp : puL [b, c] with
    | none => exact scanNum_err s w hs 5 (by rw [hu]; exact h) (.inr rfl) (by rw [hsz]; simp) hE (by rw [hm]; exact hp)
    | some n =>
      have := scanNum_ok s w hs 5 n (by rw [hu]; exact h) (.inr rfl) (by rw [hsz]; simp) hT (by rw [hm]; exact hp)
      rw [h6] at this
      have e : (srV (((some n).bind fun n => if shR n = [92, 117, a, b, c, 125] then some n else none).map fun c => (c, (shR c).length))) = if str (shR n) = str [92, 117, a, b, c, 125] then Value.tuple #[.int .i32 (n : Int), .int .i64 ((5 + 1 : Nat) : Int)] else .tuple #[.int .i32 0, .int .i64 0] := by
        by_cases hc : shR n = [92, 117, a, b, c, 125]
        · simp [hc, srV]
        · rw [if_neg (fun e => hc (str_inj e))]
          simp [hc, srV]
      rw [e]
      exact this
theorem gN_list (s : ByteArray) (i : Nat) (h : i < s.size) : gN s i = (s.data.toList.getD i 0).toNat := by
  rw [← gN_of s i h, List.getD_eq_getElem?_getD, List.getElem?_eq_getElem (by rw [← Lib.size_eq]; exact h)]
  rfl
set_option maxRecDepth 100000 in
set_option maxHeartbeats 2000000 in
theorem scanEscape_any (s : ByteArray) (w : World) (hs : s.size ≤ 140737488355328) (hh : s.data.toList.head? = some 92) (hT : T16 w) (hE : ES w) :
    Calls Tryz.prog 170 #[.string s] w fun e w' => e = .returned (srV ((escL s.data.toList).map fun c => (c, (shR c).length))) ∧ Below w.heap.size w w' := by
  have hse : s.size = s.data.toList.length := Lib.size_eq s
  obtain ⟨l', hl⟩ : ∃ t, s.data.toList = 92 :: t := by
    cases e : s.data.toList with
    | nil => rw [e] at hh; cases hh
    | cons b t => rw [e] at hh; simp only [List.head?_cons, Option.some.injEq] at hh; exact ⟨t, by rw [hh]⟩
  rw [hl]
  cases l' with
  | nil =>
    rw [hl] at hse
    have hd : decide ((s.size : Int) < 2) = true := by rw [hse]; rfl
    rw [esc_one]
    clear hl hse hh
    go_enter Tryz.func170, Tryz.ntmps170
    go_wp2
    go_ret2
    exact ⟨rfl, Below.refl _ _⟩
  | cons b t =>
    rw [hl] at hse
    have hd : decide ((s.size : Int) < 2) = false := by rw [hse]; simp only [List.length_cons, decide_eq_false_iff_not]; omega
    have h1 : 1 < s.size := by rw [hse]; simp
    have h1' : (1 : Int) < s.size := by omega
    have hg := gN_of s 1 h1
    have hb : gN s 1 = b.toNat := by rw [gN_list s 1 h1, hl]; rfl
    have hlt := gN_lt s 1
    have HB : Hid (gN s 1 = b.toNat) := hb
    have key : ∀ x : UInt8, b = x ∨ ((gN s 1 : Int) == (x.toNat : Int)) = false := fun x => by
      by_cases e : b = x
      · exact .inl e
      · refine .inr ?_
        rw [beq_eq_false_iff_ne, HB.out]
        intro h
        exact e (UInt8.toNat_inj.1 (by omega))
    have k1 := key 34
    have k2 := key 92
    have k3 := key 110
    have k4 := key 116
    have k5 := key 114
    have k6 := key 117
    have HN : Hid (b = 117 → Calls Tryz.prog 186 #[.string s] w fun e w' => e = .returned (srV ((escL s.data.toList).map fun c => (c, (shR c).length))) ∧ Below w.heap.size w w') := fun e => scanNum_any s t w hs (by rw [hl, e]) hT hE
    rw [hl] at HN
    clear hl hse hh hb key
    rcases k1 with rfl | k1
    · have e34 : gN s 1 = 34 := HB.out
      rw [e34] at hg
      rw [esc_q]
      clear HN HB e34 hlt k2 k3 k4 k5 k6
      go_enter Tryz.func170, Tryz.ntmps170
      go_wp2
      go_ret2
      exact ⟨rfl, Below.refl _ _⟩
    rcases k2 with rfl | k2
    · have e34 : gN s 1 = 92 := HB.out
      rw [e34] at hg
      rw [esc_b]
      clear HN HB e34 hlt k1 k3 k4 k5 k6
      go_enter Tryz.func170, Tryz.ntmps170
      go_wp2
      go_ret2
      exact ⟨rfl, Below.refl _ _⟩
    rcases k3 with rfl | k3
    · have e34 : gN s 1 = 110 := HB.out
      rw [e34] at hg
      rw [esc_n]
      clear HN HB e34 hlt k1 k2 k4 k5 k6
      go_enter Tryz.func170, Tryz.ntmps170
      go_wp2
      go_ret2
      exact ⟨rfl, Below.refl _ _⟩
    rcases k4 with rfl | k4
    · have e34 : gN s 1 = 116 := HB.out
      rw [e34] at hg
      rw [esc_t]
      clear HN HB e34 hlt k1 k2 k3 k5 k6
      go_enter Tryz.func170, Tryz.ntmps170
      go_wp2
      go_ret2
      exact ⟨rfl, Below.refl _ _⟩
    rcases k5 with rfl | k5
    · have e34 : gN s 1 = 114 := HB.out
      rw [e34] at hg
      rw [esc_r]
      clear HN HB e34 hlt k1 k2 k3 k4 k6
      go_enter Tryz.func170, Tryz.ntmps170
      go_wp2
      go_ret2
      exact ⟨rfl, Below.refl _ _⟩
    rcases k6 with rfl | k6
    · have e34 : gN s 1 = 117 := HB.out
      rw [e34] at hg
      have HN2 := HN.out rfl
      cases hX : escL (92 :: 117 :: t) with
      | none =>
        rw [hX] at HN2
        have HN3 : Hid (Calls Tryz.prog 186 #[.string s] w fun e w' => e = .returned (.tuple #[.int .i32 0, .int .i64 0]) ∧ Below w.heap.size w w') := HN2
        clear HN HB e34 hlt k1 k2 k3 k4 k5 HN2 hX
        go_enter Tryz.func170, Tryz.ntmps170
        go_wp2_with fail
        refine (Calls.mono HN3.out) ?_
        rintro e w1 ⟨rfl, hb1⟩
        go_wp2
        go_ret2
        exact ⟨rfl, hb1⟩
      | some c =>
        rw [hX] at HN2
        have HN3 : Hid (Calls Tryz.prog 186 #[.string s] w fun e w' => e = .returned (.tuple #[.int .i32 (c : Int), .int .i64 ((shR c).length : Int)]) ∧ Below w.heap.size w w') := HN2
        clear HN HB e34 hlt k1 k2 k3 k4 k5 HN2 hX
        go_enter Tryz.func170, Tryz.ntmps170
        go_wp2_with fail
        refine (Calls.mono HN3.out) ?_
        rintro e w1 ⟨rfl, hb1⟩
        go_wp2
        go_ret2
        exact ⟨rfl, hb1⟩
    · have HE : Hid (escL (92 :: b :: t) = none) := by
        have hne : ∀ x : UInt8, ((gN s 1 : Int) == (x.toNat : Int)) = false → b ≠ x := fun x h e => by
          rw [beq_eq_false_iff_ne] at h
          exact h (by rw [HB.out, e])
        exact esc_other (hne 34 k1) (hne 92 k2) (hne 110 k3) (hne 116 k4) (hne 114 k5) (hne 117 k6)
      rw [HE.out]
      simp only [show (34 : UInt8).toNat = 34 from rfl, show (92 : UInt8).toNat = 92 from rfl, show (110 : UInt8).toNat = 110 from rfl, show (116 : UInt8).toNat = 116 from rfl, show (114 : UInt8).toNat = 114 from rfl, show (117 : UInt8).toNat = 117 from rfl] at k1 k2 k3 k4 k5 k6
      have k1' : ((gN s 1 : Int) == 34) = false := k1
      have k2' : ((gN s 1 : Int) == 92) = false := k2
      have k3' : ((gN s 1 : Int) == 110) = false := k3
      have k4' : ((gN s 1 : Int) == 116) = false := k4
      have k5' : ((gN s 1 : Int) == 114) = false := k5
      have k6' : ((gN s 1 : Int) == 117) = false := k6
      clear HN HB k1 k2 k3 k4 k5 k6 HE
      generalize gN s 1 = y at *
      go_enter Tryz.func170, Tryz.ntmps170
      go_wp2
      go_ret2
      exact ⟨rfl, Below.refl _ _⟩
end Go.Proofs.YtbekpemidpngaaaGreatDoor.V
/- strings.Builder's WriteRune of any rune: its walk. -/
namespace Go.Proofs.YtbekpemidpngaaaGreatDoor.V
open Go.RowKit

theorem encRune_is {c : Nat} (hs : scal c) : Lib.encodeRune (c : Int) = enc c := by
  by_cases h1 : c < 128
  · rw [enc1 h1, Lib.encodeRune, Lib.encodeRuneZ_one (by omega) (by omega)]; simp
  by_cases h2 : c < 2048
  · rw [enc2 (by omega) h2, Lib.encodeRune, Lib.encodeRuneZ_two (by omega) (by omega)]
    simp only [List.map_cons, List.map_nil]
    congr 1
  by_cases h3 : c < 65536
  · rw [enc3 (by omega) h3 hs, Lib.encodeRune, Lib.encodeRuneZ_three (by unfold scal at hs; omega)]
    simp only [List.map_cons, List.map_nil]
    congr 1
  · rw [enc4 (by omega) hs, Lib.encodeRune, Lib.encodeRuneZ_four (by omega) (by unfold scal at hs; omega)]
    simp only [List.map_cons, List.map_nil]
    congr 1
theorem cells_rune {c : Nat} (hs : scal c) : Lib.runeCells (c : Int) = Lib.byteCells (enc c) := by rw [← Lib.byteCells_encodeRune, encRune_is hs]
theorem appendRune_any (B : Nat) (v : Value) (n : Nat) (xs : List Value) (c : Nat) (w : World) (hs : scal c) (hown : w.ownsRowF B 5 1 v n xs) (hlen : n + 4 ≤ 140737488355328) (hBw : B ≤ w.heap.size) :
    Calls Tryz.prog 171 #[v, .int .i32 (c : Int)] w fun e w' => ArPost B (xs ++ Lib.byteCells (enc c)) w e w' := by
  have hc : c ≤ 1114111 := by unfold scal at hs; omega
  have hxl : xs.length = n := by have := hown.1; omega
  refine (Tryz.utf8_AppendRune_row B v n xs c (by omega) (by omega) w hown hlen hBw).mono ?_
  rintro e w' ⟨v', rfl, ho, o, hg⟩
  rw [cells_rune hs] at ho
  refine ⟨v', rfl, ?_, ((Below.refl _ _).alloc hBw _).grown hg (by simp; omega) (fun k hk => (hown.lt k hk).1), ((Lib.OthersKept.refl _ _ _).alloc _).grown hg (fun g hg' => by obtain ⟨c, fz, h⟩ := rowF_cells hown g hg'; exact ⟨c, fz, by rw [Lib.alloc_old w _ g (Array.getElem?_eq_some_iff.1 h).1]; exact h⟩)⟩
  rw [List.length_append, hxl]
  exact ho
set_option maxRecDepth 100000 in
set_option maxHeartbeats 2000000 in
theorem writeRune_any (B b : Nat) (bs : List Value) (c : Nat) (w : World) (hsc : scal c) (h : IsB B b bs w) (hlen : bs.length + 4 ≤ 140737488355328) (hBw : B ≤ w.heap.size) :
    Calls Tryz.prog 155 #[.pointer (some ⟨b, 0, none⟩), .int .i32 (c : Int)] w fun e w' => e = .returned (.tuple #[.int .i64 (enc c).length, .nilIface]) ∧ IsB B b (bs ++ Lib.byteCells (enc c)) w' ∧ Below B w w' ∧ Lib.OthersKept 5 (some b) w w' := by
  have HA : Hid (∀ v W, W.ownsRowF B 5 1 v bs.length bs → B ≤ W.heap.size → Calls Tryz.prog 171 #[v, .int .i32 (c : Int)] W fun e w' => ArPost B (bs ++ Lib.byteCells (enc c)) W e w') := fun v W ho hB => appendRune_any B v bs.length bs c W hsc ho hlen hB
  have hel := enc_len4 c
  have hel1 := enc_len c
  have hll : (bs ++ Lib.byteCells (enc c)).length = bs.length + (enc c).length := by rw [List.length_append, Lib.byteCells_length]
  generalize hX : Lib.byteCells (enc c) = X at *
  generalize hm : (enc c).length = m at *
  clear hX hm
  go_enter Tryz.func155, Tryz.ntmps155
  go_wp2_with (go_at_call 113; refine (copyCheck_any B b bs _ h).mono ?_)
  rintro e w1 ⟨rfl, h1, hb1, ok1⟩
  obtain ⟨hB, v, hbk, hown, hne⟩ := h1
  have c0 : w1.cell? ⟨b, 0, none⟩ = some (.pointer (some ⟨b, 0, none⟩)) := by rw [Lib.cell_of_heap hbk]; rfl
  have c1 : w1.cell? ⟨b, 1, none⟩ = some v := by rw [Lib.cell_of_heap hbk]; rfl
  obtain ⟨ao, cap, rfl⟩ : ∃ ao cap, v = .slice ao bs.length cap := by
    rcases hown.2 with ⟨hv, h0⟩ | ⟨g, cap, cur, fz, hv, _⟩
    · exact ⟨none, 0, by rw [h0]; exact hv⟩
    · exact ⟨_, _, hv⟩
  have hs1 := hb1.size
  go_wp2_with fail
  refine (HA.out _ _ hown (by omega)).mono ?_
  rintro e w2 ⟨v', rfl, hown', hb2, ok2⟩
  rw [hll] at hown'
  have hb2k : w2.heap[b]? = some (.cells #[.pointer (some ⟨b, 0, none⟩), .slice ao bs.length cap] 126 (0, 0)) := ok2 b _ hbk (by simp) (fun c fz e => by cases e)
  have d0 : w2.cell? ⟨b, 0, none⟩ = some (.pointer (some ⟨b, 0, none⟩)) := by rw [Lib.cell_of_heap hb2k]; rfl
  have d1 : w2.cell? ⟨b, 1, none⟩ = some (.slice ao bs.length cap) := by rw [Lib.cell_of_heap hb2k]; rfl
  have f1 : w2.frozen? ⟨b, 1, none⟩ = false := Lib.frozen_of_heap hb2k 1
  obtain ⟨g, cap', rfl⟩ : ∃ g cap', v' = .slice (some ⟨g, 0, none⟩) (bs.length + m) cap' := by
    rcases hown'.2 with ⟨_, h0⟩ | ⟨g, cap, cur, fz, hv, _⟩
    · omega
    · exact ⟨g, cap, hv⟩
  have HR : Hid (IsB B b (bs ++ X) (w2.setCell ⟨b, 1, none⟩ (.slice (some ⟨g, 0, none⟩) (bs.length + m) cap')) ∧ Below B w (w2.setCell ⟨b, 1, none⟩ (.slice (some ⟨g, 0, none⟩) (bs.length + m) cap')) ∧ Lib.OthersKept 5 (some b) w (w2.setCell ⟨b, 1, none⟩ (.slice (some ⟨g, 0, none⟩) (bs.length + m) cap'))) := by
    refine ⟨.inr (Lib.BuilderAtF.put (T := 126) (e := 5) hB hb2k (by rw [hll]; exact hown') (by decide)), (hb1.trans hb2).setCell (p := ⟨b, 1, none⟩) hB _, Lib.OthersKept.setCell (b := b) (ok1.trans (fun k o hk _ ho => ok2 k o hk (by simp) ho)) ⟨b, 1, none⟩ rfl _⟩
  clear hown' hown hb2 ok2 hbk hne HA hll
  go_wp2
  go_ret2
  refine ⟨by simp; omega, HR.out.1, HR.out.2.1, HR.out.2.2⟩
end Go.Proofs.YtbekpemidpngaaaGreatDoor.V
