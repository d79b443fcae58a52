/- strconv.ParseUint at base 16 and 8 bits, of one or two bytes: walks. -/
import Derived.Test.YtdendpckihckeaaGreatDoorVI
import Derived.Test.YtdendpckihckeaaGreatDoorXB
import Derived.Test.YtdendpckihckeaaGreatDoorWShelf
import Derived.Lib.ConvBytes
namespace Go.Proofs.YtdendpckihckeaaGreatDoor
open Go.RowKit

def puG : Nat → List UInt8 → Option Nat
  | acc, [] => some acc
  | acc, c :: t => match puD c with
    | none => none
    | some d => puG (16 * acc + d) t
theorem puG_puL {l : List UInt8} (h1 : l.length ≠ 0) (h2 : l.length ≤ 2) : puG 0 l = puL l := by
  match l, h1, h2 with
  | [x], _, _ =>
    simp only [puG, puL]
    cases puD x <;> simp
  | [x, y], _, _ =>
    simp only [puG, puL]
    cases puD x with
    | none => rfl
    | some d =>
      simp only
      cases puD y <;> simp
/-- What the inner ParseUint hands back. -/
def puVal : Option Nat → Value
  | some n => .tuple #[.int .u64 (n : Int), .nilIface]
  | none => .tuple #[.int .u64 0, .iface 163 (.int .i64 2)]
theorem or32 : ∀ n : Fin 256, bits BinOp.or IntKind.u8 (n.val : Int) 32 = ((n.val ||| 32 : Nat) : Int) := by decide +kernel
theorem or32_lt : ∀ n : Fin 256, (n.val ||| 32) < 256 := by decide +kernel
theorem lower_any (c : Nat) (w : World) (h : c < 256) : Calls Tryz.prog 149 #[.int .u8 (c : Int)] w fun e w' => e = .returned (.int .u8 ((c ||| 32 : Nat) : Int)) ∧ w' = w := by
  have ho := or32 ⟨c, h⟩
  simp only at ho
  go_enter Tryz.func149, Tryz.ntmps149
  go_wp2
  go_ret
  exact ⟨rfl, rfl⟩
theorem bytesWorld_below (w : World) (e : TypeId) (s : ByteArray) : Below w.heap.size w (Lib.bytesWorld w e s) := ⟨rfl, rfl, rfl, by rw [Lib.bytesWorld_size]; exact Nat.le_succ _, fun k hk => Lib.bytesWorld_at_old w e s k hk⟩
set_option maxHeartbeats 8000000 in
set_option maxRecDepth 100000 in
theorem parseUint_i (t : ByteArray) (w : World) (h1 : t.size ≠ 0) (h2 : t.size ≤ 2) :
    Calls Tryz.prog 143 #[.string t, .int .i64 16, .int .i64 8] w fun e w' => e = .returned (puVal (puG 0 t.data.toList)) ∧ Below w.heap.size w w' := by
  have hemp : t.toList.isEmpty = false := empty_not t h1
  have hcv := Lib.run_convert_string_bytes (P := Tryz.prog) w 9 85 5 t (u := .string) Tryz.underlying9 Tryz.underlying85 Tryz.underlying5
  have hB : ∀ j, j < t.size → (Lib.bytesWorld w 5 t).cell? ⟨w.heap.size, j, none⟩ = some (.int .u8 (t.data.toList.getD j 0).toNat) := fun j hj => Lib.bytesWorld_cell w 5 t j hj
  have HW : Hid (Below w.heap.size w (Lib.bytesWorld w 5 t)) := bytesWorld_below w _ t
  generalize Lib.bytesWorld w 5 t = W1 at *
  obtain ⟨bs, hL⟩ : ∃ bs, bs = t.data.toList := ⟨_, rfl⟩
  have hLn : bs.length = t.size := by rw [hL, Lib.size_eq]
  rw [← hL] at hB ⊢
  clear hL h1
  have hmv : IntKind.u64.wrap (IntKind.u64.wrap 256 - 1) = 255 := by decide +kernel
  go_enter Tryz.func143, Tryz.ntmps143
  go_wp2
  go_loop [12, 13, 101] (fun vu vn vi => ∃ (k acc : Nat) (a : Int), vu = .bool false ∧ vn = .int .u64 a ∧ vi = .int .i64 k ∧ k ≤ t.size ∧ Hid (a = (acc : Int) ∧ (k = 0 → acc = 0) ∧ (k = 1 → acc < 16) ∧ acc < 256 ∧ puG 0 bs = puG acc (bs.drop k)))
    (fun _ _ vi => t.size - (intOf vi).toNat)
  case atStart => exact ⟨0, 0, 0, rfl, rfl, rfl, by omega, rfl, fun _ => rfl, fun h => by omega, by omega, rfl⟩
  case round =>
    obtain ⟨k, acc, a, rfl, rfl, rfl, hk, hh⟩ := hrel
    obtain ⟨ha, hk0, hk1, hacc, hdec⟩ := hh.out
    clear hh
    by_cases hkn : k < t.size
    · have hc := hB k hkn
      have hdrop : bs.drop k = bs[k]'(by omega) :: bs.drop (k + 1) := List.drop_eq_getElem_cons (by omega)
      have hget : bs.getD k 0 = bs[k]'(by omega) := by simp [List.getD, List.getElem?_eq_getElem (show k < bs.length by omega)]
      rw [hdrop] at hdec
      rw [hget] at hc
      generalize bs[k]'(by omega) = c at hc hdec
      have hc256 : c.toNat < 256 := c.toNat_lt
      have hacc16 : acc < 16 := by
        rcases Nat.lt_or_ge 0 k with h | h
        · exact hk1 (by omega)
        · rw [hk0 (by omega)]; decide
      clear hB hdrop hget
      by_cases hdig : 48 ≤ c.toNat ∧ c.toNat ≤ 57
      · have hF : puG acc (c :: bs.drop (k + 1)) = puG (16 * acc + (c.toNat - 48)) (bs.drop (k + 1)) := by
          simp only [puG, puD, if_pos hdig]
        obtain ⟨hd0, hd1⟩ := hdig
        have HN : Hid (a * 16 + ((c.toNat : Int) - 48) = ((16 * acc + (c.toNat - 48) : Nat) : Int) ∧ (k + 1 = 0 → 16 * acc + (c.toNat - 48) = 0) ∧ (k + 1 = 1 → 16 * acc + (c.toNat - 48) < 16) ∧ 16 * acc + (c.toNat - 48) < 256 ∧ puG 0 bs = puG (16 * acc + (c.toNat - 48)) (bs.drop (k + 1))) := ⟨by omega, fun h => by omega, fun h => by have := hk0 (by omega); omega, by omega, hdec.trans hF⟩
        have a0 : 0 ≤ a := by omega
        have a1 : a < 16 := by omega
        clear hF hdec ha hk0 hk1 hacc hacc16
        go_wp2
        refine ⟨⟨k + 1, 16 * acc + (c.toNat - 48), a * 16 + ((c.toNat : Int) - 48), rfl, (by first | rfl | (congr 1; omega)), (by first | rfl | (congr 1; omega)), by omega, HN⟩, by simp [intOf]; omega⟩
      · have ho := or32_lt ⟨c.toNat, hc256⟩
        simp only at ho
        by_cases hlet : 97 ≤ (c.toNat ||| 32) ∧ (c.toNat ||| 32) ≤ 102
        · have hF : puG acc (c :: bs.drop (k + 1)) = puG (16 * acc + ((c.toNat ||| 32) - 87)) (bs.drop (k + 1)) := by
            simp only [puG, puD, if_neg hdig, if_pos hlet]
          have HL : Hid (∀ w : World, Calls Tryz.prog 149 #[.int .u8 (c.toNat : Int)] w fun e w' => e = .returned (.int .u8 ((c.toNat ||| 32 : Nat) : Int)) ∧ w' = w) := fun w => lower_any c.toNat w hc256
          generalize (c.toNat ||| 32) = m at *
          obtain ⟨hm0, hm1⟩ := hlet
          have HN : Hid (a * 16 + ((m : Int) - 87) = ((16 * acc + (m - 87) : Nat) : Int) ∧ (k + 1 = 0 → 16 * acc + (m - 87) = 0) ∧ (k + 1 = 1 → 16 * acc + (m - 87) < 16) ∧ 16 * acc + (m - 87) < 256 ∧ puG 0 bs = puG (16 * acc + (m - 87)) (bs.drop (k + 1))) := ⟨by omega, fun h => by omega, fun h => by have := hk0 (by omega); omega, by omega, hdec.trans hF⟩
          have a0 : 0 ≤ a := by omega
          have a1 : a < 16 := by omega
          have n95 : ((c.toNat : Int) == 95) = false ∨ ((c.toNat : Int) == 95) = true := by cases ((c.toNat : Int) == 95) <;> simp
          have nd : (decide ((48 : Int) ≤ c.toNat) = false) ∨ (decide ((48 : Int) ≤ c.toNat) = true ∧ decide ((c.toNat : Int) ≤ 57) = false) := by
            by_cases h48 : 48 ≤ c.toNat
            · exact .inr ⟨by simp; omega, by simp; omega⟩
            · exact .inl (by simp; omega)
          have d1 : decide ((97 : Int) ≤ m) = true := by simp; omega
          have d2 : decide ((m : Int) ≤ 122) = true := by simp; omega
          clear hF hdec ha hk0 hk1 hacc hacc16 hdig
          rcases nd with nd | ⟨nd, nd2⟩
          all_goals
            rcases n95 with n95 | n95
            all_goals
              go_wp2_with (go_at_call 149; refine (HL.out _).mono ?_; rintro e w' ⟨rfl, rfl⟩)
              refine ⟨⟨k + 1, 16 * acc + (m - 87), a * 16 + ((m : Int) - 87), rfl, (by first | rfl | (congr 1; omega)), (by first | rfl | (congr 1; omega)), by omega, HN⟩, by simp [intOf]; omega⟩
        · have hF : puG acc (c :: bs.drop (k + 1)) = none := by
            simp only [puG, puD, if_neg hdig, if_neg hlet]
          have HD : Hid (puG 0 bs = none) := hdec.trans hF
          have HL : Hid (∀ w : World, Calls Tryz.prog 149 #[.int .u8 (c.toNat : Int)] w fun e w' => e = .returned (.int .u8 ((c.toNat ||| 32 : Nat) : Int)) ∧ w' = w) := fun w => lower_any c.toNat w hc256
          generalize (c.toNat ||| 32) = m at *
          have n95 : ((c.toNat : Int) == 95) = false ∨ ((c.toNat : Int) == 95) = true := by cases ((c.toNat : Int) == 95) <;> simp
          have nd : (decide ((48 : Int) ≤ c.toNat) = false) ∨ (decide ((48 : Int) ≤ c.toNat) = true ∧ decide ((c.toNat : Int) ≤ 57) = false) := by
            by_cases h48 : 48 ≤ c.toNat
            · exact .inr ⟨by simp; omega, by simp; omega⟩
            · exact .inl (by simp; omega)
          have nm : (decide ((97 : Int) ≤ m) = false) ∨ (decide ((97 : Int) ≤ m) = true ∧ decide ((m : Int) ≤ 122) = false) ∨ (decide ((97 : Int) ≤ m) = true ∧ decide ((m : Int) ≤ 122) = true ∧ 103 ≤ m ∧ m ≤ 122) := by
            by_cases h97 : 97 ≤ m
            · by_cases h122 : m ≤ 122
              · exact .inr (.inr ⟨by simp; omega, by simp; omega, by omega, h122⟩)
              · exact .inr (.inl ⟨by simp; omega, by simp; omega⟩)
            · exact .inl (by simp; omega)
          clear hF hdec ha hk0 hk1 hacc hacc16 hdig hlet
          rcases nd with nd | ⟨nd, nd2⟩
          all_goals
            rcases n95 with n95 | n95
            all_goals
              rcases nm with nm | ⟨nm, nm2⟩ | ⟨nm, nm2, nm3, nm4⟩
              all_goals
                go_wp2_with (go_at_call 149; refine (HL.out _).mono ?_; rintro e w' ⟨rfl, rfl⟩)
                go_ret2
                exact ⟨by rw [HD.out]; rfl, HW.out⟩
    · have hkk : k = t.size := by omega
      subst hkk
      have hF : puG acc (bs.drop t.size) = some acc := by rw [List.drop_eq_nil_of_le (by omega)]; rfl
      rw [hF] at hdec
      have HD : Hid (puG 0 bs = some acc) := hdec
      subst ha
      clear hacc hF hk0 hk1 hdec hB
      go_wp2
      go_ret2
      exact ⟨by rw [HD.out]; rfl, HW.out⟩
end Go.Proofs.YtdendpckihckeaaGreatDoor
