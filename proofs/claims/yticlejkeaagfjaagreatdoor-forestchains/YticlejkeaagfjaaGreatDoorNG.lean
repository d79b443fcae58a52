/- How bytes stand: plain. -/
import Derived.Test.YticlejkeaagfjaaGreatDoorZa
namespace Go.Proofs.YticlejkeaagfjaaGreatDoor
open Go.RowKit

theorem cmp_self : ∀ l : List UInt8, Lib.compareBytes l l = 0
  | [] => rfl
  | b :: l => by simp [Lib.compareBytes, cmp_self l]
theorem cmp_zero : ∀ (a b : List UInt8), Lib.compareBytes a b = 0 → a = b
  | [], [] => fun _ => rfl
  | [], b :: l => by simp [Lib.compareBytes]
  | a :: k, [] => by simp [Lib.compareBytes]
  | a :: k, b :: l => by
    simp only [Lib.compareBytes]
    split
    · intro h; cases h
    split
    · intro h; cases h
    · rename_i h1 h2
      intro h
      have e : a = b := UInt8.le_antisymm (UInt8.not_lt.1 h2) (UInt8.not_lt.1 h1)
      rw [e, cmp_zero k l h]
theorem cmp_anti : ∀ (a b : List UInt8), Lib.compareBytes a b = - Lib.compareBytes b a
  | [], [] => rfl
  | [], b :: l => by simp [Lib.compareBytes]
  | a :: k, [] => by simp [Lib.compareBytes]
  | a :: k, b :: l => by
    simp only [Lib.compareBytes]
    by_cases h1 : a < b
    · have h2 : ¬ b < a := UInt8.lt_asymm h1
      simp [h1, h2]
    · by_cases h2 : b < a
      · simp [h1, h2]
      · simp [h1, h2, cmp_anti k l]
theorem cmp_vals : ∀ (a b : List UInt8), Lib.compareBytes a b = -1 ∨ Lib.compareBytes a b = 0 ∨ Lib.compareBytes a b = 1
  | [], [] => by simp [Lib.compareBytes]
  | [], b :: l => by simp [Lib.compareBytes]
  | a :: k, [] => by simp [Lib.compareBytes]
  | a :: k, b :: l => by
    simp only [Lib.compareBytes]
    split
    · simp
    split
    · simp
    · exact cmp_vals k l
theorem cmp_trans : ∀ (a b c : List UInt8), Lib.compareBytes a b = -1 → Lib.compareBytes b c = -1 → Lib.compareBytes a c = -1
  | [], [], c => by simp [Lib.compareBytes]
  | [], b :: l, [] => by simp [Lib.compareBytes]
  | [], b :: l, c :: m => by simp [Lib.compareBytes]
  | a :: k, [], c => by simp [Lib.compareBytes]
  | a :: k, b :: l, [] => by simp [Lib.compareBytes]
  | a :: k, b :: l, c :: m => by
    have ih := cmp_trans k l m
    simp only [Lib.compareBytes]
    by_cases h1 : a < b
    · by_cases h3 : b < c
      · have h5 : a < c := UInt8.lt_trans h1 h3
        simp [h5]
      · by_cases h4 : c < b
        · simp [h3, h4]
        · have e : b = c := UInt8.le_antisymm (UInt8.not_lt.1 h4) (UInt8.not_lt.1 h3)
          subst e
          simp [h1]
    · by_cases h2 : b < a
      · simp [h1, h2]
      · have e : a = b := UInt8.le_antisymm (UInt8.not_lt.1 h2) (UInt8.not_lt.1 h1)
        subst e
        by_cases h3 : a < c
        · simp [h3]
        · by_cases h4 : c < a
          · simp [h3, h4]
          · simp only [h1, h3, h4, if_false]
            exact ih

end Go.Proofs.YticlejkeaagfjaaGreatDoor
