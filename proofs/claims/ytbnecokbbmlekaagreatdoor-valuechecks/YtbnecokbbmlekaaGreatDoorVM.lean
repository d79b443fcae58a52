/- cmp.Or of three ints, value.Compare: walks. -/
import Derived.Test.YtbnecokbbmlekaaGreatDoorVL
namespace Go.Proofs.YtbnecokbbmlekaaGreatDoor
open Go.RowKit

def orI (a b c : Int) : Int := if a ≠ 0 then a else if b ≠ 0 then b else c
set_option maxRecDepth 100000 in
set_option maxHeartbeats 1000000 in
theorem or3 (a b c : Int) (g : Nat) (w : World) (h0 : w.cell? ⟨g, 0, none⟩ = some (.int .i64 a)) (h1 : w.cell? ⟨g, 1, none⟩ = some (.int .i64 b)) (h2 : w.cell? ⟨g, 2, none⟩ = some (.int .i64 c)) :
    Calls Tryz.prog 15 #[.slice (some ⟨g, 0, none⟩) 3 3] w fun e w' => e = .returned (.int .i64 (orI a b c)) ∧ w' = w := by
  obtain ⟨C, HC⟩ : ∃ C, Hid (orI a b c = C) := ⟨_, rfl⟩
  rw [HC.out]
  go_enter Tryz.func15, Tryz.ntmps15
  go_wp2
  go_loopw [8] (fun i wr => (∃ k : Nat, k ≤ 3 ∧ i = .int .i64 k ∧ (0 < k → a = 0) ∧ (1 < k → b = 0) ∧ (2 < k → c = 0)) ∧ wr = w) (fun i _ => 3 - (RowKit.intOf i).toNat)
  case atStart => exact ⟨⟨0, by decide, rfl, by omega, by omega, by omega⟩, rfl⟩
  case round =>
    obtain ⟨⟨k, hk, rfl, ha, hb, hc⟩, rfl⟩ := hrel
    have hk4 : k = 0 ∨ k = 1 ∨ k = 2 ∨ k = 3 := by omega
    rcases hk4 with rfl | rfl | rfl | rfl
    · by_cases h : a = 0
      · have h' : (a != 0) = false := by simpa using h
        go_wp2
        go_roundw
        case rel => exact ⟨⟨1, by decide, by go_num, fun _ => h, by omega, by omega⟩, by trivial⟩
        case measure => decide
      · have h' : (a != 0) = true := by simpa using h
        have HR : Hid (a = C) := by show _ = _; rw [← HC.out, orI, if_pos h]
        go_wp2
        go_ret
        exact ⟨by rw [← HR.out]; rfl, rfl⟩
    · have ha' := ha (by omega)
      by_cases h : b = 0
      · have h' : (b != 0) = false := by simpa using h
        clear ha
        go_wp2
        go_roundw
        case rel => exact ⟨⟨2, by decide, by go_num, fun _ => ha', fun _ => h, by omega⟩, by trivial⟩
        case measure => decide
      · have h' : (b != 0) = true := by simpa using h
        have HR : Hid (b = C) := by show _ = _; rw [← HC.out, orI, if_neg (by simpa using ha'), if_pos h]
        clear ha
        go_wp2
        go_ret
        exact ⟨by rw [← HR.out]; rfl, rfl⟩
    · have ha' := ha (by omega)
      have hb' := hb (by omega)
      by_cases h : c = 0
      · have h' : (c != 0) = false := by simpa using h
        clear ha hb
        go_wp2
        go_roundw
        case rel => exact ⟨⟨3, by decide, by go_num, fun _ => ha', fun _ => hb', fun _ => h⟩, by trivial⟩
        case measure => decide
      · have h' : (c != 0) = true := by simpa using h
        have HR : Hid (c = C) := by show _ = _; rw [← HC.out, orI, if_neg (by simpa using ha'), if_neg (by simpa using hb')]
        clear ha hb
        go_wp2
        go_ret
        exact ⟨by rw [← HR.out]; rfl, rfl⟩
    · have ha' := ha (by omega)
      have hb' := hb (by omega)
      have hc' := hc (by omega)
      have HR : Hid (0 = C) := by show _ = _; rw [← HC.out, orI, if_neg (by simpa using ha'), if_neg (by simpa using hb'), hc']
      clear ha hb hc ha' hb' hc'
      go_wp2
      go_ret
      exact ⟨by rw [← HR.out]; rfl, rfl⟩

/-- How two values stand. -/
def cmpV (k n : Int) (s : ByteArray) (k' n' : Int) (s' : ByteArray) : Int := orI (Lib.compareInt k k') (Lib.compareInt n n') (Lib.compareBytes s.data.toList s'.data.toList)
set_option maxRecDepth 100000 in
set_option maxHeartbeats 4000000 in
theorem compare_any (k n : Int) (s : ByteArray) (k' n' : Int) (s' : ByteArray) (w : World) :
    Calls Tryz.prog 9 #[vv k n s, vv k' n' s'] w fun e w' => e = .returned (.int .i64 (cmpV k n s k' n' s')) ∧ Below w.heap.size w w' := by
  have hb1 : Below w.heap.size w ((w.alloc (.cells #[.int .i64 k, .int .i64 n, .string s] 23)).alloc (.cells #[.int .i64 k', .int .i64 n', .string s'] 23)) := ((Below.refl _ _).alloc (Nat.le_refl _) _).alloc (by simp) _
  have hsz : ((w.alloc (.cells #[.int .i64 k, .int .i64 n, .string s] 23)).alloc (.cells #[.int .i64 k', .int .i64 n', .string s'] 23)).heap.size = w.heap.size + 1 + 1 := by simp
  have a0 : ((w.alloc (.cells #[.int .i64 k, .int .i64 n, .string s] 23)).alloc (.cells #[.int .i64 k', .int .i64 n', .string s'] 23)).cell? ⟨w.heap.size, 0, none⟩ = some (.int .i64 k) := by simp
  have a1 : ((w.alloc (.cells #[.int .i64 k, .int .i64 n, .string s] 23)).alloc (.cells #[.int .i64 k', .int .i64 n', .string s'] 23)).cell? ⟨w.heap.size, 1, none⟩ = some (.int .i64 n) := by simp
  have a2 : ((w.alloc (.cells #[.int .i64 k, .int .i64 n, .string s] 23)).alloc (.cells #[.int .i64 k', .int .i64 n', .string s'] 23)).cell? ⟨w.heap.size, 2, none⟩ = some (.string s) := by simp
  have b0 : ((w.alloc (.cells #[.int .i64 k, .int .i64 n, .string s] 23)).alloc (.cells #[.int .i64 k', .int .i64 n', .string s'] 23)).cell? ⟨w.heap.size + 1, 0, none⟩ = some (.int .i64 k') := by simp
  have b1 : ((w.alloc (.cells #[.int .i64 k, .int .i64 n, .string s] 23)).alloc (.cells #[.int .i64 k', .int .i64 n', .string s'] 23)).cell? ⟨w.heap.size + 1, 1, none⟩ = some (.int .i64 n') := by simp
  have b2 : ((w.alloc (.cells #[.int .i64 k, .int .i64 n, .string s] 23)).alloc (.cells #[.int .i64 k', .int .i64 n', .string s'] 23)).cell? ⟨w.heap.size + 1, 2, none⟩ = some (.string s') := by simp
  go_enter Tryz.func9, Tryz.ntmps9
  go_wp2
  generalize ((w.alloc (.cells #[.int .i64 k, .int .i64 n, .string s] 23)).alloc (.cells #[.int .i64 k', .int .i64 n', .string s'] 23)) = W at *
  go_region_held3 (fun w' => w'.cell? ⟨w.heap.size, 0, none⟩ = some (.int .i64 k) ∧ w'.cell? ⟨w.heap.size, 1, none⟩ = some (.int .i64 n) ∧ w'.cell? ⟨w.heap.size, 2, none⟩ = some (.string s) ∧ w'.cell? ⟨w.heap.size + 1, 0, none⟩ = some (.int .i64 k') ∧ w'.cell? ⟨w.heap.size + 1, 1, none⟩ = some (.int .i64 n') ∧ w'.cell? ⟨w.heap.size + 1, 2, none⟩ = some (.string s')) (go_keep)
    (first
      | (go_at_call 16; refine (Tryz.cmp_Compare_int _ _ _).mono ?_; rintro e w' ⟨rfl, rfl⟩)
      | (go_at_call 17; refine (Tryz.strings_Compare _ _ _).mono ?_; rintro e w' ⟨rfl, rfl⟩)
      | (go_at_call 15; refine (or3 (Lib.compareInt k k') (Lib.compareInt n n') (Lib.compareBytes s.data.toList s'.data.toList) _ _ ?_ ?_ ?_).mono ?_; (rw [World.cell?_drew, ← hsz]; simp); (rw [World.cell?_drew, ← hsz]; simp); (rw [World.cell?_drew, ← hsz]; simp); rintro e w' ⟨rfl, rfl⟩))
  all_goals go_wp2
  all_goals go_ret
  all_goals exact ⟨rfl, (hb1.alloc (by omega) _).drew⟩

theorem ci_anti (x y : Int) : Lib.compareInt x y = - Lib.compareInt y x := by
  unfold Lib.compareInt
  by_cases h1 : x < y
  · have h2 : ¬ y < x := by omega
    simp [h1, h2]
  · by_cases h2 : y < x
    · simp [h1, h2]
    · simp [h1, h2]
theorem ci_zero (x y : Int) : Lib.compareInt x y = 0 ↔ x = y := by
  unfold Lib.compareInt
  by_cases h1 : x < y
  · simp [h1]; omega
  · by_cases h2 : y < x
    · simp [h1, h2]; omega
    · simp [h1, h2]; omega
theorem ci_neg (x y : Int) : Lib.compareInt x y < 0 ↔ x < y := by
  unfold Lib.compareInt
  by_cases h1 : x < y
  · simp [h1]
  · by_cases h2 : y < x
    · simp [h1, h2]
    · simp [h1, h2]
theorem cb_anti : ∀ (a b : List UInt8), Lib.compareBytes a b = - Lib.compareBytes b a
  | [], [] => rfl
  | [], b :: l => by simp [Lib.compareBytes]
  | a :: k, [] => by simp [Lib.compareBytes]
  | a :: k, b :: l => by
    simp only [Lib.compareBytes]
    by_cases h1 : a < b
    · have h2 : ¬ b < a := UInt8.lt_asymm h1
      simp [h1, h2]
    · by_cases h2 : b < a
      · simp [h1, h2]
      · simp [h1, h2, cb_anti k l]
theorem cb_self : ∀ l : List UInt8, Lib.compareBytes l l = 0
  | [] => rfl
  | b :: l => by simp [Lib.compareBytes, cb_self l]
theorem cb_zero : ∀ (a b : List UInt8), Lib.compareBytes a b = 0 → a = b
  | [], [] => fun _ => rfl
  | [], b :: l => by simp [Lib.compareBytes]
  | a :: k, [] => by simp [Lib.compareBytes]
  | a :: k, b :: l => by
    simp only [Lib.compareBytes]
    split
    · intro h; cases h
    split
    · intro h; cases h
    · rename_i h1 h2
      intro h
      have e : a = b := UInt8.le_antisymm (UInt8.not_lt.1 h2) (UInt8.not_lt.1 h1)
      rw [e, cb_zero k l h]
theorem cb_vals : ∀ (a b : List UInt8), Lib.compareBytes a b = -1 ∨ Lib.compareBytes a b = 0 ∨ Lib.compareBytes a b = 1
  | [], [] => by simp [Lib.compareBytes]
  | [], b :: l => by simp [Lib.compareBytes]
  | a :: k, [] => by simp [Lib.compareBytes]
  | a :: k, b :: l => by
    simp only [Lib.compareBytes]
    split
    · simp
    split
    · simp
    · exact cb_vals k l
theorem cb_trans : ∀ (a b c : List UInt8), Lib.compareBytes a b < 0 → Lib.compareBytes b c < 0 → Lib.compareBytes a c < 0
  | [], [], c => by simp [Lib.compareBytes]
  | [], b :: l, [] => by simp [Lib.compareBytes]
  | [], b :: l, c :: m => by simp [Lib.compareBytes]
  | a :: k, [], c => by simp [Lib.compareBytes]
  | a :: k, b :: l, [] => by simp [Lib.compareBytes]
  | a :: k, b :: l, c :: m => by
    have ih := cb_trans k l m
    simp only [Lib.compareBytes]
    by_cases h1 : a < b
    · by_cases h3 : b < c
      · have h5 : a < c := UInt8.lt_trans h1 h3
        simp [h5]
      · by_cases h4 : c < b
        · simp [h3, h4]
        · have e : b = c := UInt8.le_antisymm (UInt8.not_lt.1 h4) (UInt8.not_lt.1 h3)
          subst e
          simp [h1]
    · by_cases h2 : b < a
      · simp [h1, h2]
      · have e : a = b := UInt8.le_antisymm (UInt8.not_lt.1 h2) (UInt8.not_lt.1 h1)
        subst e
        by_cases h3 : a < c
        · simp [h3]
        · by_cases h4 : c < a
          · simp [h3, h4]
          · simp [h3, h4]
            exact ih
theorem ba_eq_iff (a b : ByteArray) : a = b ↔ a.data.toList = b.data.toList := ⟨fun h => by rw [h], ba_eq⟩
theorem cv_zero (k n : Int) (s : ByteArray) (k' n' : Int) (s' : ByteArray) : cmpV k n s k' n' s' = 0 ↔ k = k' ∧ n = n' ∧ s = s' := by
  unfold cmpV orI
  by_cases h1 : Lib.compareInt k k' = 0
  · by_cases h2 : Lib.compareInt n n' = 0
    · simp only [h1, h2, ne_eq, not_true, if_false]
      rw [(ci_zero _ _).1 h1, (ci_zero _ _).1 h2]
      exact ⟨fun h => ⟨rfl, rfl, ba_eq (cb_zero _ _ h)⟩, fun h => by rw [h.2.2]; exact cb_self _⟩
    · simp only [h1, h2, ne_eq, not_true, not_false_eq_true, if_false, if_true, false_iff]
      exact fun h => h2 ((ci_zero _ _).2 h.2.1)
  · simp only [h1, ne_eq, not_false_eq_true, if_true, false_iff]
    exact fun h => h1 ((ci_zero _ _).2 h.1)
theorem cv_anti (k n : Int) (s : ByteArray) (k' n' : Int) (s' : ByteArray) : cmpV k n s k' n' s' = - cmpV k' n' s' k n s := by
  unfold cmpV orI
  have e1 := ci_anti k k'
  have e2 := ci_anti n n'
  have e3 := cb_anti s.data.toList s'.data.toList
  by_cases h1 : Lib.compareInt k k' = 0
  · have h1' : Lib.compareInt k' k = 0 := by omega
    by_cases h2 : Lib.compareInt n n' = 0
    · have h2' : Lib.compareInt n' n = 0 := by omega
      simp [h1, h1', h2, h2', ← e3]
    · have h2' : ¬ Lib.compareInt n' n = 0 := by omega
      simp [h1, h1', h2, h2', ← e2]
  · have h1' : ¬ Lib.compareInt k' k = 0 := by omega
    simp [h1, h1', ← e1]
theorem cv_neg (k n : Int) (s : ByteArray) (k' n' : Int) (s' : ByteArray) : cmpV k n s k' n' s' < 0 ↔ k < k' ∨ (k = k' ∧ (n < n' ∨ (n = n' ∧ Lib.compareBytes s.data.toList s'.data.toList < 0))) := by
  unfold cmpV orI
  by_cases h1 : Lib.compareInt k k' = 0
  · have e1 := (ci_zero _ _).1 h1
    by_cases h2 : Lib.compareInt n n' = 0
    · have e2 := (ci_zero _ _).1 h2
      simp only [h1, h2, ne_eq, not_true, if_false]
      constructor
      · exact fun h => .inr ⟨e1, .inr ⟨e2, h⟩⟩
      · rintro (h | ⟨_, h | ⟨_, h⟩⟩)
        · omega
        · omega
        · exact h
    · have e2 : n ≠ n' := fun e => h2 ((ci_zero _ _).2 e)
      simp only [h1, h2, ne_eq, not_true, not_false_eq_true, if_false, if_true]
      rw [ci_neg]
      constructor
      · exact fun h => .inr ⟨e1, .inl h⟩
      · rintro (h | ⟨_, h | ⟨h, _⟩⟩)
        · omega
        · exact h
        · exact absurd h e2
  · have e1 : k ≠ k' := fun e => h1 ((ci_zero _ _).2 e)
    simp only [h1, ne_eq, not_false_eq_true, if_true]
    rw [ci_neg]
    constructor
    · exact fun h => .inl h
    · rintro (h | ⟨h, _⟩)
      · exact h
      · exact absurd h e1
theorem cv_trans {k n : Int} {s : ByteArray} {k' n' : Int} {s' : ByteArray} {k'' n'' : Int} {s'' : ByteArray} (h1 : cmpV k n s k' n' s' < 0) (h2 : cmpV k' n' s' k'' n'' s'' < 0) : cmpV k n s k'' n'' s'' < 0 := by
  rw [cv_neg] at *
  rcases h1 with h1 | ⟨e1, h1⟩
  · rcases h2 with h2 | ⟨e2, _⟩
    · exact .inl (by omega)
    · exact .inl (by omega)
  · rcases h2 with h2 | ⟨e2, h2⟩
    · exact .inl (by omega)
    · refine .inr ⟨by omega, ?_⟩
      rcases h1 with h1 | ⟨e3, h1⟩
      · rcases h2 with h2 | ⟨e4, _⟩
        · exact .inl (by omega)
        · exact .inl (by omega)
      · rcases h2 with h2 | ⟨e4, h2⟩
        · exact .inl (by omega)
        · exact .inr ⟨by omega, cb_trans _ _ _ h1 h2⟩
theorem ci_vals (x y : Int) : Lib.compareInt x y = -1 ∨ Lib.compareInt x y = 0 ∨ Lib.compareInt x y = 1 := by
  unfold Lib.compareInt
  by_cases h1 : x < y
  · simp [h1]
  · by_cases h2 : y < x
    · simp [h1, h2]
    · simp [h1, h2]
theorem cv_vals (k n : Int) (s : ByteArray) (k' n' : Int) (s' : ByteArray) : cmpV k n s k' n' s' = -1 ∨ cmpV k n s k' n' s' = 0 ∨ cmpV k n s k' n' s' = 1 := by
  unfold cmpV orI
  split
  · exact ci_vals _ _
  split
  · exact ci_vals _ _
  · exact cb_vals _ _
end Go.Proofs.YtbnecokbbmlekaaGreatDoor
