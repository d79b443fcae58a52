/- The line of a field; caduceusref04.word, schema.showField: walks. -/
import Derived.Test.YtfbhalkiilbcoaaGreatDoorEJ
import Derived.Test.YtfbhalkiilbcoaaGreatDoorZa
namespace Go.Proofs.YtfbhalkiilbcoaaGreatDoor
open Go.RowKit

/-- The line of a field. -/
def shF (x : Fd) : List UInt8 := x.n.data.toList ++ [32] ++ wordK x.k.toNat ++ if x.m = true then [33] else []
theorem wordK_len (n : Nat) : (wordK n).length ≤ 5 := by unfold wordK; split <;> simp
theorem shF_len (x : Fd) : (shF x).length ≤ x.n.size + 7 := by
  have := wordK_len x.k.toNat
  have e : x.n.data.toList.length = x.n.size := by simp
  unfold shF
  rw [List.length_append, List.length_append, List.length_append, e]
  by_cases h : x.m = true
  · rw [if_pos h]; simp; omega
  · rw [if_neg h]; simp; omega
set_option maxRecDepth 100000 in
set_option maxHeartbeats 2000000 in
theorem showField_any (x : Fd) (w : World) (hs : x.n.size ≤ 1000000) (h1 : 1 ≤ x.k) (h5 : x.k < 5) (hW : WT w) :
    Calls Tryz.prog 28 #[fV x] w fun e w' => e = .returned (.string (str (shF x))) ∧ Below w.heap.size w w' := by
  obtain ⟨s, k, m⟩ := x
  obtain ⟨n, rfl⟩ : ∃ n : Nat, k = (n : Int) := ⟨k.toNat, by have : 1 ≤ k := h1; omega⟩
  have hs : s.size ≤ 1000000 := hs
  have h1 : 1 ≤ n := by have : (1 : Int) ≤ n := h1; omega
  have h5 : n < 5 := by have : (n : Int) < 5 := h5; omega
  have hA := al_b w (.cells #[.string s, .int .i64 (n : Int), .bool m] 45)
  have c1 := WT_at (WT_below hW hA) h1 h5
  have q1 : (0 : Int) ≤ (n : Int) := by omega
  have q2 : (n : Int) < 5 := by omega
  have q3 : ¬ (n : Int) < 0 := by omega
  have hwl := wordK_len n
  have HE : Hid (s ++ (⟨#[32]⟩ : ByteArray) ++ str (wordK n) = str (s.data.toList ++ [32] ++ wordK n)) := by
    show _ = _
    rw [← str_app, ← str_app, str_of]
    rfl
  have HE2 : Hid (str (s.data.toList ++ [32] ++ wordK n) ++ (⟨#[33]⟩ : ByteArray) = str (s.data.toList ++ [32] ++ wordK n ++ [33])) := by
    show _ = _
    rw [← str_app _ [33]]
    rfl
  have z1 : ¬ 9223372036854775807 < s.size + (⟨#[32]⟩ : ByteArray).size := by show ¬ 9223372036854775807 < s.size + 1; omega
  have hW5 : (str (wordK n)).size ≤ 5 := by rw [str_size]; exact hwl
  have hX : (s ++ (⟨#[32]⟩ : ByteArray)).size = s.size + 1 := by rw [ByteArray.size_append]; rfl
  have z2 : ¬ 9223372036854775807 < (s ++ (⟨#[32]⟩ : ByteArray)).size + (str (wordK n)).size := by omega
  have hY : (str (s.data.toList ++ [32] ++ wordK n)).size ≤ 1000006 := by
    rw [← HE.out, ByteArray.size_append]; omega
  have z3 : ¬ 9223372036854775807 < (str (s.data.toList ++ [32] ++ wordK n)).size + (⟨#[33]⟩ : ByteArray).size := by
    show ¬ 9223372036854775807 < (str (s.data.toList ++ [32] ++ wordK n)).size + 1; omega
  have HA : Hid (Below w.heap.size w (w.alloc (.cells #[.string s, .int .i64 (n : Int), .bool m] 45))) := hA
  clear hA hW hX hW5 hwl
  show Calls _ _ _ _ fun e w' => e = .returned (.string (str (s.data.toList ++ [32] ++ wordK n ++ if m = true then [33] else []))) ∧ _
  obtain ⟨Y, hYY⟩ : ∃ Y, Y = str (s.data.toList ++ [32] ++ wordK n) := ⟨_, rfl⟩
  have HYY : Hid (str (s.data.toList ++ [32] ++ wordK n) = Y) := hYY.symm
  rw [← hYY] at HE HE2 hY z3
  clear hYY
  generalize str (wordK n) = W at *
  cases m with
  | true =>
    rw [if_pos rfl, ← HE2.out]
    clear HE2
    go_enter Tryz.func28, Tryz.ntmps28
    go_wp2_with fail
    go_quiet (fail)
    rw [HE.out]
    go_wp2
    go_ret
    exact ⟨rfl, drewN_bE HA.out _⟩
  | false =>
    rw [if_neg (by decide), List.append_nil, HYY.out]
    go_enter Tryz.func28, Tryz.ntmps28
    go_wp2_with fail
    go_quiet (fail)
    rw [HE.out]
    go_wp2
    go_ret
    exact ⟨rfl, drewN_bE HA.out _⟩
end Go.Proofs.YtfbhalkiilbcoaaGreatDoor
