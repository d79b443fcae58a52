/- value.Text of any value: walks over quic.Put's contract. -/
import Derived.Test.YtdendpckihckeaaGreatDoorVY
import Derived.Test.YtdendpckihckeaaGreatDoorPut
namespace Go.Proofs.YtdendpckihckeaaGreatDoor
open Go.RowKit

/-- A value's bytes. -/
def txt (k n : Int) (s : ByteArray) : ByteArray := ⟨([(⟨1, k, ⟨#[]⟩⟩ : It), ⟨itm k, n, s⟩].flatMap Q.itB).toArray⟩
theorem chk_kind {k n : Int} {s : ByteArray} (h : chkV k n s = true) : 1 ≤ k ∧ k ≤ 4 := by
  unfold chkV at h
  (repeat' split at h) <;> first | omega | (exact absurd h (by decide))
theorem isE {s : ByteArray} (h : s.size = 0) : s.toList.isEmpty = true := empty_is s h
theorem chk_may {k n : Int} {s : ByteArray} (h : chkV k n s = true) : [(⟨1, k, ⟨#[]⟩⟩ : It), ⟨itm k, n, s⟩].all Q.mayIt = true := by
  have hk := chk_kind h
  have h1 : Q.mayIt ⟨1, k, ⟨#[]⟩⟩ = true := by
    show Q.mayB 1 k ⟨#[]⟩ = true
    unfold Q.mayB
    rw [if_pos rfl, isE rfl, Bool.true_and, decide_eq_true_eq]
    omega
  have h2 : Q.mayIt ⟨itm k, n, s⟩ = true := by
    show Q.mayB (itm k) n s = true
    obtain rfl | rfl | rfl | rfl : k = 1 ∨ k = 2 ∨ k = 3 ∨ k = 4 := by omega
    · have e : itm 1 = 2 := by decide
      rw [e]
      simp only [chkV, if_pos, Bool.and_eq_true, decide_eq_true_eq] at h
      unfold Q.mayB
      rw [if_neg (by decide), if_pos rfl, isE h.1, Bool.true_and, decide_eq_true_eq]
      omega
    · have e : itm 2 = 4 := by decide
      rw [e]
      have h' : n = 0 ∧ s.size ≤ 200 := by
        unfold chkV at h
        rw [if_neg (by decide), if_pos rfl] at h
        simp only [Bool.and_eq_true, decide_eq_true_eq] at h
        exact ⟨h.1, h.2.1⟩
      unfold Q.mayB
      rw [if_neg (by decide), if_neg (by decide), if_neg (by decide), if_pos rfl, decide_eq_true_eq]
      omega
    · have e : itm 3 = 3 := by decide
      rw [e]
      unfold chkV at h
      rw [if_neg (by decide), if_neg (by decide), if_pos rfl] at h
      simp only [Bool.and_eq_true, decide_eq_true_eq] at h
      unfold Q.mayB
      rw [if_neg (by decide), if_neg (by decide), if_pos rfl, isE h.1, Bool.true_and, decide_eq_true_eq]
      exact h.2
    · have e : itm 4 = 4 := by decide
      rw [e]
      unfold chkV at h
      rw [if_neg (by decide), if_neg (by decide), if_neg (by decide), if_pos rfl] at h
      simp only [Bool.and_eq_true, decide_eq_true_eq] at h
      unfold Q.mayB
      rw [if_neg (by decide), if_neg (by decide), if_neg (by decide), if_pos rfl, decide_eq_true_eq]
      omega
  simp [h1, h2]
theorem row_two (W : World) (k I n : Int) (s : ByteArray) (t : TypeId) : IsRow (W.alloc (.cells #[.int .i64 1, .int .i64 k, .string ⟨#[]⟩, .int .i64 I, .int .i64 n, .string s] t)) 3 (.slice (some ⟨W.heap.size, 0, none⟩) 2 2) [(⟨1, k, ⟨#[]⟩⟩ : It), ⟨I, n, s⟩].length (itCells [(⟨1, k, ⟨#[]⟩⟩ : It), ⟨I, n, s⟩]) := by
  refine ⟨rfl, .inr ⟨W.heap.size, 0, 2, rfl, by simp, Nat.le_refl _, by decide, fun j u hu => ?_⟩⟩
  have hc : (W.alloc (.cells #[.int .i64 1, .int .i64 k, .string ⟨#[]⟩, .int .i64 I, .int .i64 n, .string s] t)).cell? ⟨W.heap.size, 0 + j, none⟩ = #[Value.int .i64 1, .int .i64 k, .string ⟨#[]⟩, .int .i64 I, .int .i64 n, .string s][j]? := by simp
  rw [hc]
  have e : (itCells [(⟨1, k, ⟨#[]⟩⟩ : It), ⟨I, n, s⟩]) = [Value.int .i64 1, .int .i64 k, .string ⟨#[]⟩, .int .i64 I, .int .i64 n, .string s] := rfl
  rw [e] at hu
  simpa using hu
theorem row_two_d {W : World} {v : Value} {n : Nat} {xs : List Value} (h : IsRow W 3 v n xs) : IsRow W.drew 3 v n xs := by
  obtain ⟨h1, h2⟩ := h
  refine ⟨h1, ?_⟩
  rcases h2 with h | ⟨b, off, cap, hv, hl, hc, hm, hcell⟩
  · exact .inl h
  · exact .inr ⟨b, off, cap, hv, hl, hc, hm, hcell⟩
theorem put_2n (k n : Int) (s : ByteArray) (t : TypeId) (W : World) (N : Nat) (hN : N = W.heap.size) (hs : s.size ≤ 140737488355328) (hT : Q.Tab W) (h : chkV k n s = true) :
    Calls Tryz.prog 42 #[.slice (some ⟨N, 0, none⟩) 2 2] (W.alloc (.cells #[.int .i64 1, .int .i64 k, .string ⟨#[]⟩, .int .i64 (itm k), .int .i64 n, .string s] t)) fun e w' => e = .returned (.tuple #[.string (txt k n s), .int .i64 0]) ∧ Below W.heap.size W w' := by
  subst hN
  refine (Q.put_ok _ _ _ (row_two W k (itm k) n s t) (Q.Tab_alloc hT _) (by simp) ?_ (chk_may h)).mono ?_
  · intro x hx
    simp only [List.mem_cons, List.not_mem_nil, or_false] at hx
    rcases hx with rfl | rfl
    · exact Nat.zero_le _
    · exact hs
  · rintro e w' ⟨he, hb⟩
    exact ⟨he, ((Below.refl _ _).alloc (Nat.le_refl _) _).trans (hb.mono (by simp))⟩
theorem put_2 (k n : Int) (s : ByteArray) (t : TypeId) (W : World) (hs : s.size ≤ 140737488355328) (hT : Q.Tab W) (h : chkV k n s = true) :
    Calls Tryz.prog 42 #[.slice (some ⟨W.heap.size, 0, none⟩) 2 2] (W.alloc (.cells #[.int .i64 1, .int .i64 k, .string ⟨#[]⟩, .int .i64 (itm k), .int .i64 n, .string s] t)).drew fun e w' => e = .returned (.tuple #[.string (txt k n s), .int .i64 0]) ∧ Below W.heap.size W w' := by
  have hA := Q.Tab_alloc hT (.cells #[.int .i64 1, .int .i64 k, .string ⟨#[]⟩, .int .i64 (itm k), .int .i64 n, .string s] t)
  have hD : Below W.heap.size W (W.alloc (.cells #[.int .i64 1, .int .i64 k, .string ⟨#[]⟩, .int .i64 (itm k), .int .i64 n, .string s] t)).drew := ((Below.refl _ _).alloc (Nat.le_refl _) _).drew
  have hA' : Q.Tab (W.alloc (.cells #[.int .i64 1, .int .i64 k, .string ⟨#[]⟩, .int .i64 (itm k), .int .i64 n, .string s] t)).drew := hA.below (Below.drew (Below.refl _ _)) hA.size
  refine (Q.put_ok _ _ _ (row_two_d (row_two W k (itm k) n s t)) hA' (by simp) ?_ (chk_may h)).mono ?_
  · intro x hx
    simp only [List.mem_cons, List.not_mem_nil, or_false] at hx
    rcases hx with rfl | rfl
    · exact Nat.zero_le _
    · exact hs
  · rintro e w' ⟨he, hb⟩
    exact ⟨he, hD.trans (hb.mono hD.size)⟩
end Go.Proofs.YtdendpckihckeaaGreatDoor
