/- The reference's Read of values where an item's kind is told: walks; the whole. -/
import Derived.Test.YthkboelloejejaaGreatDoorVZr
namespace Go.Proofs.YthkboelloejejaaGreatDoor
open Go.RowKit

theorem refTake_2no (s : ByteArray) (k : Int) (t : TypeId) (W : World) (N : Nat) (hN : N = W.heap.size) (hs : s.size ≤ 140737488355328) (h1 : 1 ≤ k) (h4 : k ≤ 4) (h : ¬ Q.tE s k = 0) :
    Calls Tryz.prog 48 #[.string s, .slice (some ⟨N, 0, none⟩) 1 1] (W.alloc (.cells #[.int .i64 k] t)) fun e w' => (∃ a n c, e = .returned (.agg #[.slice a n c, .string ⟨#[]⟩, .int .i64 (Q.tE s k)])) ∧ Below W.heap.size W w' := by
  subst hN
  exact refTake_1no s k t W hs h1 h4 h
theorem refTake_2ok (s : ByteArray) (k : Int) (t : TypeId) (W : World) (N : Nat) (hN : N = W.heap.size) (hs : s.size ≤ 140737488355328) (h1 : 1 ≤ k) (h4 : k ≤ 4) (h : Q.tE s k = 0) :
    Calls Tryz.prog 48 #[.string s, .slice (some ⟨N, 0, none⟩) 1 1] (W.alloc (.cells #[.int .i64 k] t)) fun e w' => (∃ v, e = .returned (.agg #[v, .string (Q.tR s k), .int .i64 0]) ∧ OneAt (Q.tN s k) (Q.tS s k) v w') ∧ Below W.heap.size W w' := by
  subst hN
  exact refTake_1ok s k t W hs h1 h4 h
/-- Which item's kind belongs to which value's. -/
abbrev KI (K I : Int) : Prop := (K = 1 ∧ I = 2) ∨ (K = 2 ∧ I = 4) ∨ (K = 3 ∧ I = 3) ∨ (K = 4 ∧ I = 4)
theorem ki_itm {K : Int} (h1 : 1 ≤ K) (h4 : K ≤ 4) : KI K (itm K) := by
  obtain rfl | rfl | rfl | rfl : K = 1 ∨ K = 2 ∨ K = 3 ∨ K = 4 := by omega
  all_goals decide

set_option maxRecDepth 100000 in
set_option maxHeartbeats 2000000 in
theorem refRead_3 (s : ByteArray) (w : World) (hs : s.size ≤ 140737488355328) (K I : Int) (hKI : KI K I) (H0 : Hid (Q.getE s = 0)) (HK : Hid (Q.getV s = K)) (HT : Hid (¬ Q.tE (Q.getRest s) I = 0)) :
    Calls Tryz.prog 20 #[.string s] w fun e w' => RsPost ⟨0, 0, ⟨#[]⟩, ⟨#[]⟩, Q.tE (Q.getRest s) I⟩ w e w' := by
  have HR : Hid ((Q.getRest s).size ≤ 140737488355328) := by show _ ≤ _; have := Q.getRest_size s; omega
  have hE : (Q.tE (Q.getRest s) I != 0) = true := by rw [bne_iff_ne]; exact HT.out
  rcases hKI with ⟨rfl, rfl⟩ | ⟨rfl, rfl⟩ | ⟨rfl, rfl⟩ | ⟨rfl, rfl⟩
  all_goals
    go_enter Tryz.func20, Tryz.ntmps20
    go_wp2_with fail
    refine (Q.refGet_any _ _ hs).mono ?_
    rintro e w2 ⟨rfl, hb2⟩
    rw [H0.out, HK.out]
    have z2 := (Zf.new w).below hb2 (by simp)
    have hlt2 : w.heap.size < w2.heap.size := by have := hb2.size; simp at this; omega
    have hne2 : w2.heap.size ≠ w.heap.size := by omega
    have hB2 := (wf_below w).trans (hb2.mono (by simp))
    have HZ : Hid (Zf w.heap.size w2) := z2
    clear hb2 z2
    go_wp2_with fail
    refine (refTake_2no _ _ _ _ _ (by simp) HR.out (by decide) (by decide) HT.out).mono ?_
    rintro e w4 ⟨⟨a, n, c, rfl⟩, hb4⟩
    have hs4 := hb4.size
    have hlt4 : w.heap.size < w4.heap.size := by simp at hs4; omega
    have hne4 : w4.heap.size ≠ w.heap.size := by omega
    have hB4 : Below w.heap.size w w4 := (hB2.alloc (by omega) _).trans (hb4.mono (by simp; omega))
    have HY : Hid (Zf w.heap.size w4) := (HZ.out.below ((Below.refl w2.heap.size w2).alloc (Nat.le_refl _) _) hlt2).below hb4 (by simp; omega)
    obtain ⟨⟨c0, c1, c2, c3, c4⟩, ff⟩ := HY.out
    clear hb4 hs4
    go_wp2
    try simp only [Exit.inBlock, Exit.then]
    refine bodyPost_ret (results_s1 rfl _ _ w.heap.size rfl ((HY.out.c.set _ _ _ _ _).alloc _)) rfl ⟨rfl, (set5_below hB4 _ _ _ _ _).alloc ?_ _⟩
    have := hB4.size
    simpa using this
end Go.Proofs.YthkboelloejejaaGreatDoor
