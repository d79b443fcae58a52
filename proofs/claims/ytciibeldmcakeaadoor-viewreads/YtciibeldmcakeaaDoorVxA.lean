/- view.readMember: its walk. -/
import Derived.Test.YtciibeldmcakeaaDoorVwN
import Derived.Test.YtciibeldmcakeaaDoorT3
namespace Go.Proofs.YtciibeldmcakeaaDoor
open Go.RowKit

/-- A member's bytes: the error, the member, what is left. -/
def mbE (s : ByteArray) : Int := if Q.tE s 1 = 0 then (if Q.tE (Q.tR s 1) 1 = 0 then Q.tE (Q.tR (Q.tR s 1) 1) 3 else Q.tE (Q.tR s 1) 1) else Q.tE s 1
def mbM (s : ByteArray) : Mb := if mbE s = 0 then ⟨Q.tN s 1, Q.tN (Q.tR s 1) 1, Q.tN (Q.tR (Q.tR s 1) 1) 3 == 1⟩ else ⟨0, 0, false⟩
def mbR (s : ByteArray) : ByteArray := if mbE s = 0 then Q.tR (Q.tR (Q.tR s 1) 1) 3 else e0
theorem take3_ok (s : ByteArray) (h : mbE s = 0) : Q.takeR s [1, 1, 3] = ([⟨1, Q.tN s 1, Q.tS s 1⟩, ⟨1, Q.tN (Q.tR s 1) 1, Q.tS (Q.tR s 1) 1⟩, ⟨3, Q.tN (Q.tR (Q.tR s 1) 1) 3, Q.tS (Q.tR (Q.tR s 1) 1) 3⟩], Q.tR (Q.tR (Q.tR s 1) 1) 3, 0) := by
  unfold mbE at h
  have h1 : Q.tE s 1 = 0 := by split at h <;> simp_all
  rw [if_pos h1] at h
  have h2 : Q.tE (Q.tR s 1) 1 = 0 := by split at h <;> simp_all
  rw [if_pos h2] at h
  unfold Q.takeR
  rw [if_pos (by decide)]
  simp [Q.tk, h1, h2, h]
theorem take3_no (s : ByteArray) (h : mbE s ≠ 0) : Q.takeR s [1, 1, 3] = ([], e0, mbE s) := by
  unfold Q.takeR
  rw [if_pos (by decide)]
  unfold mbE at h ⊢
  by_cases h1 : Q.tE s 1 = 0
  · rw [if_pos h1] at h ⊢
    by_cases h2 : Q.tE (Q.tR s 1) 1 = 0
    · rw [if_pos h2] at h ⊢
      simp [Q.tk, h1, h2, h]
    · rw [if_neg h2] at h ⊢
      simp [Q.tk, h1, h2]
  · rw [if_neg h1] at h ⊢
    simp [Q.tk, h1]
theorem mbR_size (s : ByteArray) : (mbR s).size ≤ s.size := by
  unfold mbR
  split
  · exact Nat.le_trans (Q.tR_size _ _) (Nat.le_trans (Q.tR_size _ _) (Q.tR_size _ _))
  · show 0 ≤ _
    exact Nat.zero_le _
theorem kinds_row {w : World} {b n : Nat} {C : List Value} {t : TypeId} (h : w.heap[b]? = some (.cells C.toArray t (0, 0))) (hn : C.length = n) (h0 : n ≤ 100) : IsRow w 1 (.slice (some ⟨b, 0, none⟩) n n) n C := by
  refine ⟨by omega, .inr ⟨b, 0, n, rfl, (heap_at h).2.2, Nat.le_refl _, by unfold maxLen; omega, fun j u hu => ?_⟩⟩
  rw [Nat.zero_add, (heap_at h).1 j]
  simpa using hu
theorem three_M {w : World} {b : Nat} {x y z : Value} {t : TypeId} (h : w.heap[b]? = some (.cells #[x, y, z] t (0, 0))) : (w.cell? ⟨b, 0, none⟩ = some x ∧ w.cell? ⟨b, 1, none⟩ = some y ∧ w.cell? ⟨b, 2, none⟩ = some z) ∧ w.frozen? ⟨b, 0, none⟩ = false ∧ w.frozen? ⟨b, 1, none⟩ = false ∧ w.frozen? ⟨b, 2, none⟩ = false := ⟨⟨(heap_at h).1 0, (heap_at h).1 1, (heap_at h).1 2⟩, (heap_at h).2.1 0, (heap_at h).2.1 1, (heap_at h).2.1 2⟩
theorem al2V (w : World) (o1 o2 : Obj) : ((w.alloc o1).alloc o2).heap[w.heap.size + 1]? = some o2 := by
  show ((w.heap.push _).push _)[w.heap.size + 1]? = _
  rw [Array.getElem?_push, if_pos (by simp)]
set_option maxRecDepth 100000 in
set_option maxHeartbeats 1000000 in
theorem readMember_any (s : ByteArray) (w : World) (hs : s.size ≤ 140737488355328) :
    Calls Tryd.prog 19 #[.string s] w fun e w' => e = .returned (.tuple #[mbV (mbM s), .string (mbR s), .int .i64 (mbE s)]) ∧ Below w.heap.size w w' := by
  have HTk : Hid (Calls Tryd.prog 18 #[.string s, .slice (some ⟨w.heap.size + 1, 0, none⟩) 3 3] ((w.alloc (.cells #[.int .i64 0, .int .i64 0, .bool false] 51)).alloc (.cells #[.int .i64 1, .int .i64 1, .int .i64 3] 3)) fun e w' => Q.TakePost (Q.takeR s [1, 1, 3]) ((w.alloc (.cells #[.int .i64 0, .int .i64 0, .bool false] 51)).alloc (.cells #[.int .i64 1, .int .i64 1, .int .i64 3] 3)) e w') :=
    Q.take_any s _ [1, 1, 3] _ hs (kinds_row (C := Q.intCells [1, 1, 3]) (al2V w _ _) rfl (by decide)) (by decide)
  have HB0 : Hid (Below w.heap.size w ((w.alloc (.cells #[.int .i64 0, .int .i64 0, .bool false] 51)).alloc (.cells #[.int .i64 1, .int .i64 1, .int .i64 3] 3))) := (al_belowV w _).trans ((al_belowV _ _).mono (by simp))
  have HX : Hid (∀ w', Below ((w.alloc (.cells #[.int .i64 0, .int .i64 0, .bool false] 51)).alloc (.cells #[.int .i64 1, .int .i64 1, .int .i64 3] 3)).heap.size ((w.alloc (.cells #[.int .i64 0, .int .i64 0, .bool false] 51)).alloc (.cells #[.int .i64 1, .int .i64 1, .int .i64 3] 3)) w' → w'.heap[w.heap.size]? = some (.cells #[.int .i64 0, .int .i64 0, .bool false] 51 (0, 0))) := fun w' h => (h.block _ (by simp; omega)).trans ((alloc_old _ _ (by simp)).trans (alloc_top w _))
  by_cases h0 : mbE s = 0
  · have hM : mbM s = ⟨Q.tN s 1, Q.tN (Q.tR s 1) 1, Q.tN (Q.tR (Q.tR s 1) 1) 3 == 1⟩ := if_pos h0
    have hR : mbR s = Q.tR (Q.tR (Q.tR s 1) 1) 3 := if_pos h0
    rw [take3_ok s h0] at HTk
    rw [hM, hR, h0]
    clear hM hR h0
    generalize Q.tR (Q.tR (Q.tR s 1) 1) 3 = R3 at *
    generalize Q.tN (Q.tR (Q.tR s 1) 1) 3 = N3 at *
    generalize Q.tN (Q.tR s 1) 1 = N2 at *
    generalize Q.tN s 1 = N1 at *
    generalize Q.tS (Q.tR (Q.tR s 1) 1) 3 = S3 at *
    generalize Q.tS (Q.tR s 1) 1 = S2 at *
    generalize Q.tS s 1 = S1 at *
    go_enter Tryd.func19, Tryd.ntmps19
    go_wp2_with fail
    refine HTk.out.mono ?_
    rintro e w1 ⟨v1, rfl, hr1, hb1⟩
    obtain ⟨⟨x0, x1, x2⟩, f0, f1, f2⟩ := three_M (HX.out w1 hb1)
    have HB1 : Hid (Below w.heap.size w w1) := HB0.out.trans (hb1.mono HB0.out.size)
    rcases hr1.2 with ⟨h, -⟩ | ⟨b, off, cap, rfl, hlt, hc1, hc2, hc⟩
    · cases h
    have c0 : w1.cell? ⟨b, off + 1, none⟩ = some (.int .i64 N1) := hc 1 _ rfl
    have c1 : w1.cell? ⟨b, off + 3 + 1, none⟩ = some (.int .i64 N2) := hc 4 _ rfl
    have c2 : w1.cell? ⟨b, off + 6 + 1, none⟩ = some (.int .i64 N3) := hc 7 _ rfl
    clear hc hr1 hb1 HTk HX HB0
    go_wp2_with fail
    go_region
    all_goals go_wp2
    all_goals
      refine bodyPost_ret (v := .tuple #[mbV ⟨N1, N2, N3 == 1⟩, .string R3, .int .i64 0]) ?_ rfl ⟨rfl, set3_V HB1.out.drew (by omega) _ _ _⟩
      rw [results_c3V rfl]; go_simp
  · have hM : mbM s = ⟨0, 0, false⟩ := if_neg h0
    have hR : mbR s = e0 := if_neg h0
    rw [take3_no s h0] at HTk
    rw [hM, hR]
    have nb : (mbE s != 0) = true := by simpa using h0
    clear hM hR h0
    generalize mbE s = E at *
    go_enter Tryd.func19, Tryd.ntmps19
    go_wp2_with fail
    refine HTk.out.mono ?_
    rintro e w1 ⟨v1, rfl, hr1, hb1⟩
    obtain ⟨⟨x0, x1, x2⟩, f0, f1, f2⟩ := three_M (HX.out w1 hb1)
    have HB1 : Hid (Below w.heap.size w w1) := HB0.out.trans (hb1.mono HB0.out.size)
    clear hr1 hb1 HTk HX HB0
    go_wp2
    refine bodyPost_ret (v := .tuple #[mbV ⟨0, 0, false⟩, .string e0, .int .i64 E]) ?_ rfl ⟨rfl, set3_V HB1.out (by omega) _ _ _⟩
    rw [results_c3V rfl]; go_simp
end Go.Proofs.YtciibeldmcakeaaDoor
