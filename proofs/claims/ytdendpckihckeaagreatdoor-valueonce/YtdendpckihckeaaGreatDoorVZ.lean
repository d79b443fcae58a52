/- value.Read where an item stands there: walks; value.Read at any bytes. -/
import Derived.Test.YtdendpckihckeaaGreatDoorVY
namespace Go.Proofs.YtdendpckihckeaaGreatDoor
open Go.RowKit

/-- A value's cells, and that they may be set. -/
structure Zx (k n : Int) (s : ByteArray) (b : Nat) (w : World) : Prop where
  c0 : w.cell? ⟨b, 0, none⟩ = some (.int .i64 k)
  c1 : w.cell? ⟨b, 1, none⟩ = some (.int .i64 n)
  c2 : w.cell? ⟨b, 2, none⟩ = some (.string s)
  f0 : w.frozen? ⟨b, 0, none⟩ = false
  f1 : w.frozen? ⟨b, 1, none⟩ = false
  f2 : w.frozen? ⟨b, 2, none⟩ = false
theorem Zx.below {k n : Int} {s : ByteArray} {b B : Nat} {w w' : World} (h : Zx k n s b w) (hb : Below B w w') (hlt : b < B) : Zx k n s b w' :=
  ⟨(hb.cell (p := ⟨b, 0, none⟩) hlt).trans h.c0, (hb.cell (p := ⟨b, 1, none⟩) hlt).trans h.c1, (hb.cell (p := ⟨b, 2, none⟩) hlt).trans h.c2, (hb.frozen (p := ⟨b, 0, none⟩) hlt).trans h.f0, (hb.frozen (p := ⟨b, 1, none⟩) hlt).trans h.f1, (hb.frozen (p := ⟨b, 2, none⟩) hlt).trans h.f2⟩

set_option maxRecDepth 100000 in
set_option maxHeartbeats 4000000 in
theorem read_4 (s : ByteArray) (w : World) (hs : s.size ≤ 140737488355328) (hT : UT w) (h : Q.getE s = 0) (k1 : 1 ≤ Q.getV s) (k4 : Q.getV s ≤ 4) (ht : Q.tE (Q.getRest s) (itm (Q.getV s)) = 0)
    (hc : chkV (Q.getV s) (Q.tN (Q.getRest s) (itm (Q.getV s))) (Q.tS (Q.getRest s) (itm (Q.getV s))) = false) :
    Calls Tryz.prog 18 #[.string s] w fun e w' => RdPost ⟨0, 0, ⟨#[]⟩, ⟨#[]⟩, 3⟩ w e w' := by
  have H0 : Hid (Q.getE s = 0) := h
  obtain ⟨i1, i4⟩ := itm_rng k1 k4
  have hr := Q.getRest_size s
  have hS := tS_size (Q.getRest s) (itm (Q.getV s))
  generalize hK : Q.getV s = K at *
  generalize hI : itm K = I at *
  have HK : Hid (Q.getV s = K) := hK
  have HI : Hid (itm K = I) := hI
  have HT := take_1ok (Q.getRest s) I 3
  generalize hN : Q.tN (Q.getRest s) I = N at *
  generalize hX : Q.tS (Q.getRest s) I = X at *
  generalize hY : Q.tR (Q.getRest s) I = Y at *
  have hX' : X.size ≤ 140737488355328 := by omega
  have h0 : (I == 0) = false := by rw [beq_eq_false_iff_ne]; omega
  have HR : Hid ((Q.getRest s).size ≤ 140737488355328) := by show _ ≤ _; omega
  have HI1 : Hid (1 ≤ I ∧ I ≤ 4) := ⟨i1, i4⟩
  have HC : Hid (chkV K N X = false) := hc
  have HE : Hid (Q.tE (Q.getRest s) I = 0) := ht
  clear h k1 k4 hK hI ht hN hX hY hr hS i1 i4 hc
  go_enter Tryz.func18, Tryz.ntmps18
  go_wp2_with fail
  refine (Q.get_any _ _ hs).mono ?_
  rintro e w2 ⟨rfl, hb2⟩
  have hz2 := (Zero.new w).below hb2 (by simp)
  have hlt2 : w.heap.size < w2.heap.size := by have := hb2.size; simp at this; omega
  have hB2 := (wv_below w).trans (hb2.mono (by simp))
  clear hb2
  rw [H0.out, HK.out]
  have HZ2 : Hid (Zero w.heap.size w2) := hz2
  clear hz2
  go_wp2_with fail
  refine (itemOf_any _ _).mono ?_
  rintro e w3 ⟨rfl, rfl⟩
  rw [HI.out]
  go_wp2_with fail
  refine (HT _ HR.out HI1.out.1 HI1.out.2 HE.out).mono ?_
  rintro e w4 ⟨⟨v, rfl, ⟨b, off, cap, rfl, hbl, d1, d2⟩⟩, hb4⟩
  have HZ : Hid (Three w.heap.size w4 (.int .i64 0) (.int .i64 0) (.string ⟨#[]⟩)) := (HZ2.out.below hb4 hlt2).three
  obtain ⟨c0, c1, c2, f0, f1, f2⟩ := HZ2.out.below hb4 hlt2
  have hB4 := hB2.trans (hb4.mono (by omega))
  clear hb4 HT
  go_wp2
  go_region
  have t5 := HZ.out.set (.int .i64 K) (.int .i64 N) (.string X)
  have T5 : Three w.heap.size (set3 w4 w.heap.size (.int .i64 K) (.int .i64 N) (.string X)).drew (.int .i64 K) (.int .i64 N) (.string X) := ⟨t5.c0, t5.c1, t5.c2⟩
  have g0 : (set3 w4 w.heap.size (.int .i64 K) (.int .i64 N) (.string X)).drew.frozen? ⟨w.heap.size, 0, none⟩ = false := by simpa using f0
  have g1 : (set3 w4 w.heap.size (.int .i64 K) (.int .i64 N) (.string X)).drew.frozen? ⟨w.heap.size, 1, none⟩ = false := by simpa using f1
  have g2 : (set3 w4 w.heap.size (.int .i64 K) (.int .i64 N) (.string X)).drew.frozen? ⟨w.heap.size, 2, none⟩ = false := by simpa using f2
  have hB5 : Below w.heap.size w (set3 w4 w.heap.size (.int .i64 K) (.int .i64 N) (.string X)).drew := (set3_below hB4 _ _ _).drew
  have hlt5 : w.heap.size < (set3 w4 w.heap.size (.int .i64 K) (.int .i64 N) (.string X)).drew.heap.size := World.block_lt_of_cell? _ _ T5.c0
  clear t5 c0 c1 c2 f0 f1 f2 d1 d2 hB4 HZ hB2
  generalize (set3 w4 w.heap.size (.int .i64 K) (.int .i64 N) (.string X)).drew = W5 at *
  obtain ⟨c0, c1, c2⟩ := T5
  go_wp2_with fail
  refine (check_any _ _ _ _ hX' (Utf8Tabs_below hT hB5)).mono ?_
  rintro e w6 ⟨rfl, hb6⟩
  rw [HC.out]
  have z6 : Zx K N X w.heap.size w6 := Zx.below ⟨c0, c1, c2, g0, g1, g2⟩ hb6 hlt5
  have HZ : Hid (Three w.heap.size w6 (.int .i64 K) (.int .i64 N) (.string X)) := ⟨z6.c0, z6.c1, z6.c2⟩
  have hB6 := hB5.trans (hb6.mono (by omega))
  clear c0 c1 c2 g0 g1 g2 hb6 hB5
  obtain ⟨c0, c1, c2, f0, f1, f2⟩ := z6
  go_wp2
  try simp only [Exit.inBlock, Exit.then]
  exact bodyPost_ret (results_v3 rfl _ _ w.heap.size rfl (HZ.out.set _ _ _)) rfl ⟨rfl, set3_below hB6 _ _ _⟩
set_option maxRecDepth 100000 in
set_option maxHeartbeats 4000000 in
theorem read_5 (s : ByteArray) (w : World) (hs : s.size ≤ 140737488355328) (hT : UT w) (h : Q.getE s = 0) (k1 : 1 ≤ Q.getV s) (k4 : Q.getV s ≤ 4) (ht : Q.tE (Q.getRest s) (itm (Q.getV s)) = 0)
    (hc : chkV (Q.getV s) (Q.tN (Q.getRest s) (itm (Q.getV s))) (Q.tS (Q.getRest s) (itm (Q.getV s))) = true) :
    Calls Tryz.prog 18 #[.string s] w fun e w' => RdPost ⟨Q.getV s, Q.tN (Q.getRest s) (itm (Q.getV s)), Q.tS (Q.getRest s) (itm (Q.getV s)), Q.tR (Q.getRest s) (itm (Q.getV s)), 0⟩ w e w' := by
  have H0 : Hid (Q.getE s = 0) := h
  obtain ⟨i1, i4⟩ := itm_rng k1 k4
  have hr := Q.getRest_size s
  have hS := tS_size (Q.getRest s) (itm (Q.getV s))
  generalize hK : Q.getV s = K at *
  generalize hI : itm K = I at *
  have HK : Hid (Q.getV s = K) := hK
  have HI : Hid (itm K = I) := hI
  have HT := take_1ok (Q.getRest s) I 3
  generalize hN : Q.tN (Q.getRest s) I = N at *
  generalize hX : Q.tS (Q.getRest s) I = X at *
  generalize hY : Q.tR (Q.getRest s) I = Y at *
  have hX' : X.size ≤ 140737488355328 := by omega
  have h0 : (I == 0) = false := by rw [beq_eq_false_iff_ne]; omega
  have HR : Hid ((Q.getRest s).size ≤ 140737488355328) := by show _ ≤ _; omega
  have HI1 : Hid (1 ≤ I ∧ I ≤ 4) := ⟨i1, i4⟩
  have HC : Hid (chkV K N X = true) := hc
  have HE : Hid (Q.tE (Q.getRest s) I = 0) := ht
  clear h k1 k4 hK hI ht hN hX hY hr hS i1 i4 hc
  go_enter Tryz.func18, Tryz.ntmps18
  go_wp2_with fail
  refine (Q.get_any _ _ hs).mono ?_
  rintro e w2 ⟨rfl, hb2⟩
  have hz2 := (Zero.new w).below hb2 (by simp)
  have hlt2 : w.heap.size < w2.heap.size := by have := hb2.size; simp at this; omega
  have hB2 := (wv_below w).trans (hb2.mono (by simp))
  clear hb2
  rw [H0.out, HK.out]
  have HZ2 : Hid (Zero w.heap.size w2) := hz2
  clear hz2
  go_wp2_with fail
  refine (itemOf_any _ _).mono ?_
  rintro e w3 ⟨rfl, rfl⟩
  rw [HI.out]
  go_wp2_with fail
  refine (HT _ HR.out HI1.out.1 HI1.out.2 HE.out).mono ?_
  rintro e w4 ⟨⟨v, rfl, ⟨b, off, cap, rfl, hbl, d1, d2⟩⟩, hb4⟩
  have HZ : Hid (Three w.heap.size w4 (.int .i64 0) (.int .i64 0) (.string ⟨#[]⟩)) := (HZ2.out.below hb4 hlt2).three
  obtain ⟨c0, c1, c2, f0, f1, f2⟩ := HZ2.out.below hb4 hlt2
  have hB4 := hB2.trans (hb4.mono (by omega))
  clear hb4 HT
  go_wp2
  go_region
  have t5 := HZ.out.set (.int .i64 K) (.int .i64 N) (.string X)
  have T5 : Three w.heap.size (set3 w4 w.heap.size (.int .i64 K) (.int .i64 N) (.string X)).drew (.int .i64 K) (.int .i64 N) (.string X) := ⟨t5.c0, t5.c1, t5.c2⟩
  have g0 : (set3 w4 w.heap.size (.int .i64 K) (.int .i64 N) (.string X)).drew.frozen? ⟨w.heap.size, 0, none⟩ = false := by simpa using f0
  have g1 : (set3 w4 w.heap.size (.int .i64 K) (.int .i64 N) (.string X)).drew.frozen? ⟨w.heap.size, 1, none⟩ = false := by simpa using f1
  have g2 : (set3 w4 w.heap.size (.int .i64 K) (.int .i64 N) (.string X)).drew.frozen? ⟨w.heap.size, 2, none⟩ = false := by simpa using f2
  have hB5 : Below w.heap.size w (set3 w4 w.heap.size (.int .i64 K) (.int .i64 N) (.string X)).drew := (set3_below hB4 _ _ _).drew
  have hlt5 : w.heap.size < (set3 w4 w.heap.size (.int .i64 K) (.int .i64 N) (.string X)).drew.heap.size := World.block_lt_of_cell? _ _ T5.c0
  clear t5 c0 c1 c2 f0 f1 f2 d1 d2 hB4 HZ hB2
  generalize (set3 w4 w.heap.size (.int .i64 K) (.int .i64 N) (.string X)).drew = W5 at *
  obtain ⟨c0, c1, c2⟩ := T5
  go_wp2_with fail
  refine (check_any _ _ _ _ hX' (Utf8Tabs_below hT hB5)).mono ?_
  rintro e w6 ⟨rfl, hb6⟩
  rw [HC.out]
  have z6 : Zx K N X w.heap.size w6 := Zx.below ⟨c0, c1, c2, g0, g1, g2⟩ hb6 hlt5
  have HZ : Hid (Three w.heap.size w6 (.int .i64 K) (.int .i64 N) (.string X)) := ⟨z6.c0, z6.c1, z6.c2⟩
  have hB6 := hB5.trans (hb6.mono (by omega))
  clear c0 c1 c2 g0 g1 g2 hb6 hB5
  obtain ⟨c0, c1, c2, f0, f1, f2⟩ := z6
  go_wp2
  try simp only [Exit.inBlock, Exit.then]
  exact bodyPost_ret (results_v3 rfl _ _ w.heap.size rfl (HZ.out.set _ _ _)) rfl ⟨rfl, set3_below hB6 _ _ _⟩

/-- value.Read at any bytes. -/
theorem read_any (s : ByteArray) (w : World) (hs : s.size ≤ 140737488355328) (hT : UT w) :
    Calls Tryz.prog 18 #[.string s] w fun e w' => RdPost (rd s) w e w' := by
  unfold rd
  by_cases h0 : Q.getE s = 0
  · rw [if_neg (fun hh => hh h0)]
    by_cases h1 : Q.getV s < 1 ∨ 4 < Q.getV s
    · rw [if_pos h1]
      exact read_2 s w hs h0 h1
    · rw [if_neg h1]
      by_cases h2 : Q.tE (Q.getRest s) (itm (Q.getV s)) = 0
      · rw [if_neg (fun hh => hh h2)]
        by_cases h3 : chkV (Q.getV s) (Q.tN (Q.getRest s) (itm (Q.getV s))) (Q.tS (Q.getRest s) (itm (Q.getV s))) = true
        · rw [if_pos h3]
          exact read_5 s w hs hT h0 (by omega) (by omega) h2 h3
        · rw [if_neg h3]
          exact read_4 s w hs hT h0 (by omega) (by omega) h2 (by simpa using h3)
      · rw [if_pos h2]
        exact read_3 s w hs h0 (by omega) (by omega) h2
  · rw [if_pos h0]
    exact read_1 s w hs h0
end Go.Proofs.YtdendpckihckeaaGreatDoor
