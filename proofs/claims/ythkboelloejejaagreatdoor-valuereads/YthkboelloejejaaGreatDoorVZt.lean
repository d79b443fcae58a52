/- The reference's Read of values where an item stands there; the whole. -/
import Derived.Test.YthkboelloejejaaGreatDoorVZs
namespace Go.Proofs.YthkboelloejejaaGreatDoor
open Go.RowKit

/-- Two new blocks: what is read of them. -/
theorem two_post {P : World → Prop} (w : World) (C1 C2 : Array Value) (t1 t2 : TypeId)
    (h : ∀ W, (∀ j, W.cell? ⟨w.heap.size, j, none⟩ = C1[j]?) → (∀ j, W.cell? ⟨w.heap.size + 1, j, none⟩ = C2[j]?) → w.heap.size + 1 < W.heap.size → Below w.heap.size w W → P W) :
    P (((w.alloc (.cells C1 t1)).alloc (.cells C2 t2)).drew) := by
  have z1 : (w.alloc (.cells C1 t1)).heap.size = w.heap.size + 1 := by simp
  have A := (Below.refl (w.alloc (.cells C1 t1)).heap.size (w.alloc (.cells C1 t1))).alloc (Nat.le_refl _) (.cells C2 t2)
  refine h _ (fun j => ?_) (fun j => ?_) (by show _ < ((w.alloc (.cells C1 t1)).alloc (.cells C2 t2)).heap.size; simp) ?_
  · exact (A.cell (p := ⟨w.heap.size, j, none⟩) (by rw [z1]; exact Nat.lt_succ_self _)).trans (by simp)
  · show ((w.alloc (.cells C1 t1)).alloc (.cells C2 t2)).cell? _ = _
    have : ((w.alloc (.cells C1 t1)).alloc (.cells C2 t2)).cell? ⟨(w.alloc (.cells C1 t1)).heap.size, j, none⟩ = C2[j]? := by simp
    rw [z1] at this
    exact this
  · exact (((Below.refl _ _).alloc (Nat.le_refl _) _).alloc (by omega) _).drew

set_option maxRecDepth 100000 in
set_option maxHeartbeats 8000000 in
theorem refRead_4 (s : ByteArray) (w : World) (hs : s.size ≤ 140737488355328) (K I : Int) (hKI : KI K I) (H0 : Hid (Q.getE s = 0)) (HK : Hid (Q.getV s = K)) (HT : Hid (Q.tE (Q.getRest s) I = 0)) (C : Bool) (HC : Hid (chkV K (Q.tN (Q.getRest s) I) (Q.tS (Q.getRest s) I) = C)) :
    Calls Tryz.prog 20 #[.string s] w fun e w' => RsPost (if C = true then ⟨K, Q.tN (Q.getRest s) I, Q.tS (Q.getRest s) I, Q.tR (Q.getRest s) I, 0⟩ else ⟨0, 0, ⟨#[]⟩, ⟨#[]⟩, 3⟩) w e w' := by
  have HR : Hid ((Q.getRest s).size ≤ 140737488355328) := by show _ ≤ _; have := Q.getRest_size s; omega
  have hX : (Q.tS (Q.getRest s) I).size ≤ 140737488355328 := by have := tS_size (Q.getRest s) I; have := HR.out; omega
  rcases hKI with ⟨rfl, rfl⟩ | ⟨rfl, rfl⟩ | ⟨rfl, rfl⟩ | ⟨rfl, rfl⟩
  all_goals
    go_enter Tryz.func20, Tryz.ntmps20
    go_wp2_with fail
    refine (Q.refGet_any _ _ hs).mono ?_
    rintro e w2 ⟨rfl, hb2⟩
    rw [H0.out, HK.out]
    have z2 := (Zf.new w).below hb2 (by simp)
    have hlt2 : w.heap.size < w2.heap.size := by have := hb2.size; simp at this; omega
    have hne2 : w2.heap.size ≠ w.heap.size := by omega
    have hB2 := (wf_below w).trans (hb2.mono (by simp))
    have HZ : Hid (Zf w.heap.size w2) := z2
    clear hb2 z2
    go_wp2_with fail
    refine (refTake_2ok _ _ _ _ _ (by simp) HR.out (by decide) (by decide) HT.out).mono ?_
    rintro e w4 ⟨⟨v, rfl, ⟨b, off, cap, rfl, hbl, d1, d2⟩⟩, hb4⟩
    have hs4 := hb4.size
    have hlt4 : w.heap.size < w4.heap.size := by simp at hs4; omega
    have hne4 : w4.heap.size ≠ w.heap.size := by omega
    have hp4 : w2.heap.size < w4.heap.size := by simp at hs4; omega
    have hq4 : w4.heap.size ≠ w2.heap.size := by omega
    have hr4 : w4.heap.size ≠ b := by omega
    have hp0 := hb4.cell (p := ⟨w2.heap.size, 0, none⟩) (by simp)
    simp at hp0
    have hB4 : Below w.heap.size w w4 := (hB2.alloc (by omega) _).trans (hb4.mono (by simp; omega))
    have HY : Hid (Zf w.heap.size w4) := (HZ.out.below ((Below.refl w2.heap.size w2).alloc (Nat.le_refl _) _) hlt2).below hb4 (by simp; omega)
    clear hb4 hs4
    go_wp2
    go_region
    refine two_post (P := fun W => Exit.then _ _ Exit.normal _ W) w4 _ _ _ _ ?_
    intro W5 q1 q2 qs qb
    have hB5 : Below w.heap.size w W5 := hB4.trans (qb.mono (by omega))
    have HY5 : Hid (Zf w.heap.size W5) := HY.out.below qb hlt4
    have r1 : W5.cell? ⟨w4.heap.size, 1, none⟩ = some _ := q1 1
    have v0 : W5.cell? ⟨w4.heap.size + 1, 0, none⟩ = some _ := q2 0
    have v1 : W5.cell? ⟨w4.heap.size + 1, 1, none⟩ = some _ := q2 1
    have v2 : W5.cell? ⟨w4.heap.size + 1, 2, none⟩ = some _ := q2 2
    clear q1 q2 qb HY HZ d1 d2 hp0 hB4 hB2 hr4 hq4 hne2
    go_wp2_with fail
    refine (refCheck_any _ _ _ _ hX).mono ?_
    rintro e w6 ⟨rfl, hb6⟩
    rw [HC.out]
    have HY6 : Hid (Zf w.heap.size w6) := HY5.out.below hb6 (by omega)
    have r1' : w6.cell? ⟨w4.heap.size, 1, none⟩ = some _ := (hb6.cell (p := ⟨w4.heap.size, 1, none⟩) (show w4.heap.size < _ by omega)).trans r1
    have v0' : w6.cell? ⟨w4.heap.size + 1, 0, none⟩ = some _ := (hb6.cell (p := ⟨w4.heap.size + 1, 0, none⟩) qs).trans v0
    have v1' : w6.cell? ⟨w4.heap.size + 1, 1, none⟩ = some _ := (hb6.cell (p := ⟨w4.heap.size + 1, 1, none⟩) qs).trans v1
    have v2' : w6.cell? ⟨w4.heap.size + 1, 2, none⟩ = some _ := (hb6.cell (p := ⟨w4.heap.size + 1, 2, none⟩) qs).trans v2
    have hB6 := hB5.trans (hb6.mono (by omega))
    obtain ⟨⟨c0, c1, c2, c3, c4⟩, ff⟩ := HY6.out
    clear r1 v0 v1 v2 hb6 hB5 HY5 HC
    cases C
    all_goals
      go_wp2
      try simp only [Exit.inBlock, Exit.then]
      exact bodyPost_ret (results_s1 rfl _ _ w.heap.size rfl (HY6.out.c.set _ _ _ _ _)) rfl ⟨rfl, set5_below hB6 _ _ _ _ _⟩

/-- The reference's Read at any bytes: what the program's says. -/
theorem refRead_any (s : ByteArray) (w : World) (hs : s.size ≤ 140737488355328) :
    Calls Tryz.prog 20 #[.string s] w fun e w' => RsPost (rd s) w e w' := by
  unfold rd
  by_cases h0 : Q.getE s = 0
  · rw [if_neg (fun hh => hh h0)]
    by_cases h1 : Q.getV s < 1 ∨ 4 < Q.getV s
    · rw [if_pos h1]
      exact refRead_2 s w hs h0 h1
    · rw [if_neg h1]
      have hki := ki_itm (K := Q.getV s) (by omega) (by omega)
      by_cases h2 : Q.tE (Q.getRest s) (itm (Q.getV s)) = 0
      · rw [if_neg (fun hh => hh h2)]
        exact refRead_4 s w hs _ _ hki h0 rfl h2 _ rfl
      · rw [if_pos h2]
        exact refRead_3 s w hs _ _ hki h0 rfl h2
  · rw [if_pos h0]
    exact refRead_1 s w hs h0
end Go.Proofs.YthkboelloejejaaGreatDoor
