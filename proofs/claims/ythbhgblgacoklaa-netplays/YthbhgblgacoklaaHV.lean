/- The reference's Clear: its walk. -/
import Derived.Test.YthbhgblgacoklaaHU
namespace Go.Proofs.Ythbhgblgacoklaa
open Go.RowKit

/-- Is the packet of a place none of a node's? -/
def clP (L : List Pk) (n : Int) (k : Nat) : Bool := !((L.getD k zP).f == n) && !((L.getD k zP).t == n)
theorem clP_at {L : List Pk} {n : Int} {k : Nat} (h : k < L.length) : clP L n k = (!(L[k].f == n) && !(L[k].t == n)) := by
  have e : L.getD k zP = L[k] := by simp [List.getD, h]
  unfold clP
  rw [e]
set_option maxRecDepth 100000 in
set_option maxHeartbeats 4000000 in
theorem clear_ref (v : Value) (au : Option Addr) (nu cu : Nat) (L : List Pk) (n : Int) (w : World) (hr : IsRow w 7 v L.length (pCells L)) (hl : L.length ≤ 100000) :
    Calls Try.prog 32 #[.agg #[v, .slice au nu cu], .int .i64 n] w fun e w' => NtPost (flt L (clP L n) L.length) (.slice au nu cu) w e w' := by
  obtain ⟨a0, cap0, rfl⟩ := hr.form
  obtain ⟨i0, hi0, hz0, hz1, hz2⟩ := info_parts info_rp
  obtain ⟨hn1, hG⟩ := box2_facts (u := .slice au nu cu) hr
  obtain ⟨W0, hW0⟩ : ∃ W0, W0 = box2 w (.slice a0 L.length cap0) (.slice au nu cu) := ⟨_, rfl⟩
  rw [← hW0] at hn1 hG
  have HG : Hid _ := hG
  obtain ⟨P, hP⟩ : ∃ P : Nat → Bool, P = clP L n := ⟨_, rfl⟩
  rw [← hP]
  have HP : Hid (∀ (k : Nat) (h : k < L.length), P k = (!(L[k].f == n) && !(L[k].t == n))) := fun k h => by rw [hP]; exact clP_at h
  clear hG hr hP
  go_enter Try.func32, Try.ntmps32
  go_wp2_with fail
  unfold box2 at hW0
  rw [← hW0]
  clear hW0
  go_loopw [5, 6] (fun o i wr => ∃ k : Nat, k ≤ L.length ∧ i = .int .i64 (k : Int) ∧ wr.ownsRow W0.heap.size 48 7 o (flt L P k).length (pCells (flt L P k)) ∧ Below W0.heap.size W0 wr) (fun _ i _ => L.length - (intOf i).toNat)
  case atStart => exact ⟨0, Nat.zero_le _, rfl, World.ownsRow_nil _ _ _ _, Below.refl _ _⟩
  case round =>
    obtain ⟨k, hk, rfl, hown, hB⟩ := hrel
    have hsz := hB.size
    obtain ⟨x0, x1, hrow, hbw⟩ := HG.out wr hB
    obtain ⟨g0, g1, f0, f1⟩ := two_at x0
    by_cases hlk : k < L.length
    · obtain ⟨b, off, rfl, hlt, hcap, hc⟩ := pk_at hrow (by omega)
      obtain ⟨c0, c1, c2, c3, c4, c5, c6⟩ := hc k hlk
      have q1 : (0 : Int) ≤ (k : Int) := by omega
      have q2 : (k : Int) < (L.length : Int) := by omega
      have HB : Hid (Below W0.heap.size W0 wr) := hB
      have hpl := flt_len L P k
      have HO : Hid (wr.ownsRow W0.heap.size 48 7 u5 (flt L P k).length (pCells (flt L P k))) := hown
      have HPk : Hid (P k = (!(L[k].f == n) && !(L[k].t == n))) := HP.out k hlk
      by_cases h1 : L[k].f = n
      · have HT : Hid (flt L P (k + 1) = flt L P k) := flt_no (by rw [HPk.out, h1]; simp)
        have e1 : (L[k].f != n) = false := by rw [h1]; simp
        rw [h1] at c0
        have e1 : (n != n) = false := by simp
        clear h1 hown hB hc hrow hbw hpl c1 c2 c3 c4 c5 c6 x0 x1 HPk
        go_wp2
        go_roundw
        case rel => exact ⟨k + 1, by omega, by simp, by rw [HT.out]; exact HO.out, HB.out⟩
        case measure => simp [intOf]; omega
      have e1 : (L[k].f != n) = true := by simp [h1]
      by_cases h2 : L[k].t = n
      · have HT : Hid (flt L P (k + 1) = flt L P k) := flt_no (by rw [HPk.out, h2]; simp)
        rw [h2] at c1
        have e2 : (n != n) = false := by simp
        generalize L[k].f = y at *
        clear h1 h2 hown hB hc hrow hbw hpl c2 c3 c4 c5 c6 x0 x1 HPk
        go_wp2
        go_roundw
        case rel => exact ⟨k + 1, by omega, by simp, by rw [HT.out]; exact HO.out, HB.out⟩
        case measure => simp [intOf]; omega
      · have HT : Hid (flt L P (k + 1) = flt L P k ++ [L[k]]) := flt_yes hlk (by rw [HPk.out]; simp [h1, h2])
        have e2 : (L[k].t != n) = true := by simp [h2]
        generalize L[k]'hlk = p at *
        obtain ⟨p0, p1, p2, p3, p4, p5, p6⟩ := p
        dsimp only at c0 c1 c2 c3 c4 c5 c6 e1 e2
        clear HPk h1 h2 hown hB hc hrow hbw x0 x1
        go_wp2_with (at_builtin; go_loud (refine wpl_appE wr rfl (.tmp 32) (.tmp 38) 25 48 rfl i0 _ 7 64 Try.underlying25 hi0 hz0 hz1 hz2 rfl (by decide) W0.heap.size u5 (flt L P k).length _ rfl HO.out (enP ⟨p0, p1, p2, p3, p4, p5, p6⟩) rfl _ rfl rfl (oneP_cell _) (by omega) (by unfold maxLen; omega) (by omega) ?_); intro v4 w4 hown4 hb4)
        have HO4 : Hid (w4.ownsRow W0.heap.size 48 7 v4 (flt L P (k + 1)).length (pCells (flt L P (k + 1)))) := by show World.ownsRow _ _ _ _ _ _ _; rw [HT.out, pCells_app, pCells_one, List.length_append]; exact hown4
        have HB4 : Hid (Below W0.heap.size W0 w4) := HB.out.trans hb4
        clear hown4 hb4 HT HO HB g0 g1 f0 f1 c0 c1 c2 c3 c4 c5 c6
        go_wp2
        go_roundw
        case rel => exact ⟨k + 1, by omega, by simp, HO4.out, HB4.out⟩
        case measure => simp [intOf]; omega
    · have hk' : k = L.length := by omega
      subst hk'
      obtain ⟨g2, g3, f2, f3⟩ := two_at x1
      obtain ⟨a5, cap5, rfl⟩ := (IsRow.own hown).form
      have HX : Hid (∀ x y z, IsRow (((wr.setCell ⟨w.heap.size, 0, none⟩ x).setCell ⟨w.heap.size + 1, 0, none⟩ y).setCell ⟨w.heap.size + 1, 1, none⟩ z) 7 (.slice a5 (flt L P L.length).length cap5) (flt L P L.length).length (pCells (flt L P L.length)) ∧ Below w.heap.size w (((wr.setCell ⟨w.heap.size, 0, none⟩ x).setCell ⟨w.heap.size + 1, 0, none⟩ y).setCell ⟨w.heap.size + 1, 1, none⟩ z)) := fun x y z =>
        ⟨IsRow.own (ownsRow_setCell_below (ownsRow_setCell_below (ownsRow_setCell_below hown (a := ⟨w.heap.size, 0, none⟩) (by show w.heap.size < _; omega) x) (a := ⟨w.heap.size + 1, 0, none⟩) hn1 y) (a := ⟨w.heap.size + 1, 1, none⟩) hn1 z), ((hbw.setCell (p := ⟨w.heap.size, 0, none⟩) (Nat.le_refl _) x).setCell (p := ⟨w.heap.size + 1, 0, none⟩) (Nat.le_succ _) y).setCell (p := ⟨w.heap.size + 1, 1, none⟩) (Nat.le_succ _) z⟩
      have HFr : Hid (FrR w (.slice a5 (flt L P L.length).length cap5)) := fun k e => by have := (hown.lt k e).1; omega
      clear hown hB hrow hbw x0 x1 HG
      go_wp2_with fail
      try simp only [Exit.inBlock, Exit.then]
      refine bodyPost_ret (v := .agg #[.slice a5 (flt L P L.length).length cap5, .slice au nu cu]) ?_ rfl ⟨_, rfl, (HX.out _ _ _).1, (HX.out _ _ _).2, HFr.out⟩
      rw [results_cell1 rfl]; go_simp
end Go.Proofs.Ythbhgblgacoklaa
