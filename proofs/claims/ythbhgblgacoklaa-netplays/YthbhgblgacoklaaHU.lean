/- The reference's without, Clear: walks. -/
import Derived.Test.YthbhgblgacoklaaHT
namespace Go.Proofs.Ythbhgblgacoklaa
open Go.RowKit

/-- Of the first k packets those whose places are kept. -/
def flt (L : List Pk) (P : Nat → Bool) : Nat → List Pk
  | 0 => []
  | k + 1 => flt L P k ++ if P k = true then [L.getD k zP] else []
theorem flt_len (L : List Pk) (P : Nat → Bool) : ∀ k, (flt L P k).length ≤ k
  | 0 => Nat.le_refl _
  | k + 1 => by
    have := flt_len L P k
    unfold flt
    rw [List.length_append]
    split <;> simp <;> omega
theorem flt_yes {L : List Pk} {P : Nat → Bool} {k : Nat} (hk : k < L.length) (h : P k = true) : flt L P (k + 1) = flt L P k ++ [L[k]] := by
  have e : L.getD k zP = L[k] := by simp [List.getD, hk]
  show flt L P k ++ (if P k = true then [L.getD k zP] else []) = _
  rw [e, if_pos h]
theorem flt_no {L : List Pk} {P : Nat → Bool} {k : Nat} (h : P k = false) : flt L P (k + 1) = flt L P k := by
  show flt L P k ++ (if P k = true then [L.getD k zP] else []) = _
  rw [if_neg (by rw [h]; simp), List.append_nil]
theorem two_at {w : World} {b : Nat} {x y : Value} {t : TypeId} (h : w.heap[b]? = some (.cells #[x, y] t)) :
    w.cell? ⟨b, 0, none⟩ = some x ∧ w.cell? ⟨b, 1, none⟩ = some y ∧ w.frozen? ⟨b, 0, none⟩ = false ∧ w.frozen? ⟨b, 1, none⟩ = false :=
  ⟨by rw [Lib.cell_of_heap h]; rfl, by rw [Lib.cell_of_heap h]; rfl, by simp [World.frozen?, h], by simp [World.frozen?, h]⟩
theorem info_rp : (Try.prog.info? 48).map (fun i => (i.zero, i.size, i.bytes)) = some (some (.agg #[.int .i64 0, .int .i64 0, .int .i64 0, .int .i64 0, .int .i64 0, .int .i64 0, .string ⟨#[]⟩]), 7, 64) := by kernel_rfl
/-- It lies in new memory. -/
def FrR (w : World) (v : Value) : Prop := ∀ k, v.ownBlock = some k → w.heap.size ≤ k
/-- It is what it was, or lies in new memory. -/
def FrB (w : World) (v v0 : Value) : Prop := v = v0 ∨ FrR w v
def NtPost (l : List Pk) (u : Value) (w : World) (e : Ending) (w' : World) : Prop := ∃ v, e = .returned (.agg #[v, u]) ∧ IsRow w' 7 v l.length (pCells l) ∧ Below w.heap.size w w' ∧ FrR w v
/-- Two boxes of nets, laid one behind the other. -/
abbrev box2 (w : World) (v u : Value) : World := (w.alloc (.cells #[v, u] 28)).alloc (.cells #[.slice none 0 0, .slice none 0 0] 28)
theorem box2_facts {w : World} {v u : Value} {l : List Pk} (hr : IsRow w 7 v l.length (pCells l)) :
    w.heap.size + 1 < (box2 w v u).heap.size ∧ ∀ w', Below (box2 w v u).heap.size (box2 w v u) w' → w'.heap[w.heap.size]? = some (.cells #[v, u] 28) ∧ w'.heap[w.heap.size + 1]? = some (.cells #[.slice none 0 0, .slice none 0 0] 28) ∧ IsRow w' 7 v l.length (pCells l) ∧ Below w.heap.size w w' := by
  have b0 : Below w.heap.size w (box2 w v u) := (al_b w _).trans ((al_b _ _).mono (al_b w _).size)
  have hn : w.heap.size + 1 < (box2 w v u).heap.size := by simp [box2]
  refine ⟨hn, fun w' h => ⟨?_, ?_, hr.below (b0.trans (h.mono b0.size)), b0.trans (h.mono b0.size)⟩⟩
  · rw [h.block _ (by omega)]
    show ((w.heap.push _).push _)[w.heap.size]? = _
    rw [Array.getElem?_push, if_neg (by simp), Array.getElem?_push, if_pos rfl]
  · rw [h.block _ hn]
    show ((w.heap.push _).push _)[w.heap.size + 1]? = _
    rw [Array.getElem?_push, if_pos (by simp)]
set_option maxRecDepth 100000 in
set_option maxHeartbeats 4000000 in
theorem without_any (v : Value) (au : Option Addr) (nu cu : Nat) (L : List Pk) (n : Int) (w : World) (hr : IsRow w 7 v L.length (pCells L)) (hl : L.length ≤ 100000) :
    Calls Try.prog 43 #[.agg #[v, .slice au nu cu], .int .i64 n] w fun e w' => NtPost (flt L (fun k => !((k : Int) == n)) L.length) (.slice au nu cu) w e w' := by
  obtain ⟨a0, cap0, rfl⟩ := hr.form
  obtain ⟨i0, hi0, hz0, hz1, hz2⟩ := info_parts info_rp
  obtain ⟨hn1, hG⟩ := box2_facts (u := .slice au nu cu) hr
  obtain ⟨W0, hW0⟩ : ∃ W0, W0 = box2 w (.slice a0 L.length cap0) (.slice au nu cu) := ⟨_, rfl⟩
  rw [← hW0] at hn1 hG
  have HG : Hid _ := hG
  obtain ⟨P, hP⟩ : ∃ P : Nat → Bool, P = fun k : Nat => !((k : Int) == n) := ⟨_, rfl⟩
  rw [← hP]
  have HP : Hid (∀ k : Nat, P k = !((k : Int) == n)) := fun k => by rw [hP]
  clear hG hr hP
  go_enter Try.func43, Try.ntmps43
  go_wp2_with fail
  unfold box2 at hW0
  rw [← hW0]
  clear hW0
  go_loopw [5, 6] (fun o i wr => ∃ k : Nat, k ≤ L.length ∧ i = .int .i64 (k : Int) ∧ wr.ownsRow W0.heap.size 48 7 o (flt L P k).length (pCells (flt L P k)) ∧ Below W0.heap.size W0 wr) (fun _ i _ => L.length - (intOf i).toNat)
  case atStart => exact ⟨0, Nat.zero_le _, rfl, World.ownsRow_nil _ _ _ _, Below.refl _ _⟩
  case round =>
    obtain ⟨k, hk, rfl, hown, hB⟩ := hrel
    have hsz := hB.size
    obtain ⟨x0, x1, hrow, hbw⟩ := HG.out wr hB
    obtain ⟨g0, g1, f0, f1⟩ := two_at x0
    by_cases hlk : k < L.length
    · obtain ⟨b, off, rfl, hlt, hcap, hc⟩ := pk_at hrow (by omega)
      obtain ⟨c0, c1, c2, c3, c4, c5, c6⟩ := hc k hlk
      have q1 : (0 : Int) ≤ (k : Int) := by omega
      have q2 : (k : Int) < (L.length : Int) := by omega
      have HB : Hid (Below W0.heap.size W0 wr) := hB
      have hpl := flt_len L P k
      have HO : Hid (wr.ownsRow W0.heap.size 48 7 u5 (flt L P k).length (pCells (flt L P k))) := hown
      by_cases h1 : (k : Int) = n
      · have HT : Hid (flt L P (k + 1) = flt L P k) := flt_no (by rw [HP.out]; simp [h1])
        have e1 : ((k : Int) != n) = false := by rw [h1]; simp
        clear h1 hown hB hc hrow hbw hpl c0 c1 c2 c3 c4 c5 c6 x0 x1
        go_wp2
        go_roundw
        case rel => exact ⟨k + 1, by omega, by simp, by rw [HT.out]; exact HO.out, HB.out⟩
        case measure => simp [intOf]; omega
      · have HT : Hid (flt L P (k + 1) = flt L P k ++ [L[k]]) := flt_yes hlk (by rw [HP.out]; simp [h1])
        have e1 : ((k : Int) != n) = true := by simp [h1]
        generalize L[k]'hlk = p at *
        obtain ⟨p0, p1, p2, p3, p4, p5, p6⟩ := p
        dsimp only at c0 c1 c2 c3 c4 c5 c6
        clear h1 hown hB hc hrow hbw x0 x1
        go_wp2_with (at_builtin; go_loud (refine wpl_appE wr rfl (.tmp 17) (.tmp 23) 25 48 rfl i0 _ 7 64 Try.underlying25 hi0 hz0 hz1 hz2 rfl (by decide) W0.heap.size u5 (flt L P k).length _ rfl HO.out (enP ⟨p0, p1, p2, p3, p4, p5, p6⟩) rfl _ rfl rfl (oneP_cell _) (by omega) (by unfold maxLen; omega) (by omega) ?_); intro v4 w4 hown4 hb4)
        have HO4 : Hid (w4.ownsRow W0.heap.size 48 7 v4 (flt L P (k + 1)).length (pCells (flt L P (k + 1)))) := by show World.ownsRow _ _ _ _ _ _ _; rw [HT.out, pCells_app, pCells_one, List.length_append]; exact hown4
        have HB4 : Hid (Below W0.heap.size W0 w4) := HB.out.trans hb4
        clear hown4 hb4 HT HO HB g0 g1 f0 f1 c0 c1 c2 c3 c4 c5 c6
        go_wp2
        go_roundw
        case rel => exact ⟨k + 1, by omega, by simp, HO4.out, HB4.out⟩
        case measure => simp [intOf]; omega
    · have hk' : k = L.length := by omega
      subst hk'
      obtain ⟨g2, g3, f2, f3⟩ := two_at x1
      obtain ⟨a5, cap5, rfl⟩ := (IsRow.own hown).form
      have HX : Hid (∀ x y z, IsRow (((wr.setCell ⟨w.heap.size, 0, none⟩ x).setCell ⟨w.heap.size + 1, 0, none⟩ y).setCell ⟨w.heap.size + 1, 1, none⟩ z) 7 (.slice a5 (flt L P L.length).length cap5) (flt L P L.length).length (pCells (flt L P L.length)) ∧ Below w.heap.size w (((wr.setCell ⟨w.heap.size, 0, none⟩ x).setCell ⟨w.heap.size + 1, 0, none⟩ y).setCell ⟨w.heap.size + 1, 1, none⟩ z)) := fun x y z =>
        ⟨IsRow.own (ownsRow_setCell_below (ownsRow_setCell_below (ownsRow_setCell_below hown (a := ⟨w.heap.size, 0, none⟩) (by show w.heap.size < _; omega) x) (a := ⟨w.heap.size + 1, 0, none⟩) hn1 y) (a := ⟨w.heap.size + 1, 1, none⟩) hn1 z), ((hbw.setCell (p := ⟨w.heap.size, 0, none⟩) (Nat.le_refl _) x).setCell (p := ⟨w.heap.size + 1, 0, none⟩) (Nat.le_succ _) y).setCell (p := ⟨w.heap.size + 1, 1, none⟩) (Nat.le_succ _) z⟩
      have HFr : Hid (FrR w (.slice a5 (flt L P L.length).length cap5)) := fun k e => by have := (hown.lt k e).1; omega
      clear hown hB hrow hbw x0 x1 HG
      go_wp2_with fail
      try simp only [Exit.inBlock, Exit.then]
      refine bodyPost_ret (v := .agg #[.slice a5 (flt L P L.length).length cap5, .slice au nu cu]) ?_ rfl ⟨_, rfl, (HX.out _ _ _).1, (HX.out _ _ _).2, HFr.out⟩
      rw [results_cell1 rfl]; go_simp
end Go.Proofs.Ythbhgblgacoklaa
