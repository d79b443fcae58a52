/- The net's drop: its walk. -/
import Derived.Test.YthbhgblgacoklaaHF
namespace Go.Proofs.Ythbhgblgacoklaa
open Go.RowKit

/-- A row without its i-th packet. -/
def cutP (l : List Pk) (i : Nat) : List Pk := l.take i ++ l.drop (i + 1)
/-- A world in which a row of a block is written anew, the rest of the block as it was. -/
def Zed (W Z : World) (rb : Nat) (t : TypeId) (cur : Array Value) (lo hi : Nat) : Prop := ∃ c2, Z.heap[rb]? = some (.cells c2 t (0, 0)) ∧ c2.size = cur.size ∧ (∀ j, (j < lo ∨ hi ≤ j) → c2[j]? = cur[j]?) ∧ W.grownBy Z (some rb)
theorem Zed.start {W : World} {rb : Nat} {t : TypeId} {cur : Array Value} (h : W.heap[rb]? = some (.cells cur t (0, 0))) (n lo hi : Nat) : Zed W (W.drewN n) rb t cur lo hi := ⟨cur, h, rfl, fun _ _ => rfl, ⟨rfl, rfl, rfl, Nat.le_refl _, fun _ _ _ => rfl⟩⟩
theorem Zed.set {W Z : World} {rb : Nat} {t : TypeId} {cur : Array Value} {lo hi : Nat} (h : Zed W Z rb t cur lo hi) (o : Nat) (h1 : lo ≤ o) (h2 : o < hi) (v : Value) : Zed W (Z.setCell ⟨rb, o, none⟩ v) rb t cur lo hi := by
  obtain ⟨c2, hb, hs, hj, hg⟩ := h
  obtain ⟨s1, s2⟩ := setCell_at Z o hb v
  have z : (Z.setCell ⟨rb, o, none⟩ v).heap.size = Z.heap.size := by rw [setCell_eq_setRow Z rb o c2 _ (0, 0) v hb]; simp
  refine ⟨_, s1, by simpa using hs, fun j hjj => ?_, ⟨hg.os, hg.tape, hg.output, by rw [z]; exact hg.size, fun k hk hn => ?_⟩⟩
  · rw [Array.getElem?_setIfInBounds_ne (by omega)]; exact hj j hjj
  · rw [s2 k (fun e => hn (by rw [e]))]; exact hg.block k hk hn
theorem take_same {c2 cur : Array Value} {n : Nat} (h : ∀ j, j < n → c2[j]? = cur[j]?) : c2.toList.take n = cur.toList.take n := by
  apply List.ext_getElem?
  intro j
  rw [List.getElem?_take, List.getElem?_take]
  split
  · rename_i hj; simpa using h j hj
  · rfl
theorem take_cells (l : List Pk) (i : Nat) : (pCells l).take (i * 7) = pCells (l.take i) := by
  rcases Nat.lt_or_ge i l.length with h | h
  · have e : pCells l = pCells (l.take i) ++ pCells (l.drop i) := by rw [← pCells_app, List.take_append_drop]
    have e2 : i * 7 = (pCells (l.take i)).length := by rw [pCells_len, List.length_take]; omega
    rw [e, e2]; exact List.take_left
  · rw [List.take_of_length_le (by rw [pCells_len]; omega), List.take_of_length_le h]
theorem drop_cells (l : List Pk) (i : Nat) : (pCells l).drop (i * 7) = pCells (l.drop i) := by
  rcases Nat.lt_or_ge i l.length with h | h
  · have e : pCells l = pCells (l.take i) ++ pCells (l.drop i) := by rw [← pCells_app, List.take_append_drop]
    have e2 : i * 7 = (pCells (l.take i)).length := by rw [pCells_len, List.length_take]; omega
    rw [e, e2]; exact List.drop_left
  · rw [List.drop_of_length_le (by rw [pCells_len]; omega), List.drop_of_length_le h]; rfl
/-- A row behind the zeroing of its i-th packet: its front is owned, its rest can be read. -/
theorem zed_front {W Z : World} {base rb cap : Nat} {cur : Array Value} {l : List Pk} {i : Nat} (hz : Zed W Z rb 31 cur (i * 7) (i * 7 + 7)) (hrb : base ≤ rb) (hi : i < l.length) (hlc : l.length ≤ cap) (hcm : cap ≤ maxLen) (hcs : cap * 7 ≤ cur.size) (htk : cur.toList.take (l.length * 7) = pCells l) :
    OwnW Z base (.slice (some ⟨rb, 0, none⟩) i i) (l.take i) ∧ (∀ j u, (pCells (l.drop (i + 1)))[j]? = some u → Z.cell? ((⟨rb, (i + 1) * 7, none⟩ : Addr).add j) = some u) := by
  obtain ⟨c2, hb, hs, hj, hg⟩ := hz
  have hlt : (l.take i).length = i := by rw [List.length_take]; omega
  refine ⟨.inr ⟨rb, i, c2, by rw [hlt], hrb, hb, by omega, by omega, by omega, ?_⟩, ?_⟩
  · rw [hlt, take_same (fun j h => hj j (.inl h)), ← take_cells, ← htk, List.take_take, Nat.min_eq_left (by omega)]
  · intro j u hu
    rw [← drop_cells, List.getElem?_drop] at hu
    have hadd : (⟨rb, (i + 1) * 7, none⟩ : Addr).add j = ⟨rb, (i + 1) * 7 + j, none⟩ := by unfold Addr.add; split <;> simp_all
    rw [hadd, cell_of_row Z rb _ c2 _ (0, 0) hb, hj _ (.inr (by omega))]
    rw [← htk, List.getElem?_take] at hu
    split at hu
    · simpa using hu
    · cases hu
theorem grown_trans {a b c : World} {r : Option Nat} (h : a.grownBy b r) (k : b.drew.grownBy c r) : a.grownBy c r :=
  ⟨k.os.trans h.os, k.tape.trans h.tape, k.output.trans h.output, Nat.le_trans h.size k.size, fun i hi hn => (k.block i (Nat.lt_of_lt_of_le hi h.size) hn).trans (h.block i hi hn)⟩
theorem cell_set_far (w : World) {g k o o' : Nat} (h : k ≠ g) (v : Value) : (w.setCell ⟨g, o, none⟩ v).cell? ⟨k, o', none⟩ = w.cell? ⟨k, o', none⟩ := World.cell?_of_block (a := ⟨k, o', none⟩) (by
  show (w.heap.modify g _)[k]? = w.heap[k]?
  rw [Array.getElem?_modify, if_neg (Ne.symm h)])
set_option maxRecDepth 100000 in
set_option maxHeartbeats 4000000 in
theorem drop_any {base : Nat} {w : World} {g : Nat} {V : Nat → Value} {R : Nat → List Pk} {A : Nat → Bool} (f t : Int) (i : Nat) (hv : NetV base w g V R A) (hc : cntN R 256 ≤ 1000) (hh : hopB f t = true) (hi : i < (R (rix f t)).length) :
    Calls Try.prog 39 #[nP g, hV f t, .int .i64 i] w fun e w' => NP base w g V (up R (rix f t) (cutP (R (rix f t)) i)) A (.tuple #[]) e w' := by
  obtain ⟨a, b, rfl, rfl, h1, h2, h3, h4, h5⟩ := hop_nat hh
  rw [rix_nat] at *
  clear hh
  have hB1 : Below w.heap.size w (w.alloc (.cells #[.int .i64 a, .int .i64 b] 33)) := al_b w _
  have HB : Hid (Below w.heap.size w (w.alloc (.cells #[.int .i64 a, .int .i64 b] 33))) := hB1
  have HV : Hid (NetV base (w.alloc (.cells #[.int .i64 a, .int .i64 b] 33)) g V R A) := hv.below hB1
  have hbd := hv.bound hc (c := a * 16 + b) (by omega)
  have hlo := hv.lo
  have hgl := (hv.cell 0 (by omega)).2.2.2.2
  have HW : Hid (∀ k, (V (a * 16 + b)).ownBlock = some k → base ≤ k ∧ k < w.heap.size) := (hv.own (a * 16 + b) (by omega)).lt
  have k1 : (w.alloc (.cells #[.int .i64 a, .int .i64 b] 33)).heap[w.heap.size]? = some (.cells #[.int .i64 a, .int .i64 b] 33) := by show (w.heap.push _)[w.heap.size]? = _; simp
  clear hv hB1
  obtain ⟨c1, -, fz, -, hg⟩ := HV.out.cell (a * 16 + b) (by omega)
  have hne := HV.out.ne (a * 16 + b) (by omega)
  have q1 : (0 : Int) ≤ (a : Int) := by omega
  have q2 : (a : Int) < 16 := by omega
  have q3 : (0 : Int) ≤ (b : Int) := by omega
  have q4 : (b : Int) < 16 := by omega
  rcases HV.out.own (a * 16 + b) (by omega) with ⟨-, h0⟩ | ⟨rb, cap, cur, hVv, hrb, hrow, hlc, hcm, hcs, htk⟩
  · rw [h0] at hi; simp at hi
  rw [hVv] at c1
  have z0 : (w.alloc (.cells #[.int .i64 a, .int .i64 b] 33)).cell? ⟨w.heap.size, 0, none⟩ = some (.int .i64 a) := by rw [Lib.cell_of_heap k1]; rfl
  have z1 : (w.alloc (.cells #[.int .i64 a, .int .i64 b] 33)).cell? ⟨w.heap.size, 1, none⟩ = some (.int .i64 b) := by rw [Lib.cell_of_heap k1]; rfl
  generalize hWW : w.alloc (.cells #[.int .i64 a, .int .i64 b] 33) = W at *
  generalize hR : R (a * 16 + b) = l at *
  have q5 : (0 : Int) ≤ (i : Int) := by omega
  have q6 : (i : Int) < (l.length : Int) := by omega
  have hcell : ∀ j, j < 7 → W.cell? ⟨rb, i * 7 + j, none⟩ = (enP l[i])[j]? := fun j hj => by
    have e := pCells_get l i hi j hj
    rw [cell_of_row W rb _ cur _ (0, 0) hrow]
    rw [← e, ← htk, List.getElem?_take, if_pos (by omega)]
    simp
  have y0 : W.cell? ⟨rb, i * 7, none⟩ = some (.int .i64 l[i].f) := hcell 0 (by omega)
  have y1 : W.cell? ⟨rb, i * 7 + 1, none⟩ = some (.int .i64 l[i].t) := hcell 1 (by omega)
  have y2 : W.cell? ⟨rb, i * 7 + 2, none⟩ = some (.int .i64 l[i].fl) := hcell 2 (by omega)
  have y3 : W.cell? ⟨rb, i * 7 + 3, none⟩ = some (.int .i64 l[i].tl) := hcell 3 (by omega)
  have y4 : W.cell? ⟨rb, i * 7 + 4, none⟩ = some (.int .i64 l[i].sq) := hcell 4 (by omega)
  have y5 : W.cell? ⟨rb, i * 7 + 5, none⟩ = some (.int .i64 l[i].ak) := hcell 5 (by omega)
  have y6 : W.cell? ⟨rb, i * 7 + 6, none⟩ = some (.string l[i].x) := hcell 6 (by omega)
  have fr : ∀ o, W.frozen? ⟨rb, o, none⟩ = false := fun o => by simp [World.frozen?, hrow]
  clear hcell
  go_enter Try.func39, Try.ntmps39
  go_wp2_with fail
  go_quiet (fail)
  go_wp2_with fail
  have HZ : Hid (Zed W (((((((((W.drewN nq).setCell ⟨rb, i * 7, none⟩ (.int .i64 0)).setCell ⟨rb, i * 7 + 1, none⟩ (.int .i64 0)).setCell ⟨rb, i * 7 + 2, none⟩ (.int .i64 0)).setCell ⟨rb, i * 7 + 3, none⟩ (.int .i64 0)).setCell ⟨rb, i * 7 + 4, none⟩ (.int .i64 0)).setCell ⟨rb, i * 7 + 5, none⟩ (.int .i64 0)).setCell ⟨rb, i * 7 + 6, none⟩ (.string ⟨#[]⟩))) rb 31 cur (i * 7) (i * 7 + 7)) :=
    (((((((Zed.start hrow nq _ _).set _ (by omega) (by omega) _).set _ (by omega) (by omega) _).set _ (by omega) (by omega) _).set _ (by omega) (by omega) _).set _ (by omega) (by omega) _).set _ (by omega) (by omega) _).set _ (by omega) (by omega) _
  generalize (((((((((W.drewN nq).setCell ⟨rb, i * 7, none⟩ (.int .i64 0)).setCell ⟨rb, i * 7 + 1, none⟩ (.int .i64 0)).setCell ⟨rb, i * 7 + 2, none⟩ (.int .i64 0)).setCell ⟨rb, i * 7 + 3, none⟩ (.int .i64 0)).setCell ⟨rb, i * 7 + 4, none⟩ (.int .i64 0)).setCell ⟨rb, i * 7 + 5, none⟩ (.int .i64 0)).setCell ⟨rb, i * 7 + 6, none⟩ (.string ⟨#[]⟩))) = Z at *
  obtain ⟨hOw, hNw⟩ := zed_front (base := base) HZ.out hrb hi hlc hcm hcs htk
  have HO : Hid (OwnW Z base (.slice (some ⟨rb, 0, none⟩) i i) (l.take i)) := hOw
  have HN : Hid (∀ j u, (pCells (l.drop (i + 1)))[j]? = some u → Z.cell? ((⟨rb, (i + 1) * 7, none⟩ : Addr).add j) = some u) := hNw
  obtain ⟨-, -, -, -, hgZ⟩ := HZ.out
  have hrw : rb < w.heap.size := (HW.out rb (by rw [hVv]; rfl)).2
  have n0 : some w.heap.size ≠ some rb := fun e => by cases e; omega
  have n2 : some g ≠ some rb := fun e => hne (by rw [hVv]; exact e.symm)
  have hWz : W.heap.size ≤ Z.heap.size := hgZ.size
  have hwW : w.heap.size < W.heap.size := (Array.getElem?_eq_some_iff.1 k1).1
  have kz : Z.heap[w.heap.size]? = some (.cells #[.int .i64 a, .int .i64 b] 33) := (hgZ.block _ hwW n0).trans k1
  have y0 : Z.cell? ⟨w.heap.size, 0, none⟩ = some (.int .i64 a) := by rw [Lib.cell_of_heap kz]; rfl
  have y1 : Z.cell? ⟨w.heap.size, 1, none⟩ = some (.int .i64 b) := by rw [Lib.cell_of_heap kz]; rfl
  have cz : Z.cell? ⟨g, a * 16 + b, none⟩ = some (.slice (some ⟨rb, 0, none⟩) l.length cap) := (hgZ.cell_far ⟨g, a * 16 + b, none⟩ hg n2).trans c1
  have fzz : Z.frozen? ⟨g, a * 16 + b, none⟩ = false := (hgZ.frozen_far ⟨g, a * 16 + b, none⟩ hg n2).trans fz
  have HG : Hid (W.grownBy Z (some rb)) := hgZ
  have s1 : (i : Int) ≤ (cap : Int) := by omega
  have s2 : IntKind.i64.wrap ((i : Int) + 1) = (i : Int) + 1 := by rw [IntKind.wrap_i64]; omega
  have s3 : (0 : Int) ≤ (i : Int) + 1 := by omega
  have s4 : (i : Int) + 1 ≤ (l.length : Int) := by omega
  have s5 : (l.length : Int) ≤ (cap : Int) := by omega
  have hbs : base ≤ Z.heap.size := by omega
  have HSt : Hid (∀ (w1 : World) (v : Value), w1.cell? ⟨w.heap.size, 0, none⟩ = some (.int .i64 a) → w1.cell? ⟨w.heap.size, 1, none⟩ = some (.int .i64 b) → (w1.setCell ⟨g, a * 16 + b, none⟩ v).cell? ⟨w.heap.size, 0, none⟩ = some (.int .i64 a) ∧ (w1.setCell ⟨g, a * 16 + b, none⟩ v).cell? ⟨w.heap.size, 1, none⟩ = some (.int .i64 b)) := fun w1 v e1 e2 => ⟨(cell_set_far w1 (by omega) v).trans e1, (cell_set_far w1 (by omega) v).trans e2⟩
  obtain ⟨ad, had, hNa⟩ : ∃ ad : Addr, (if cap = i + 1 then some (⟨rb, 0, none⟩ : Addr) else some ⟨rb, (i + 1) * 7, none⟩) = some ad ∧ ∀ j u, (pCells (l.drop (i + 1)))[j]? = some u → Z.cell? (ad.add j) = some u := by
    by_cases hq : cap = i + 1
    · refine ⟨⟨rb, 0, none⟩, by rw [if_pos hq], fun j u hu => ?_⟩
      rw [List.drop_of_length_le (by omega)] at hu
      cases hu
    · exact ⟨⟨rb, (i + 1) * 7, none⟩, by rw [if_neg hq], HN.out⟩
  have HNa : Hid (∀ j u, (pCells (l.drop (i + 1)))[j]? = some u → Z.cell? (ad.add j) = some u) := hNa
  clear hNa HN
  clear hOw hNw hgZ hrow z0 z1 c1 fz htk hWW kz
  go_region_held3 (fun w' => w'.cell? ⟨w.heap.size, 0, none⟩ = some (.int .i64 a) ∧ w'.cell? ⟨w.heap.size, 1, none⟩ = some (.int .i64 b))
    (first
      | go_keep
      | (go_split_ands
         refine ⟨?_, ?_⟩
         all_goals (rw [hgrow.cell_far _ (by simp; omega) n0]; assumption))
      | (go_split_ands; exact HSt.out _ _ (by assumption) (by assumption)))
    ((refine step_app_w _ (by rfl) _ _ (by rfl) base (.slice (some ⟨rb, 0, none⟩) i i) (l.take i) (by rfl) HO.out.drew ad (l.length - (i + 1)) (cap - (i + 1)) (l.drop (i + 1)) (by simp) (.inr (fun e => by cases e)) (by rfl) HNa.out (by simp; omega) hbs ?_; intro gg cap1 w1 hown1 hgrow hat; have fz1 := (hgrow.frozen_far ⟨g, a * 16 + b, none⟩ (by simp; omega) n2).trans fzz; have cc1 := (hgrow.cell_far ⟨g, a * 16 + b, none⟩ (by simp; omega) n2).trans cz))
  have HF : Hid (NetV base (w1.setCell ⟨g, a * 16 + b, none⟩ (.slice (some ⟨gg, 0, none⟩) (min i l.length + (l.length - (i + 1))) cap1)) g (up V (a * 16 + b) (.slice (some ⟨gg, 0, none⟩) (min i l.length + (l.length - (i + 1))) cap1)) (up R (a * 16 + b) (cutP l i)) A ∧ NStep w g V (up V (a * 16 + b) (.slice (some ⟨gg, 0, none⟩) (min i l.length + (l.length - (i + 1))) cap1)) (w1.setCell ⟨g, a * 16 + b, none⟩ (.slice (some ⟨gg, 0, none⟩) (min i l.length + (l.length - (i + 1))) cap1))) := by
    rw [List.length_take] at hown1
    have := net_put HV.out (c := a * 16 + b) (by omega) (by rw [hVv]; exact grown_trans HG.out hgrow) hown1 (by
      rw [hVv]
      rcases hat with h | h
      · exact .inl h.symm
      · exact .inr (.inr ⟨gg, rfl, by rw [h]; exact hWz⟩))
    exact ⟨this.1, (NStep.of g V HB.out).trans this.2⟩
  clear hown1 hgrow hat
  refine bodyPost_end (results_none rfl _ _ _) rfl ⟨rfl, _, HF.out.1, HF.out.2⟩
end Go.Proofs.Ythbhgblgacoklaa
