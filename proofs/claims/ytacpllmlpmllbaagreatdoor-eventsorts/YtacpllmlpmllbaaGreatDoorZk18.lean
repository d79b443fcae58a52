/- What is kept of an event's attributes: plain mathematics. -/
import Derived.Test.YtacpllmlpmllbaaGreatDoorZk17
import Derived.Test.YtacpllmlpmllbaaGreatDoorZk14
import Derived.Test.YtacpllmlpmllbaaGreatDoorZk13
import Derived.Test.YtacpllmlpmllbaaGreatDoorZk12
import Derived.Test.YtacpllmlpmllbaaGreatDoorZk7
import Derived.Test.YtacpllmlpmllbaaGreatDoorZk4
namespace Go.Proofs.YtacpllmlpmllbaaGreatDoor
open Go.RowKit

/-- The attributes of whose name there is a field. -/
def keepL (f : List Fd) (l : List At) : List At := l.filter fun a => (getF f a.n).isSome
theorem keep_len (f : List Fd) (l : List At) : (keepL f l).length ≤ l.length := List.length_filter_le _ _
theorem keep_mem {f : List Fd} {l : List At} {a : At} : a ∈ keepL f l ↔ a ∈ l ∧ (getF f a.n).isSome = true := List.mem_filter
theorem keep_snoc (f : List Fd) (l : List At) (k : Nat) (hk : k < l.length) : keepL f (l.take (k + 1)) = if (getF f l[k].n).isSome = true then keepL f (l.take k) ++ [l[k]] else keepL f (l.take k) := by
  rw [List.take_succ_eq_append_getElem hk]
  unfold keepL
  rw [List.filter_append]
  by_cases h : (getF f l[k].n).isSome = true
  · rw [if_pos h]; simp [h]
  · rw [if_neg h]; simp [h]
/-- Attributes that may be: few, each may be, by names that rise. -/
def ltA (x y : At) : Prop := cmpL x.n.data.toList y.n.data.toList < 0
theorem ltA_trans {x y z : At} (h1 : ltA x y) (h2 : ltA y z) : ltA x z := cmpL_tr h1 h2
theorem chkA_iff (l : List At) : chkA l = true ↔ l.length ≤ 24 ∧ (∀ x ∈ l, mayA x = true) ∧ l.Pairwise ltA := by
  unfold chkA
  rw [Bool.and_eq_true, decide_eq_true_eq, decide_eq_true_eq]
  constructor
  · rintro ⟨h1, h2⟩
    refine ⟨h1, fun x hx => ?_, List.pairwise_iff_getElem.2 ?_⟩
    · obtain ⟨k, hk, rfl⟩ := List.mem_iff_getElem.1 hx
      exact (h2 k hk).1
    · have key : ∀ (j i : Nat) (hi : i < j) (hj : j < l.length), ltA (l[i]'(by omega)) l[j] := by
        intro j
        induction j with
        | zero => intro i hi; omega
        | succ j ih =>
          intro i hi hj
          have hs : ltA (l[j]'(by omega)) l[j + 1] := (h2 (j + 1) hj).2 j rfl
          by_cases e : i = j
          · subst e; exact hs
          · exact ltA_trans (ih i (by omega) (by omega)) hs
      exact fun i j hi hj hij => key j i hij hj
  · rintro ⟨h1, h2, h3⟩
    refine ⟨h1, fun k hk => ⟨h2 _ (List.getElem_mem hk), fun j e => ?_⟩⟩
    subst e
    exact List.pairwise_iff_getElem.1 h3 j (j + 1) (by omega) hk (by omega)
theorem chkA_keep {f : List Fd} {l : List At} (h : chkA l = true) : chkA (keepL f l) = true := by
  obtain ⟨h1, h2, h3⟩ := (chkA_iff l).1 h
  refine (chkA_iff _).2 ⟨Nat.le_trans (keep_len f l) h1, fun x hx => h2 x (keep_mem.1 hx).1, ?_⟩
  exact List.Pairwise.sublist List.filter_sublist h3
theorem getA_some {l : List At} {s : ByteArray} : (getA l s).isSome = true ↔ ∃ a ∈ l, sameL a.n.data.toList s.data.toList = true := by
  unfold getA
  rw [List.find?_isSome]
/-- What fits a type, kept by one that it is of, fits that one. -/
theorem fits_keep {t o : List Fd} {x : List At} (ht : chkF t = true) (ho : chkF o = true) (hsub : ∀ f ∈ o, f ∈ t) (hf : fitsL t x = 0) : fitsL o (keepL o x) = 0 := by
  unfold fitsL at hf
  by_cases hc : chkF t = true ∧ chkA x = true
  rotate_left
  · rw [if_neg hc] at hf; exact absurd hf (by decide)
  rw [if_pos hc] at hf
  by_cases h1 : fit1 t x = 0
  rotate_left
  · rw [if_neg h1] at hf; exact absurd hf h1
  rw [if_pos h1] at hf
  have h1' := (fit1_iff t x).1 h1
  have h2' := (fit2_iff x t).1 hf
  unfold fitsL
  rw [if_pos ⟨ho, chkA_keep hc.2⟩]
  have g1 : fit1 o (keepL o x) = 0 := (fit1_iff o _).2 fun y hy => by
    obtain ⟨hy1, hy2⟩ := keep_mem.1 hy
    obtain ⟨f, hg⟩ := Option.isSome_iff_exists.1 hy2
    obtain ⟨f', hf', hk⟩ := h1' y hy1
    obtain ⟨m1, s1⟩ := getF_mem hg
    obtain ⟨m2, s2⟩ := getF_mem hf'
    have : f = f' := pair_ne (chk_sorted ht) (hsub f m1) m2 (by
      simp only [sameL, decide_eq_true_eq] at s1 s2 ⊢
      rw [s1, s2])
    subst this
    exact ⟨f, hg, hk⟩
  rw [if_pos g1]
  refine (fit2_iff _ o).2 fun f hfo hm => ?_
  obtain ⟨a, ha, hs⟩ := getA_some.1 (h2' f (hsub f hfo) hm)
  refine getA_some.2 ⟨a, keep_mem.2 ⟨ha, ?_⟩, hs⟩
  unfold getF
  rw [List.find?_isSome]
  refine ⟨f, hfo, ?_⟩
  rw [sameL_comm]
  exact hs
/-- A type that is found is of the name that was asked for, as of its own. -/
theorem of_found {l : List Ty} {t o : Ty} {s : ByteArray} (h : parN l s = some o) : ofB t o.n = ofB t s := by
  have hs : sameL o.n.data.toList s.data.toList = true := by
    have := List.find?_some h
    exact this
  simp only [sameL, decide_eq_true_eq] at hs
  unfold ofB
  congr 1
  funext u
  unfold sameL
  rw [hs]
theorem event_inherits {l : List Ty} (hi : isB l = true) {t o : Ty} {k s : ByteArray} {x : List At} (ht : parN l k = some t) (ho : parN l s = some o) (hof : ofB t s = true) (hf : fitsL t.all x = 0) : chkT o = true ∧ fitsL o.all (keepL o.all x) = 0 := by
  obtain ⟨-, hc, -, -⟩ := (isB_iff l).1 hi
  have mt := (parN_some ht).1
  have mo := (parN_some ho).1
  obtain ⟨i, -, -, hsub⟩ := of_chain hi mt mo (by rw [of_found ho]; exact hof)
  exact ⟨hc o mo, fits_keep (chkF_all (hc t mt)) (chkF_all (hc o mo)) hsub hf⟩
end Go.Proofs.YtacpllmlpmllbaaGreatDoor
/- forest.Fits: its walk. -/
namespace Go.Proofs.YtacpllmlpmllbaaGreatDoor
open Go.RowKit Go.ChangeMaps

abbrev evA (a b c : Int) (k : ByteArray) (u : Value) : Array Value := #[.int .i64 a, .int .i64 b, .int .i64 c, .string k, u]
/-- Whether an event fits a type. -/
def fitsT (t : Ty) (k : ByteArray) (l : List At) : Int := if chkT t = true then (if sameL k.data.toList t.n.data.toList = true then fitsL t.all l else 4) else 1
set_option maxRecDepth 100000 in
set_option maxHeartbeats 4000000 in
theorem fitsT_any (o : LT) (a b c : Int) (k : ByteArray) (u : Value) (l : List At) (w : World) (ho : IsTy w o.t o.vo o.va o.vc) (no : NmT o.t) (hk : k.size ≤ 1000000) (hq : IsRow w 4 u l.length (aCells l)) (hl : l.length ≤ 1000000) (hn : NmA l) (hW : W3 w) :
    Calls Tryz.prog 39 #[ltV o, .agg (evA a b c k u)] w fun e w' => e = .returned (.int .i64 (fitsT o.t k l)) ∧ Below w.heap.size w w' := by
  obtain ⟨au, cu, rfl⟩ := hq.form
  obtain ⟨W0, hW0⟩ : ∃ W0, W0 = (w.alloc (.cells (tyA o.t o.vo o.va o.vc) 67)).alloc (.cells (evA a b c k (.slice au l.length cu)) 26) := ⟨_, rfl⟩
  have hA : Below w.heap.size w W0 := by rw [hW0]; exact (al_b w _).trans ((al_b _ _).mono (by simp))
  have hz : W0.heap.size = w.heap.size + 2 := by rw [hW0]; simp
  have hn0 : W0.heap[w.heap.size]? = some (.cells (tyA o.t o.vo o.va o.vc) 67 (0, 0)) := by
    rw [hW0]
    show ((w.heap.push _).push _)[w.heap.size]? = _
    rw [Array.getElem?_push, if_neg (by simp), Array.getElem?_push, if_pos rfl]
  have hn1 : W0.heap[w.heap.size + 1]? = some (.cells (evA a b c k (.slice au l.length cu)) 26 (0, 0)) := by
    rw [hW0]
    show ((w.heap.push _).push _)[w.heap.size + 1]? = _
    rw [Array.getElem?_push, if_pos (by simp)]
  have HX : Hid (∀ W, Below W0.heap.size W0 W → BxT w.heap.size o.t o.vo o.va o.vc W) := fun W h => BxT.of ((h.block _ (by omega)).trans hn0)
  have HE : Hid (∀ W, Below W0.heap.size W0 W → W.cell? ⟨w.heap.size + 1, 3, none⟩ = some (.string k) ∧ W.cell? ⟨w.heap.size + 1, 4, none⟩ = some (.slice au l.length cu)) := fun W h => by
    have e : ∀ j, W.cell? ⟨w.heap.size + 1, j, none⟩ = (evA a b c k (.slice au l.length cu))[j]? := fun j => by rw [Lib.cell_of_heap ((h.block _ (by omega)).trans hn1)]
    exact ⟨e 3, e 4⟩
  have HSz : Hid (∀ W, Below W0.heap.size W0 W → w.heap.size + 1 < W.heap.size ∧ w.heap.size < W.heap.size) := fun W h => by have := h.size; omega
  have HBw : Hid (∀ W, Below W0.heap.size W0 W → Below w.heap.size w W) := fun W h => hA.trans (h.mono hA.size)
  have HCo : Hid (∀ W, Below W0.heap.size W0 W → Calls Tryz.prog 77 #[ltV o] W fun e w' => e = .returned (.bool (chkT o.t)) ∧ Below W.heap.size W w') := fun W h => checkT_any _ _ _ _ W (ho.below (HBw.out W h)) no (Utf8Tabs_below hW.t (HBw.out W h)) (ML_below hW.m (HBw.out W h))
  have HS : Hid (∀ W, Below W0.heap.size W0 W → Calls Tryz.prog 48 #[.string k, .string o.t.n] W fun e w' => e = .returned (.bool (sameL k.data.toList o.t.n.data.toList)) ∧ Below W.heap.size W w') := fun W h => same_any _ _ W hk no.n (Utf8Tabs_below hW.t (HBw.out W h))
  have HF : Hid (∀ W, Below W0.heap.size W0 W → Calls Tryz.prog 83 #[o.va, .slice au l.length cu] W fun e w' => e = .returned (.int .i64 (fitsL o.t.all l)) ∧ Below W.heap.size W w') := fun W h => fits_any _ _ o.t.all l W (ho.2.1.below (HBw.out W h)) (hq.below (HBw.out W h)) no.la hl no.a hn (Utf8Tabs_below hW.t (HBw.out W h)) (ML_below hW.m (HBw.out W h))
  have HD : Hid (fitsT o.t k l = if chkT o.t = true then (if sameL k.data.toList o.t.n.data.toList = true then fitsL o.t.all l else 4) else 1) := rfl
  generalize fitsT o.t k l = R at *
  generalize chkT o.t = C at *
  generalize sameL k.data.toList o.t.n.data.toList = S at *
  generalize fitsL o.t.all l = F at *
  clear hq hl hn hW hA hn0 hn1 hk ho no
  have HW0 : Hid (Below W0.heap.size W0 W0) := Below.refl _ _
  go_enter Tryz.func39, Tryz.ntmps39
  go_wp2_with fail
  rw [← hW0]
  clear hW0
  obtain ⟨⟨g0, g1, g2, g3⟩, g4, g5, g6, g7⟩ := HX.out W0 HW0.out
  obtain ⟨k0, k1⟩ := HE.out W0 HW0.out
  obtain ⟨s1, s0⟩ := HSz.out W0 HW0.out
  go_wp2_with fail
  refine (HCo.out _ HW0.out).mono ?_
  rintro e w1 ⟨rfl, hb⟩
  have Hw1 : Hid (Below W0.heap.size W0 w1) := hb
  clear hb g0 g1 g2 g3 g4 g5 g6 g7 k0 k1 s1 s0
  cases C
  · have hR : R = 1 := by rw [HD.out, if_neg (by decide)]
    subst hR
    have HB : Hid (Below w.heap.size w w1) := HBw.out _ Hw1.out
    clear HX HE HSz HBw HCo HS HF HD
    go_wp2
    go_ret
    exact ⟨rfl, HB.out⟩
  obtain ⟨⟨g0, g1, g2, g3⟩, g4, g5, g6, g7⟩ := HX.out w1 Hw1.out
  obtain ⟨k0, k1⟩ := HE.out w1 Hw1.out
  obtain ⟨s1, s0⟩ := HSz.out w1 Hw1.out
  go_wp2_with fail
  refine (HS.out _ Hw1.out).mono ?_
  rintro e w2 ⟨rfl, hb⟩
  have Hw2 : Hid (Below W0.heap.size W0 w2) := Hw1.out.trans (hb.mono Hw1.out.size)
  clear hb g0 g1 g2 g3 g4 g5 g6 g7 k0 k1 s1 s0
  cases S
  · have hR : R = 4 := by rw [HD.out]; simp
    subst hR
    have HB : Hid (Below w.heap.size w w2) := HBw.out _ Hw2.out
    clear HX HE HSz HBw HCo HS HF HD
    go_wp2
    go_ret
    exact ⟨rfl, HB.out⟩
  have hR : R = F := by rw [HD.out]; simp
  subst hR
  obtain ⟨⟨g0, g1, g2, g3⟩, g4, g5, g6, g7⟩ := HX.out w2 Hw2.out
  obtain ⟨k0, k1⟩ := HE.out w2 Hw2.out
  obtain ⟨s1, s0⟩ := HSz.out w2 Hw2.out
  go_wp2_with fail
  refine (HF.out _ Hw2.out).mono ?_
  rintro e w3 ⟨rfl, hb⟩
  have HB : Hid (Below w.heap.size w w3) := HBw.out _ (Hw2.out.trans (hb.mono Hw2.out.size))
  clear hb g0 g1 g2 g3 g4 g5 g6 g7 k0 k1 s1 s0
  go_wp2
  go_ret
  exact ⟨rfl, HB.out⟩
end Go.Proofs.YtacpllmlpmllbaaGreatDoor
/- event.Keep, law06's Few: walks. -/
namespace Go.Proofs.YtacpllmlpmllbaaGreatDoor
open Go.RowKit Go.ChangeMaps

/-- An event's block. -/
def BxV (g : Nat) (a b c : Int) (k : ByteArray) (u : Value) (w : World) : Prop := (w.cell? ⟨g, 0, none⟩ = some (.int .i64 a) ∧ w.cell? ⟨g, 1, none⟩ = some (.int .i64 b) ∧ w.cell? ⟨g, 2, none⟩ = some (.int .i64 c)) ∧ w.cell? ⟨g, 3, none⟩ = some (.string k) ∧ w.cell? ⟨g, 4, none⟩ = some u
theorem BxV.of {g : Nat} {a b c : Int} {k : ByteArray} {u : Value} {w : World} {ty : TypeId} {z : Nat × Nat} (h : w.heap[g]? = some (.cells (evA a b c k u) ty z)) : BxV g a b c k u w := by
  have e : ∀ j, w.cell? ⟨g, j, none⟩ = (evA a b c k u)[j]? := fun j => by rw [Lib.cell_of_heap h]
  exact ⟨⟨e 0, e 1, e 2⟩, e 3, e 4⟩
theorem info_av : (Tryz.prog.info? 78).map (fun i => (i.zero, i.size, i.bytes)) = some (some (.agg #[.string ⟨#[]⟩, .int .i64 0, .int .i64 0, .string ⟨#[]⟩]), 4, 48) := by kernel_rfl
/-- Is an event not more than statements go through? -/
def fewE (k : ByteArray) (l : List At) : Bool := decide (k.size ≤ 200) && fewA l
set_option maxRecDepth 100000 in
theorem fewE_any (a b c : Int) (k : ByteArray) (u : Value) (l : List At) (w : World) (hq : IsRow w 4 u l.length (aCells l)) (hl : l.length ≤ 140737488355328) :
    Calls Tryz.prog 8 #[.agg (evA a b c k u)] w fun e w' => e = .returned (.bool (fewE k l)) ∧ Below w.heap.size w w' := by
  obtain ⟨W0, hW0⟩ : ∃ W0, W0 = w.alloc (.cells (evA a b c k u) 26) := ⟨_, rfl⟩
  have hA : Below w.heap.size w W0 := by rw [hW0]; exact al_b w _
  have hn0 : W0.heap[w.heap.size]? = some (.cells (evA a b c k u) 26 (0, 0)) := by rw [hW0]; exact new_at w _
  have HF : Hid (Calls Tryz.prog 23 #[u] W0 fun e w' => e = .returned (.bool (fewA l)) ∧ w' = W0) := fewA_any u l W0 (hq.below hA) hl
  obtain ⟨⟨q0, q1, q2⟩, q3, q4⟩ := BxV.of hn0
  have HB : Hid (Below w.heap.size w W0) := hA
  have HD : Hid (fewE k l = (decide (k.size ≤ 200) && fewA l)) := rfl
  generalize fewE k l = R at *
  generalize fewA l = F at *
  clear hq hl hA hn0
  by_cases h0 : k.size ≤ 200
  · have d0 : decide ((k.size : Int) ≤ 200) = true := by simp; omega
    have d0' : decide (k.size ≤ 200) = true := decide_eq_true h0
    have hR : R = F := by rw [HD.out, d0', Bool.true_and]
    subst hR
    clear HD h0
    go_enter Tryz.func8, Tryz.ntmps8
    go_wp2_with fail
    rw [← hW0]
    clear hW0
    refine HF.out.mono ?_
    rintro e w1 ⟨rfl, rfl⟩
    go_wp2
    go_ret
    exact ⟨rfl, HB.out⟩
  · have d0 : decide ((k.size : Int) ≤ 200) = false := by simp; omega
    have d0' : decide (k.size ≤ 200) = false := decide_eq_false h0
    have hR : R = false := by rw [HD.out, d0', Bool.false_and]
    subst hR
    clear HD h0 HF
    go_enter Tryz.func8, Tryz.ntmps8
    go_wp2_with fail
    rw [← hW0]
    clear hW0
    go_wp2
    go_ret
    exact ⟨rfl, HB.out⟩
theorem aCells_snoc (l : List At) (x : At) : aCells (l ++ [x]) = aCells l ++ enA x := by simp [aCells]
/-- What is kept, handed back. -/
def KpP (a b c : Int) (k : ByteArray) (K : List At) (w : World) (e : Ending) (w' : World) : Prop := ∃ x y, e = .returned (.agg (evA a b c k (.slice x K.length y))) ∧ IsRow w' 4 (.slice x K.length y) K.length (aCells K) ∧ NewA w.heap.size x ∧ Below w.heap.size w w'
set_option maxRecDepth 100000 in
set_option maxHeartbeats 4000000 in
theorem keep_any (a b c : Int) (k : ByteArray) (u v : Value) (l : List At) (f : List Fd) (w : World) (hq : IsRow w 4 u l.length (aCells l)) (hr : IsRow w 3 v f.length (fCells f)) (hl : l.length ≤ 1000) (hfl : f.length ≤ 1000) (hn : NmA l) (hnf : NmF f) (hT : UT w) :
    Calls Tryz.prog 29 #[.agg (evA a b c k u), v] w fun e w' => KpP a b c k (keepL f l) w e w' := by
  obtain ⟨au, cu, rfl⟩ := hq.form
  obtain ⟨i0, hi0, hz0, hz1, hz2⟩ := info_parts info_av
  obtain ⟨W0, hW0⟩ : ∃ W0, W0 = (w.alloc (.cells (evA a b c k (.slice au l.length cu)) 26)).alloc (.cells (evA 0 0 0 ⟨#[]⟩ (.slice none 0 0)) 26) := ⟨_, rfl⟩
  have hA : Below w.heap.size w W0 := by rw [hW0]; exact (al_b w _).trans ((al_b _ _).mono (by simp))
  have hz : W0.heap.size = w.heap.size + 2 := by rw [hW0]; simp
  have hn0 : W0.heap[w.heap.size]? = some (.cells (evA a b c k (.slice au l.length cu)) 26 (0, 0)) := by
    rw [hW0]
    show ((w.heap.push _).push _)[w.heap.size]? = _
    rw [Array.getElem?_push, if_neg (by simp), Array.getElem?_push, if_pos rfl]
  have hn1 : W0.heap[w.heap.size + 1]? = some (.cells (evA 0 0 0 ⟨#[]⟩ (.slice none 0 0)) 26 (0, 0)) := by
    rw [hW0]
    show ((w.heap.push _).push _)[w.heap.size + 1]? = _
    rw [Array.getElem?_push, if_pos (by simp)]
  have HX : Hid (∀ W, Below W0.heap.size W0 W → BxV w.heap.size a b c k (.slice au l.length cu) W ∧ BxV (w.heap.size + 1) 0 0 0 ⟨#[]⟩ (.slice none 0 0) W ∧ (∀ j, W.frozen? ⟨w.heap.size, j, none⟩ = false) ∧ ∀ j, W.frozen? ⟨w.heap.size + 1, j, none⟩ = false) := fun W h => ⟨BxV.of ((h.block _ (by omega)).trans hn0), BxV.of ((h.block _ (by omega)).trans hn1), fun j => Lib.frozen_of_heap ((h.block _ (by omega)).trans hn0) j, fun j => Lib.frozen_of_heap ((h.block _ (by omega)).trans hn1) j⟩
  have HBw : Hid (∀ W, Below W0.heap.size W0 W → Below w.heap.size w W) := fun W h => hA.trans (h.mono hA.size)
  have HQ : Hid (∀ W, Below W0.heap.size W0 W → IsRow W 4 (.slice au l.length cu) l.length (aCells l)) := fun W h => hq.below (HBw.out W h)
  have HF : Hid (∀ (j : Nat) (hj : j < l.length) W, Below W0.heap.size W0 W → Calls Tryz.prog 69 #[v, .string l[j].n] W fun e w' => e = .returned (.tuple #[fV ((getF f l[j].n).getD zF), .bool (getF f l[j].n).isSome]) ∧ Below W.heap.size W w') := fun j hj W h => find_any _ f _ W (hr.below (HBw.out W h)) (by omega) hnf (hn _ (List.getElem_mem hj)).1 (Utf8Tabs_below hT (HBw.out W h))
  have HKs : Hid (∀ (j : Nat) (hj : j < l.length), keepL f (l.take (j + 1)) = if (getF f l[j].n).isSome = true then keepL f (l.take j) ++ [l[j]] else keepL f (l.take j)) := fun j hj => keep_snoc f l j hj
  have HKl : Hid (∀ j, (keepL f (l.take j)).length ≤ 1000) := fun j => by
    have h1 := keep_len f (l.take j)
    have h2 : (l.take j).length ≤ l.length := by simp; omega
    show _ ≤ _
    omega
  have HKe : Hid (keepL f (l.take l.length) = keepL f l) := by show _ = _; rw [List.take_length]
  have HAl : Hid (∀ W o, Below W0.heap.size W0 W → Below W0.heap.size W0 (W.alloc o)) := fun W o h => h.trans ((al_b _ o).mono h.size)
  have HW0 : Hid (Below W0.heap.size W0 W0) := Below.refl _ _
  have Hz : Hid (W0.heap.size = w.heap.size + 2) := hz
  clear hq hr hA hn0 hn1 hn hnf hT hz hfl
  go_enter Tryz.func29, Tryz.ntmps29
  go_wp2_with fail
  rw [← hW0]
  clear hW0
  obtain ⟨⟨⟨q0, q1, q2⟩, q3, q4⟩, -, -, -⟩ := HX.out _ HW0.out
  go_wp2_with fail
  clear q0 q1 q2 q3 q4
  go_loopw [5, 7, 8, 9, 13] (fun o _ _ _ i wr => ∃ j : Nat, j ≤ l.length ∧ i = .int .i64 (j : Int) ∧ Hid (wr.ownsRow W0.heap.size 78 4 o (keepL f (l.take j)).length (aCells (keepL f (l.take j)))) ∧ Hid (Below W0.heap.size W0 wr)) (fun _ _ _ _ i _ => l.length - (intOf i).toNat)
  case atStart => exact ⟨0, Nat.zero_le _, rfl, World.ownsRow_nil _ _ _ _, HW0⟩
  case round =>
    obtain ⟨j, hj, rfl, HO, HB⟩ := hrel
    have hsz := HB.out.size
    have hkl := HKl.out j
    by_cases hlk : j < l.length
    · have dk : decide ((j : Int) < (l.length : Int)) = true := by simp; omega
      obtain ⟨bb, off, rfl, hlt, hcap, hc⟩ := a_at (HQ.out wr HB.out) (by omega)
      obtain ⟨y0, y1, y2, y3⟩ := hc j hlk
      obtain ⟨W1, hW1⟩ : ∃ W1, W1 = wr.alloc (.cells #[.string l[j].n, .int .i64 l[j].k, .int .i64 l[j].v, .string l[j].s] 78) := ⟨_, rfl⟩
      have hb1 : Below wr.heap.size wr W1 := by rw [hW1]; exact al_b _ _
      have hn2 : W1.heap[wr.heap.size]? = some (.cells #[.string l[j].n, .int .i64 l[j].k, .int .i64 l[j].v, .string l[j].s] 78 (0, 0)) := by rw [hW1]; exact new_at _ _
      have H1 : Hid (Below W0.heap.size W0 W1) := HB.out.trans (hb1.mono hsz)
      have HFj : Hid (Calls Tryz.prog 69 #[v, .string l[j].n] W1 fun e w' => e = .returned (.tuple #[fV ((getF f l[j].n).getD zF), .bool (getF f l[j].n).isSome]) ∧ Below W1.heap.size W1 w') := HF.out j hlk W1 H1.out
      have HCe : Hid (∀ W, Below W1.heap.size W1 W → W.cell? ⟨wr.heap.size, 0, none⟩ = some (.string l[j].n) ∧ W.cell? ⟨wr.heap.size, 1, none⟩ = some (.int .i64 l[j].k) ∧ W.cell? ⟨wr.heap.size, 2, none⟩ = some (.int .i64 l[j].v) ∧ W.cell? ⟨wr.heap.size, 3, none⟩ = some (.string l[j].s)) := fun W h => by
        have e : ∀ i, W.cell? ⟨wr.heap.size, i, none⟩ = (#[.string l[j].n, .int .i64 l[j].k, .int .i64 l[j].v, .string l[j].s] : Array Value)[i]? := fun i => by rw [Lib.cell_of_heap ((h.block _ (Array.getElem?_eq_some_iff.1 hn2).1).trans hn2)]
        exact ⟨e 0, e 1, e 2, e 3⟩
      have HKj := HKs.out j hlk
      have HKj' : Hid (keepL f (l.take (j + 1)) = if (getF f l[j].n).isSome = true then keepL f (l.take j) ++ [l[j]] else keepL f (l.take j)) := HKj
      have HO1 : Hid (∀ W, Below wr.heap.size wr W → W.ownsRow W0.heap.size 78 4 u5 (keepL f (l.take j)).length (aCells (keepL f (l.take j)))) := fun W h => own_belowE HO.out h
      have HB1 : Hid (Below wr.heap.size wr W1) := hb1
      generalize l[j]'hlk = x at *
      obtain ⟨xn, xk, xv, xs⟩ := x
      dsimp only at *
      generalize (getF f xn).getD zF = z at *
      obtain ⟨zn, zk, zm⟩ := z
      clear hc HF HKs HKj HQ HO hb1 hn2 HX HBw HKl HKe
      go_wp2_with fail
      rw [← hW1]
      clear hW1
      obtain ⟨c0, c1, c2, c3⟩ := HCe.out W1 (Below.refl _ _)
      go_wp2_with fail
      refine HFj.out.mono ?_
      rintro e w2 ⟨rfl, hb2⟩
      have H2 : Hid (Below W0.heap.size W0 w2) := H1.out.trans (hb2.mono H1.out.size)
      have HB2 : Hid (Below wr.heap.size wr w2) := HB1.out.trans (hb2.mono HB1.out.size)
      obtain ⟨W3, hW3⟩ : ∃ W3, W3 = w2.alloc (.cells #[.string zn, .int .i64 zk, .bool zm] 110) := ⟨_, rfl⟩
      have H3 : Hid (Below W0.heap.size W0 W3) := by show Below _ _ _; rw [hW3]; exact HAl.out _ _ H2.out
      have HB3 : Hid (Below wr.heap.size wr W3) := by show Below _ _ _; rw [hW3]; exact HB2.out.trans ((al_b _ _).mono HB2.out.size)
      have hb13 : Below W1.heap.size W1 W3 := by rw [hW3]; exact hb2.trans ((al_b _ _).mono hb2.size)
      have HO3 : Hid (W3.ownsRow W0.heap.size 78 4 u5 (keepL f (l.take j)).length (aCells (keepL f (l.take j)))) := HO1.out _ HB3.out
      obtain ⟨e0, e1, e2, e3⟩ := HCe.out W3 hb13
      have hs3 := H3.out.size
      clear hb2 hb13 HFj HCe HO1 HB1 HB2 HB3 c0 c1 c2 c3 y0 y1 y2 y3
      cases hg : (getF f xn).isSome
      · have HK : Hid (keepL f (l.take (j + 1)) = keepL f (l.take j)) := by show _ = _; rw [HKj'.out, hg]; rfl
        have HO4 : Hid (W3.ownsRow W0.heap.size 78 4 u5 (keepL f (l.take (j + 1))).length (aCells (keepL f (l.take (j + 1))))) := by show World.ownsRow _ _ _ _ _ _ _; rw [HK.out]; exact HO3.out
        clear HK HKj' hg HO3
        go_wp2_with fail
        rw [← hW3]
        clear hW3
        go_wp2
        go_roundw
        case rel => exact ⟨j + 1, by omega, by simp, HO4, H3⟩
        case measure => simp [intOf]; omega
      · have HK : Hid (keepL f (l.take (j + 1)) = keepL f (l.take j) ++ [⟨xn, xk, xv, xs⟩]) := by show _ = _; rw [HKj'.out, hg]; rfl
        clear HKj' hg
        subst hW3
        have hs3' : (w2.alloc (.cells #[.string zn, .int .i64 zk, .bool zm] 110)).heap.size = w2.heap.size + 1 := by simp
        go_wp2_with (at_builtin; go_loud (refine wpl_appE (w2.alloc (.cells #[.string zn, .int .i64 zk, .bool zm] 110)) rfl (.tmp 25) (.tmp 27) 24 78 rfl i0 _ 4 48 Tryz.underlying24 hi0 hz0 hz1 hz2 rfl (by decide) W0.heap.size u5 (keepL f (l.take j)).length _ rfl HO3.out [.string xn, .int .i64 xk, .int .i64 xv, .string xs] rfl _ rfl (by rw [hs3']; rfl) (by intro u hu; simp at hu; rcases hu with rfl | rfl | rfl | rfl <;> rfl) (by omega) (by unfold maxLen; omega) (by omega) ?_); intro v4 w4 hown4 hb4)
        have HO4 : Hid (w4.ownsRow W0.heap.size 78 4 v4 (keepL f (l.take (j + 1))).length (aCells (keepL f (l.take (j + 1))))) := by
          show World.ownsRow _ _ _ _ _ _ _
          rw [HK.out, aCells_snoc, List.length_append]
          exact hown4
        have H4 : Hid (Below W0.heap.size W0 w4) := H3.out.trans hb4
        clear hown4 hb4 HK HO3
        go_wp2
        go_roundw
        case rel => exact ⟨j + 1, by omega, by simp, HO4, H4⟩
        case measure => simp [intOf]; omega
    · have hj' : j = l.length := by omega
      have dk : decide ((j : Int) < (l.length : Int)) = false := by simp; omega
      subst hj'
      have hown := HO.out
      rw [HKe.out] at hown
      obtain ⟨xo, yo, rfl⟩ := (IsRow.own hown).form
      have HR : Hid (IsRow wr 4 (.slice xo (keepL f l).length yo) (keepL f l).length (aCells (keepL f l)) ∧ NewA W0.heap.size xo) := ⟨IsRow.own hown, NewA.own hown⟩
      obtain ⟨⟨⟨q0, q1, q2⟩, q3, q4⟩, ⟨⟨p0, p1, p2⟩, p3, p4⟩, fz0, fz1⟩ := HX.out wr HB.out
      have HBr : Hid (Below w.heap.size w wr) := HBw.out wr HB.out
      have HEnd : Hid (∀ u0 u1 u2 u3 u4 u5, KpP a b c k (keepL f l) w (.returned (.agg (evA a b c k (.slice xo (keepL f l).length yo)))) ((((((wr.setCell ⟨w.heap.size, 4, none⟩ u0).setCell ⟨w.heap.size + 1, 0, none⟩ u1).setCell ⟨w.heap.size + 1, 1, none⟩ u2).setCell ⟨w.heap.size + 1, 2, none⟩ u3).setCell ⟨w.heap.size + 1, 3, none⟩ u4).setCell ⟨w.heap.size + 1, 4, none⟩ u5)) := fun u0 u1 u2 u3 u4 u5 => by
        have hN := HR.out.2
        have hg0 : w.heap.size < W0.heap.size := by have := Hz.out; omega
        have hg1 : w.heap.size + 1 < W0.heap.size := by have := Hz.out; omega
        refine ⟨xo, yo, rfl, row_far (row_far (row_far (row_far (row_far (row_far HR.out.1 hN hg0 4 _) hN hg1 0 _) hN hg1 1 _) hN hg1 2 _) hN hg1 3 _) hN hg1 4 _, hN.le (by omega), ?_⟩
        exact (((((HBr.out.setCell (p := ⟨w.heap.size, 4, none⟩) (Nat.le_refl _) u0).setCell (p := ⟨w.heap.size + 1, 0, none⟩) (Nat.le_add_right _ 1) u1).setCell (p := ⟨w.heap.size + 1, 1, none⟩) (Nat.le_add_right _ 1) u2).setCell (p := ⟨w.heap.size + 1, 2, none⟩) (Nat.le_add_right _ 1) u3).setCell (p := ⟨w.heap.size + 1, 3, none⟩) (Nat.le_add_right _ 1) u4).setCell (p := ⟨w.heap.size + 1, 4, none⟩) (Nat.le_add_right _ 1) u5
      clear HF HKs HQ HO HX HBw HKl HKe hown HR HB HAl HW0
      go_wp2_with fail
      try simp only [Exit.inBlock, Exit.then]
      refine bodyPost_ret (v := .agg (evA a b c k (.slice xo (keepL f l).length yo))) ?_ rfl (HEnd.out _ _ _ _ _ _)
      rw [results_c1 rfl]; go_simp
end Go.Proofs.YtacpllmlpmllbaaGreatDoor
/- event.Check at any event: its walk. -/
namespace Go.Proofs.YtacpllmlpmllbaaGreatDoor
open Go.RowKit Go.ChangeMaps

/-- event.Check plainly. -/
def chkE (a b c : Int) (k : ByteArray) (l : List At) : Bool := idB a b c && decide (checkL k.data.toList = 0) && chkA l
set_option maxRecDepth 100000 in
set_option maxHeartbeats 2000000 in
theorem evCheck_any (a b c : Int) (k : ByteArray) (u : Value) (l : List At) (w : World) (hr : IsRow w 4 u l.length (aCells l)) (hl : l.length ≤ 1000000) (hn : NmA l) (hk : k.size ≤ 1000000) (hT : UT w) (hM : ML w) :
    Calls Tryz.prog 11 #[.agg (evA a b c k u)] w fun e w' => e = .returned (.bool (chkE a b c k l)) ∧ Below w.heap.size w w' := by
  obtain ⟨au, cu, rfl⟩ := hr.form
  obtain ⟨W0, hW0⟩ : ∃ W0, W0 = w.alloc (.cells (evA a b c k (.slice au l.length cu)) 26) := ⟨_, rfl⟩
  have hB : Below w.heap.size w W0 := by rw [hW0]; exact al_b w _
  have hz : w.heap.size < W0.heap.size := by rw [hW0]; simp
  have hn0 : W0.heap[w.heap.size]? = some (.cells (evA a b c k (.slice au l.length cu)) 26 (0, 0)) := by
    rw [hW0]
    show (w.heap.push _)[w.heap.size]? = _
    rw [Array.getElem?_push, if_pos rfl]
  have HX : Hid (∀ W, Below W0.heap.size W0 W → BxV w.heap.size a b c k (.slice au l.length cu) W) := fun W h => BxV.of ((h.block _ hz).trans hn0)
  have HBw : Hid (∀ W, Below W0.heap.size W0 W → Below w.heap.size w W) := fun W h => hB.trans (h.mono hB.size)
  have HI : Hid (∀ W, Calls Tryz.prog 41 #[.agg #[.int .i64 a, .int .i64 b, .int .i64 c]] W fun e w' => e = .returned (.bool (idB a b c)) ∧ Below W.heap.size W w') := fun W => isID_any a b c W
  have HN : Hid (∀ W, Calls Tryz.prog 42 #[.string k] W fun e w' => e = .returned (.int .i64 (checkL k.data.toList)) ∧ Below W.heap.size W w') := fun W => check_any k W (by omega)
  have HA : Hid (∀ W, Below w.heap.size w W → Calls Tryz.prog 43 #[.slice au l.length cu] W fun e w' => e = .returned (.bool (chkA l)) ∧ Below W.heap.size W w') := fun W h => attrs_any _ l W (hr.below h) hl hn (Utf8Tabs_below hT h) (ML_below hM h)
  clear hB hz hn0 hr hl hn hk hT hM
  obtain ⟨⟨p0, p1, p2⟩, p3, p4⟩ := HX.out W0 (Below.refl _ _)
  rw [hW0] at p0 p1 p2 p3 p4
  go_enter Tryz.func11, Tryz.ntmps11
  go_wp2_with fail
  rw [← hW0]
  clear hW0 p0 p1 p2 p3 p4
  refine (HI.out _).mono ?_
  rintro e w1 ⟨rfl, hb⟩
  have Hw1 : Hid (Below W0.heap.size W0 w1) := hb
  clear hb
  cases hi : idB a b c
  · have HBz := HBw.out _ Hw1.out
    have HBz' : Hid (Below w.heap.size w w1) := HBz
    have he : chkE a b c k l = false := by simp [chkE, hi]
    clear HBz
    go_wp2
    go_ret
    exact ⟨by simp [he], HBz'.out⟩
  obtain ⟨-, p3, p4⟩ := HX.out w1 Hw1.out
  go_wp2_with fail
  refine (HN.out _).mono ?_
  rintro e w2 ⟨rfl, hb⟩
  have Hw2 : Hid (Below W0.heap.size W0 w2) := Hw1.out.trans (hb.mono Hw1.out.size)
  clear hb p3 p4
  by_cases hc : checkL k.data.toList = 0
  · have he : chkE a b c k l = chkA l := by simp [chkE, hi, hc]
    obtain ⟨-, p3, p4⟩ := HX.out w2 Hw2.out
    go_wp2_with fail
    refine (HA.out _ (HBw.out _ Hw2.out)).mono ?_
    rintro e w3 ⟨rfl, hb⟩
    have HBz : Hid (Below w.heap.size w w3) := HBw.out _ (Hw2.out.trans (hb.mono Hw2.out.size))
    clear hb p3 p4
    go_wp2
    go_ret
    exact ⟨by simp [he], HBz.out⟩
  · have HBz : Hid (Below w.heap.size w w2) := HBw.out _ Hw2.out
    have he : chkE a b c k l = false := by simp [chkE, hc]
    go_wp2
    go_ret
    exact ⟨by simp [he], HBz.out⟩
end Go.Proofs.YtacpllmlpmllbaaGreatDoor
