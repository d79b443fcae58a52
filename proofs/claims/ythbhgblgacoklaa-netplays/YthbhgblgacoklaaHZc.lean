/- The reference's Lose of what is not there; the net's Clear; the law's do on an empty reference: walks. -/
import Derived.Test.YthbhgblgacoklaaHZb
import Derived.Test.YthbhgblgacoklaaHX
import Derived.Test.YthbhgblgacoklaaHV
import Derived.Test.YthbhgblgacoklaaHPt
namespace Go.Proofs.Ythbhgblgacoklaa
open Go.RowKit

abbrev nlB : Obj := .cells #[.slice none 0 0, .slice none 0 0] 28
abbrev acB (x : Ac) : Obj := .cells (acA x) 35
abbrev nlV : Value := .agg #[.slice none 0 0, .slice none 0 0]
theorem ac_at {w : World} {b : Nat} {x : Ac} (h : w.heap[b]? = some (acB x)) : w.cell? ⟨b, 0, none⟩ = some (.int .i64 x.k) ∧ w.cell? ⟨b, 1, none⟩ = some (.int .i64 x.p.f) ∧ w.cell? ⟨b, 2, none⟩ = some (.int .i64 x.p.t) ∧ w.cell? ⟨b, 3, none⟩ = some (.int .i64 x.p.fl) ∧ w.cell? ⟨b, 4, none⟩ = some (.int .i64 x.p.tl) ∧ w.cell? ⟨b, 5, none⟩ = some (.int .i64 x.p.sq) ∧ w.cell? ⟨b, 6, none⟩ = some (.int .i64 x.p.ak) ∧ w.cell? ⟨b, 7, none⟩ = some (.string x.p.x) ∧ w.cell? ⟨b, 8, none⟩ = some (.int .i64 x.f) ∧ w.cell? ⟨b, 9, none⟩ = some (.int .i64 x.t) ∧ w.cell? ⟨b, 10, none⟩ = some (.int .i64 x.i) ∧ w.cell? ⟨b, 11, none⟩ = some (.bool x.on) ∧ ∀ o, w.frozen? ⟨b, o, none⟩ = false := by
  refine ⟨?_, ?_, ?_, ?_, ?_, ?_, ?_, ?_, ?_, ?_, ?_, ?_, fun o => by simp [World.frozen?, h]⟩ <;> (rw [Lib.cell_of_heap h]; rfl)
theorem th_nil (f t i : Int) : thI [] f t i = 1 ∨ thI [] f t i = 4 := by
  unfold thI
  split
  · right
    have e : plc [] f t ([] : List Pk).length = [] := rfl
    rw [e, if_pos (by simp; omega)]
  · exact .inl rfl
set_option maxRecDepth 100000 in
set_option maxHeartbeats 2000000 in
theorem refLose_nil (f t i : Int) (w : World) : Calls Try.prog 29 #[nlV, hV f t, .int .i64 i] w fun e w' => e = .returned (.tuple #[nlV, .int .i64 (thI [] f t i)]) ∧ Below w.heap.size w w' := by
  have b1 : Below w.heap.size w ((w.alloc nlB).alloc (.cells #[.int .i64 f, .int .i64 t] 40)) := (al_b w _).trans ((al_b _ _).mono (al_b w _).size)
  have b2 : Below w.heap.size w (((w.alloc nlB).alloc (.cells #[.int .i64 f, .int .i64 t] 40)).alloc nlB) := b1.trans ((al_b _ _).mono b1.size)
  have HB : Hid (Below w.heap.size w (((w.alloc nlB).alloc (.cells #[.int .i64 f, .int .i64 t] 40)).alloc nlB)) := b2
  have k0 : (((w.alloc nlB).alloc (.cells #[.int .i64 f, .int .i64 t] 40)).alloc nlB).heap[w.heap.size]? = some nlB := by
    show (((w.heap.push _).push _).push _)[w.heap.size]? = _
    rw [Array.getElem?_push, if_neg (by simp; omega), Array.getElem?_push, if_neg (by simp), Array.getElem?_push, if_pos rfl]
  have k2 : (((w.alloc nlB).alloc (.cells #[.int .i64 f, .int .i64 t] 40)).alloc nlB).heap[w.heap.size + 1 + 1]? = some nlB := by
    show (((w.heap.push _).push _).push _)[w.heap.size + 1 + 1]? = _
    rw [Array.getElem?_push, if_pos (by simp)]
  have HT : Hid (Calls Try.prog 42 #[nlV, hV f t, .int .i64 i] (((w.alloc nlB).alloc (.cells #[.int .i64 f, .int .i64 t] 40)).alloc nlB) fun e w' => e = .returned (.int .i64 (thI [] f t i)) ∧ Below (((w.alloc nlB).alloc (.cells #[.int .i64 f, .int .i64 t] 40)).alloc nlB).heap.size (((w.alloc nlB).alloc (.cells #[.int .i64 f, .int .i64 t] 40)).alloc nlB) w') := there_any (.slice none 0 0) none 0 0 [] f t i _ (IsRow.nil _ _) (by simp)
  have hth := th_nil f t i
  have hne : (thI [] f t i != 0) = true := by rcases hth with h | h <;> rw [h] <;> rfl
  have HK : Hid (∀ W, Below (((w.alloc nlB).alloc (.cells #[.int .i64 f, .int .i64 t] 40)).alloc nlB).heap.size (((w.alloc nlB).alloc (.cells #[.int .i64 f, .int .i64 t] 40)).alloc nlB) W → W.heap[w.heap.size]? = some nlB ∧ W.heap[w.heap.size + 1 + 1]? = some nlB) := fun W h => ⟨(h.block _ (Array.getElem?_eq_some_iff.1 k0).1).trans k0, (h.block _ (Array.getElem?_eq_some_iff.1 k2).1).trans k2⟩
  clear b1 b2 k0 k2 hth
  generalize thI [] f t i = th at *
  go_enter Try.func29, Try.ntmps29
  go_wp2_with fail
  refine HT.out.mono ?_
  rintro e w1 ⟨rfl, hb1⟩
  obtain ⟨x0, x2⟩ := HK.out w1 hb1
  obtain ⟨g0, g1, f0, f1⟩ := two_at x0
  obtain ⟨g2, g3, f2, f3⟩ := two_at x2
  have HB1 : Hid (Below w.heap.size w w1) := HB.out.trans (hb1.mono HB.out.size)
  have HX : Hid (∀ y z, Below w.heap.size w ((w1.setCell ⟨w.heap.size + 1 + 1, 0, none⟩ y).setCell ⟨w.heap.size + 1 + 1, 1, none⟩ z)) := fun y z => (HB1.out.setCell (p := ⟨w.heap.size + 1 + 1, 0, none⟩) (Nat.le_add_right _ 2) y).setCell (p := ⟨w.heap.size + 1 + 1, 1, none⟩) (Nat.le_add_right _ 2) z
  clear hb1 x0 x2 HT HK HB
  go_wp2_with fail
  try simp only [Exit.inBlock, Exit.then]
  refine bodyPost_ret (v := .tuple #[nlV, .int .i64 th]) ?_ rfl ⟨rfl, HX.out _ _⟩
  rw [results_cs rfl]; go_simp
/-- The rows without those of a node. -/
def clrR (R : Nat → List Pk) (i : Int) : Nat → List Pk := if nodeB i = true then clrK R i.toNat 16 else R
theorem NQ.clear {w W : World} {R : Nat → List Pk} {A : Nat → Bool} {g : Nat} {K : List (Nat × Obj)} (h : NQ w R A g K W) (hc : cntN R 256 ≤ 1000) (hW : WFr R) (i : Int) :
    Calls Try.prog 22 #[nP g, .int .i64 i] W fun e w' => ∃ n : Int, e = .returned (.int .i64 n) ∧ NQ w (clrR R i) A g K w' ∧ cntN (clrR R i) 256 ≤ cntN R 256 := by
  cases hn : nodeB i with
  | false =>
    have e0 : clrR R i = R := by unfold clrR; rw [hn]; rfl
    rw [e0]
    have HI : Hid (∀ n w, Calls Try.prog 40 #[.int .i64 n] w fun e w' => e = .returned (.bool (nodeB n)) ∧ w' = w) := isNode_any
    have HX : Hid (∃ n : Int, Ending.returned (.int .i64 0) = .returned (.int .i64 n) ∧ NQ w R A g K W ∧ cntN R 256 ≤ cntN R 256) := ⟨0, rfl, h, Nat.le_refl _⟩
    clear h e0
    go_enter Try.func22, Try.ntmps22
    go_wp2_with fail
    refine (HI.out _ _).mono ?_
    rintro e w1 ⟨rfl, h1⟩
    obtain rfl := h1.symm
    rw [hn]
    go_wp2
    go_ret
    exact HX.out
  | true =>
    have e0 : clrR R i = clrK R i.toNat 16 := by unfold clrR; rw [if_pos hn]
    rw [e0]
    have hn2 : 1 ≤ i ∧ i ≤ 15 := by simpa [nodeB] using hn
    obtain ⟨n, rfl⟩ : ∃ n : Nat, i = (n : Int) := ⟨i.toNat, by omega⟩
    obtain ⟨V, h1, h2, h3, h4⟩ := h
    refine (clear_any n h1 hc hW (by omega) (by omega)).mono ?_
    rintro e w' ⟨gone, rfl, Vk, k1, k2, k3⟩
    refine ⟨(gone : Int), rfl, ⟨Vk, by simpa using k1, h2.trans (k2.below h1), fun p hp => ?_, h4⟩, by simp; omega⟩
    obtain ⟨m1, m2, m3⟩ := h3 p hp
    obtain ⟨n1, n2⟩ := k2.far (Array.getElem?_eq_some_iff.1 m1).1 m2
    exact ⟨n1.trans m1, n2, m3⟩
/-- What an act that is none of Send, Take and Twice leaves. -/
def doR (R : Nat → List Pk) (x : Ac) : Nat → List Pk := if x.k = 2 then loseR R x.f x.t x.i else if x.k = 5 then clrR R x.i else R
def doA (A : Nat → Bool) (x : Ac) : Nat → Bool := if x.k = 4 then apartA A x.f x.t x.on else A
def DoP (w : World) (g : Nat) (K : List (Nat × Obj)) (R : Nat → List Pk) (A : Nat → Bool) (e : Ending) (w' : World) : Prop := ∃ r, e = .returned r ∧ NQ w R A g K w'
/-- The boxes of do. -/
abbrev doW (W : World) (x : Ac) : World := (((W.alloc nlB).alloc (acB x)).alloc nlB).alloc (.cells #[.int .i64 x.f, .int .i64 x.t] 40)
theorem NQ.boxes {w W : World} {R : Nat → List Pk} {A : Nat → Bool} {g : Nat} {K : List (Nat × Obj)} (h : NQ w R A g K W) (x : Ac) : NQ w R A g ((W.heap.size + 1 + 1, nlB) :: (W.heap.size + 1, acB x) :: (W.heap.size, nlB) :: (W.heap.size + 1 + 1 + 1, .cells #[.int .i64 x.f, .int .i64 x.t] 40) :: K) (doW W x) := by
  have h4 := (((h.alloc nlB).alloc (acB x)).alloc nlB).alloc (.cells #[.int .i64 x.f, .int .i64 x.t] 40)
  have e1 : (W.alloc nlB).heap.size = W.heap.size + 1 := by simp
  have e2 : ((W.alloc nlB).alloc (acB x)).heap.size = W.heap.size + 1 + 1 := by simp
  have e3 : (((W.alloc nlB).alloc (acB x)).alloc nlB).heap.size = W.heap.size + 1 + 1 + 1 := by simp
  rw [e1, e2, e3] at h4
  refine h4.perm ?_
  refine List.Perm.trans ?_ (List.Perm.swap _ _ _)
  refine List.Perm.cons _ ?_
  refine List.Perm.trans ?_ (List.Perm.swap _ _ _)
  exact List.Perm.cons _ (List.Perm.swap _ _ _)
end Go.Proofs.Ythbhgblgacoklaa
