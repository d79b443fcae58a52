/- Rows beside a net; what a do leaves. -/
import Derived.Test.YthbhgblgacoklaaHZj
import Derived.Deep.RegionHeld3
namespace Go.Proofs.Ythbhgblgacoklaa
open Go.RowKit

/-- Blocks that hold a row, whatever else is. -/
def RowS (K : List (Nat × Obj)) (sz : Nat) (r : Value) (n : Nat) (cs : List Value) : Prop := ∀ W : World, (∀ p ∈ K, W.heap[p.1]? = some p.2) → IsRow W sz r n cs
theorem cell_blk {W W' : World} {b : Nat} (h : W.heap[b]? = W'.heap[b]?) (o : Nat) : W.cell? ⟨b, o, none⟩ = W'.cell? ⟨b, o, none⟩ := by
  simp only [World.cell?, h]
theorem isRow_uniq {W : World} {sz : Nat} {v : Value} {n n' : Nat} {cs cs' : List Value} (h : IsRow W sz v n cs) (h' : IsRow W sz v n' cs') : n = n' ∧ cs = cs' := by
  obtain ⟨a, cap, e⟩ := h.form
  obtain ⟨a', cap', e'⟩ := h'.form
  rw [e] at e'
  simp only [Value.slice.injEq] at e'
  obtain ⟨-, rfl, -⟩ := e'
  refine ⟨rfl, ?_⟩
  obtain ⟨l1, h⟩ := h
  obtain ⟨l2, h'⟩ := h'
  rcases h with ⟨h0, -⟩ | ⟨b, off, c, e1, -, -, -, hc⟩
  · subst h0
    have : cs.length = 0 := by simpa using l1
    have : cs'.length = 0 := by simpa using l2
    simp_all
  · rcases h' with ⟨h0, -⟩ | ⟨b2, off2, c2, e2, -, -, -, hc2⟩
    · subst h0
      have : cs.length = 0 := by simpa using l1
      have : cs'.length = 0 := by simpa using l2
      simp_all
    · rw [e1] at e2
      simp only [Value.slice.injEq, Option.some.injEq, Addr.mk.injEq] at e2
      obtain ⟨⟨rfl, rfl, -⟩, -, -⟩ := e2
      apply List.ext_getElem (by omega)
      intro j h1 h2
      have q1 := hc j cs[j] (by simp)
      have q2 := hc2 j cs'[j] (by simp)
      rw [q1] at q2
      exact Option.some.inj q2
theorem NQ.fresh {w W W' : World} {R : Nat → List Pk} {A : Nat → Bool} {g : Nat} {K : List (Nat × Obj)} (h : NQ w R A g K W) (hb : Below W.heap.size W W') {sz : Nat} {v : Value} {n : Nat} {cs : List Value} (hr : IsRow W' sz v n cs) (hf : FrR W v) :
    ∃ K1, NQ w R A g (K1 ++ K) W' ∧ RowS K1 sz v n cs := by
  have h0 := h.below hb
  obtain ⟨V, h1, h2, h3, h4⟩ := h
  have hlt : ∀ p ∈ K, p.1 < W.heap.size := fun p hp => (Array.getElem?_eq_some_iff.1 (h3 p hp).1).1
  obtain ⟨l1, hr'⟩ := hr
  rcases hr' with hn | ⟨b, off, cap, e, hbl, q1, q2, hc⟩
  · exact ⟨[], h0, fun W'' _ => ⟨l1, .inl hn⟩⟩
  · have hbb : W.heap.size ≤ b := hf b (by rw [e]; rfl)
    have hg : W'.heap[b]? = some (W'.heap[b]'hbl) := by simp
    refine ⟨[(b, W'.heap[b]'hbl)], ⟨V, h1.below hb, h2.trans (hb.mono h2.size), fun p hp => ?_, ?_⟩, fun W'' hk => ?_⟩
    · rcases List.mem_append.1 hp with hp | hp
      · obtain rfl := List.mem_singleton.1 hp
        exact ⟨hg, fun hf => by have := (h1.lt hf).2; dsimp only at this; omega, by have := h2.size; show w.heap.size ≤ b; omega⟩
      · obtain ⟨a1, a2, a3⟩ := h3 p hp
        exact ⟨(hb.block p.1 (hlt p hp)).trans a1, a2, a3⟩
    · rw [List.map_append, List.nodup_append]
      refine ⟨by simp, h4, fun a ha c hc' => ?_⟩
      obtain ⟨q, hq, rfl⟩ := List.mem_map.1 hc'
      have := hlt q hq
      obtain rfl : a = b := by simpa using ha
      omega
    · have hk1 := hk _ (List.mem_singleton.2 rfl)
      dsimp only at hk1
      have hk2 : W''.heap[b]? = W'.heap[b]? := hk1.trans hg.symm
      exact ⟨l1, .inr ⟨b, off, cap, e, (Array.getElem?_eq_some_iff.1 hk1).1, q1, q2, fun j u hu => (cell_blk hk2 _).trans (hc j u hu)⟩⟩
theorem NQ.freshB {w W W' : World} {R : Nat → List Pk} {A : Nat → Bool} {g : Nat} {X K0 K : List (Nat × Obj)} (h : NQ w R A g (X ++ (K0 ++ K)) W) {sz : Nat} {v0 v : Value} {n0 n : Nat} {cs0 cs : List Value} (h0 : RowS K0 sz v0 n0 cs0) (hb : Below W.heap.size W W') (hr : IsRow W' sz v n cs) (hf : FrB W v v0) :
    ∃ K1, NQ w R A g (X ++ (K1 ++ K)) W' ∧ RowS K1 sz v n cs := by
  rcases hf with rfl | hf
  · have hq := h.below hb
    obtain ⟨rfl, rfl⟩ := isRow_uniq hr (h0 W' fun p hp => hq.blk p (by simp [hp]))
    exact ⟨K0, hq, h0⟩
  · obtain ⟨K1, q1, q2⟩ := h.fresh hb hr hf
    refine ⟨K1, (q1.sub (K' := K1 ++ (X ++ K)) ?_).perm ?_, q2⟩
    · exact List.Sublist.append (List.Sublist.refl _) (List.Sublist.append (List.Sublist.refl _) (List.sublist_append_right _ _))
    · rw [← List.append_assoc, ← List.append_assoc]
      exact List.Perm.append_right _ List.perm_append_comm
/-- A net, the reference's rows beside it. -/
def RS (w : World) (g : Nat) (K : List (Nat × Obj)) (W : World) (R : Nat → List Pk) (A : Nat → Bool) (v u : Value) (L : List Pk) (B : List (Int × Int)) : Prop := ∃ KL KA, NQ w R A g (KL ++ (KA ++ K)) W ∧ RowS KL 7 v L.length (pCells L) ∧ RowS KA 2 u B.length (h2V B)
def DoQ (w : World) (g : Nat) (K : List (Nat × Obj)) (m : Nat) (e : Ending) (w' : World) : Prop := ∃ R A v u L B, e = .returned (.tuple #[.agg #[v, u], .bool true]) ∧ RS w g K w' R A v u L B ∧ Rel R A L B ∧ L.length ≤ 400 ∧ B.length ≤ m + 1
theorem NQ.clearN {w W : World} {R : Nat → List Pk} {A : Nat → Bool} {g : Nat} {K : List (Nat × Obj)} (h : NQ w R A g K W) (hc : cntN R 256 ≤ 1000) (hW : WFr R) (i : Int) :
    Calls Try.prog 22 #[nP g, .int .i64 i] W fun e w' => ∃ n : Nat, e = .returned (.int .i64 (n : Int)) ∧ NQ w (clrR R i) A g K w' ∧ n + cntN (clrR R i) 256 = cntN R 256 := by
  cases hn : nodeB i with
  | false =>
    have e0 : clrR R i = R := by unfold clrR; rw [hn]; rfl
    rw [e0]
    have HI : Hid (∀ n w, Calls Try.prog 40 #[.int .i64 n] w fun e w' => e = .returned (.bool (nodeB n)) ∧ w' = w) := isNode_any
    have HX : Hid (∃ n : Nat, Ending.returned (.int .i64 0) = .returned (.int .i64 (n : Int)) ∧ NQ w R A g K W ∧ n + cntN R 256 = cntN R 256) := ⟨0, rfl, h, by omega⟩
    clear h e0
    go_enter Try.func22, Try.ntmps22
    go_wp2_with fail
    refine (HI.out _ _).mono ?_
    rintro e w1 ⟨rfl, h1⟩
    obtain rfl := h1.symm
    rw [hn]
    go_wp2
    go_ret
    exact HX.out
  | true =>
    have e0 : clrR R i = clrK R i.toNat 16 := by unfold clrR; rw [if_pos hn]
    rw [e0]
    have hn2 : 1 ≤ i ∧ i ≤ 15 := by simpa [nodeB] using hn
    obtain ⟨n, rfl⟩ : ∃ n : Nat, i = (n : Int) := ⟨i.toNat, by omega⟩
    obtain ⟨V, h1, h2, h3, h4⟩ := h
    refine (clear_any n h1 hc hW (by omega) (by omega)).mono ?_
    rintro e w' ⟨gone, rfl, Vk, k1, k2, k3⟩
    refine ⟨gone, rfl, ⟨Vk, by simpa using k1, h2.trans (k2.below h1), fun p hp => ?_, h4⟩, by simpa using k3⟩
    obtain ⟨m1, m2, m3⟩ := h3 p hp
    obtain ⟨n1, n2⟩ := k2.far (Array.getElem?_eq_some_iff.1 m1).1 m2
    exact ⟨n1.trans m1, n2, m3⟩
abbrev doV (W : World) (v u : Value) (x : Ac) : World := (((W.alloc (nB v u)).alloc (acB x)).alloc nlB).alloc (hB x.f x.t)
theorem NQ.boxesG {w W : World} {R : Nat → List Pk} {A : Nat → Bool} {g : Nat} {K : List (Nat × Obj)} (h : NQ w R A g K W) (v u : Value) (x : Ac) : NQ w R A g ([(W.heap.size + 1 + 1, nlB), (W.heap.size + 1, acB x), (W.heap.size, nB v u), (W.heap.size + 1 + 1 + 1, hB x.f x.t)] ++ K) (doV W v u x) := by
  have h4 := (((h.alloc (nB v u)).alloc (acB x)).alloc nlB).alloc (hB x.f x.t)
  have e1 : (W.alloc (nB v u)).heap.size = W.heap.size + 1 := by simp
  have e2 : ((W.alloc (nB v u)).alloc (acB x)).heap.size = W.heap.size + 1 + 1 := by simp
  have e3 : (((W.alloc (nB v u)).alloc (acB x)).alloc nlB).heap.size = W.heap.size + 1 + 1 + 1 := by simp
  rw [e1, e2, e3] at h4
  refine h4.perm ?_
  refine List.Perm.trans ?_ (List.Perm.swap _ _ _)
  refine List.Perm.cons _ ?_
  refine List.Perm.trans ?_ (List.Perm.swap _ _ _)
  exact List.Perm.cons _ (List.Perm.swap _ _ _)
abbrev SDg (b5 b14 b4 : Nat) (x : Ac) (v u v0 : Value) (w : World) : Prop := w.cell? ⟨b5, 1, none⟩ = some (.int .i64 x.p.f) ∧ w.cell? ⟨b5, 2, none⟩ = some (.int .i64 x.p.t) ∧ w.cell? ⟨b5, 3, none⟩ = some (.int .i64 x.p.fl) ∧ w.cell? ⟨b5, 4, none⟩ = some (.int .i64 x.p.tl) ∧ w.cell? ⟨b5, 5, none⟩ = some (.int .i64 x.p.sq) ∧ w.cell? ⟨b5, 6, none⟩ = some (.int .i64 x.p.ak) ∧ w.cell? ⟨b5, 7, none⟩ = some (.string x.p.x) ∧ w.cell? ⟨b5, 8, none⟩ = some (.int .i64 x.f) ∧ w.cell? ⟨b5, 9, none⟩ = some (.int .i64 x.t) ∧ w.cell? ⟨b5, 10, none⟩ = some (.int .i64 x.i) ∧ w.cell? ⟨b5, 11, none⟩ = some (.bool x.on) ∧ w.cell? ⟨b14, 0, none⟩ = some v ∧ w.cell? ⟨b14, 1, none⟩ = some u ∧ w.cell? ⟨b4, 0, none⟩ = some v0
theorem NQ.trioG {w W : World} {R : Nat → List Pk} {A : Nat → Bool} {g b5 b14 b4 : Nat} {o q : Nat × Obj} {x : Ac} {v u v0 u0 : Value} {K : List (Nat × Obj)} (h : NQ w R A g (q :: (b14, nB v u) :: (b5, acB x) :: (b4, nB v0 u0) :: o :: K) W) : SDg b5 b14 b4 x v u v0 W := by
  obtain ⟨t0, t1, t2, t3, t4, t5, t6, t7, t8, t9, t10, t11, -⟩ := ac_at (h.blk (b5, acB x) (by simp))
  obtain ⟨r0, r1, -, -⟩ := two_at (h.blk (b14, nB v u) (by simp))
  obtain ⟨r2, -, -, -⟩ := two_at (h.blk (b4, nB v0 u0) (by simp))
  exact ⟨t1, t2, t3, t4, t5, t6, t7, t8, t9, t10, t11, r0, r1, r2⟩
theorem SDg_drew {b5 b14 b4 : Nat} {x : Ac} {v u v0 : Value} {w : World} (h : SDg b5 b14 b4 x v u v0 w) : SDg b5 b14 b4 x v u v0 w.drew := h
theorem snd_len {L : List Pk} (p : Pk) (h : L.length ≤ 400) : (sndL L p).1.length ≤ 400 := by
  unfold sndL
  split
  · split
    · exact h
    · simp; omega
  · exact h
theorem los_len {L : List Pk} (f t i : Int) (h : L.length ≤ 400) : (losL L f t i).length ≤ 400 := by
  unfold losL
  split
  · exact Nat.le_trans (flt_len _ _ _) h
  · exact h
theorem tk_len {L : List Pk} (B : List (Int × Int)) (f t i : Int) (h : L.length ≤ 400) : (tkL L B f t i).length ≤ 400 := by
  unfold tkL
  split
  · exact Nat.le_trans (flt_len _ _ _) h
  · exact h
theorem tw_len {L : List Pk} (f t i : Int) (h : L.length ≤ 400) : (twL L f t i).1.length ≤ 400 := by
  unfold twL
  split
  · exact snd_len _ h
  · exact h
theorem prt_len {B : List (Int × Int)} (f t : Int) (on : Bool) : (prtR B f t on).1.length ≤ B.length + 1 := by
  unfold prtR
  split
  · have := stA_len B f t B.length
    cases on <;> simp <;> omega
  · exact Nat.le_succ _
end Go.Proofs.Ythbhgblgacoklaa
