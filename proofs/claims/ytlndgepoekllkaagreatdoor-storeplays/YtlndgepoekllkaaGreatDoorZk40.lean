/- The other calls of a nil store: walks. -/
import Derived.Test.YtlndgepoekllkaaGreatDoorZk15
import Derived.Test.YtlndgepoekllkaaGreatDoorZk9
import Derived.Test.YtlndgepoekllkaaGreatDoorZk16
import Derived.Test.YtlndgepoekllkaaGreatDoorZk17
import Derived.Test.YtlndgepoekllkaaGreatDoorZk29
import Derived.Test.YtlndgepoekllkaaGreatDoorZk39
namespace Go.Proofs.YtlndgepoekllkaaGreatDoor
open Go.RowKit Go.ChangeMaps

end Go.Proofs.YtlndgepoekllkaaGreatDoor
/- law17's few, StoreNil: walks. -/
namespace Go.Proofs.YtlndgepoekllkaaGreatDoor
open Go.RowKit Go.ChangeMaps

/-- Is an act not more than statements go through? -/
def few17B (x : Ac) : Bool := decide (x.n.size ≤ 200) && (decide (x.l.length ≤ 20) && fewL (tys [x.z]))
theorem OkAc.below {w w' : World} {x : Ac} (h : OkAc w x) (hb : Below w.heap.size w w') : OkAc w' x := ⟨⟨h.1.1.below hb, h.1.2⟩, h.2.1.below hb, h.2.2⟩
theorem isTys_one {W : World} {g : Nat} {z : LT} (h : W.heap[g]? = some (.cells (tyA z.t z.vo z.va z.vc) 35 (0, 0))) (hz : IsTy W z.t z.vo z.va z.vc) : IsTys W (.slice (some ⟨g, 0, none⟩) 1 1) [z] := by
  refine ⟨⟨rfl, .inr ⟨g, 0, 1, rfl, (Array.getElem?_eq_some_iff.1 h).1, Nat.le_refl _, by decide, fun j u hu => ?_⟩⟩, fun x hx => ?_⟩
  · rw [Lib.cell_of_heap h, Nat.zero_add]
    simpa [tCells, enT] using hu
  · rw [List.mem_singleton] at hx
    subst hx
    exact hz
set_option maxRecDepth 100000 in
set_option maxHeartbeats 4000000 in
theorem few17_any (x : Ac) (w : World) (ho : OkAc w x) : Calls Tryz.prog 6 #[acV x] w fun e w' => e = .returned (.bool (few17B x)) ∧ Below w.heap.size w w' := by
  have HF : Hid (∀ W g, Below w.heap.size w W → W.heap[g]? = some (.cells (tyA x.z.t x.z.vo x.z.va x.z.vc) 35 (0, 0)) → Calls Tryz.prog 15 #[.slice (some ⟨g, 0, none⟩) 1 1] W fun e w' => e = .returned (.bool (fewL (tys [x.z]))) ∧ Below W.heap.size W w') := fun W g hb hg => fewT_any _ [x.z] W (isTys_one hg (ho.1.1.below hb)) (by simp) fun y hy => by
    rw [List.mem_singleton] at hy
    subst hy
    exact ho.1.2
  have HD : Hid (few17B x = (decide (x.n.size ≤ 200) && (decide (x.l.length ≤ 20) && fewL (tys [x.z])))) := rfl
  generalize fewL (tys [x.z]) = F at *
  generalize few17B x = R at *
  clear ho
  obtain ⟨kd, ⟨t, ao, co, aa, ca, ac, cc⟩, n, lp, lc, l, a, b, c, i⟩ := x
  dsimp only at *
  obtain ⟨w1, hw1⟩ : ∃ w1, w1 = w.alloc (.cells (acA ⟨kd, ⟨t, ao, co, aa, ca, ac, cc⟩, n, lp, lc, l, a, b, c, i⟩) 38) := ⟨_, rfl⟩
  have B1 : Hid (Below w.heap.size w w1) := by show Below _ _ _; rw [hw1]; exact al_b _ _
  have hn1 : w1.heap[w.heap.size]? = some (.cells (acA ⟨kd, ⟨t, ao, co, aa, ca, ac, cc⟩, n, lp, lc, l, a, b, c, i⟩) 38 (0, 0)) := by rw [hw1]; exact new_at _ _
  have C1 : Hid (∀ W, Below w1.heap.size w1 W → W.heap[w.heap.size]? = some (.cells (acA ⟨kd, ⟨t, ao, co, aa, ca, ac, cc⟩, n, lp, lc, l, a, b, c, i⟩) 38 (0, 0))) := fun W h => (h.block _ (Array.getElem?_eq_some_iff.1 hn1).1).trans hn1
  clear hn1
  have hk := C1.out w1 (Below.refl _ _)
  have c1_0 : w1.cell? ⟨w.heap.size, 0, none⟩ = some (.int .i64 kd) := by rw [Lib.cell_of_heap hk]; rfl
  have c1_1 : w1.cell? ⟨w.heap.size, 1, none⟩ = some (.string t.n) := by rw [Lib.cell_of_heap hk]; rfl
  have c1_2 : w1.cell? ⟨w.heap.size, 2, none⟩ = some (.string t.p) := by rw [Lib.cell_of_heap hk]; rfl
  have c1_3 : w1.cell? ⟨w.heap.size, 3, none⟩ = some (.slice ao t.own.length co) := by rw [Lib.cell_of_heap hk]; rfl
  have c1_4 : w1.cell? ⟨w.heap.size, 4, none⟩ = some (.slice aa t.all.length ca) := by rw [Lib.cell_of_heap hk]; rfl
  have c1_5 : w1.cell? ⟨w.heap.size, 5, none⟩ = some (.slice ac t.ch.length cc) := by rw [Lib.cell_of_heap hk]; rfl
  have c1_6 : w1.cell? ⟨w.heap.size, 6, none⟩ = some (.int .i64 t.nd) := by rw [Lib.cell_of_heap hk]; rfl
  have c1_7 : w1.cell? ⟨w.heap.size, 7, none⟩ = some (.int .i64 t.lf) := by rw [Lib.cell_of_heap hk]; rfl
  have c1_8 : w1.cell? ⟨w.heap.size, 8, none⟩ = some (.int .i64 t.sq) := by rw [Lib.cell_of_heap hk]; rfl
  have c1_9 : w1.cell? ⟨w.heap.size, 9, none⟩ = some (.string n) := by rw [Lib.cell_of_heap hk]; rfl
  have c1_10 : w1.cell? ⟨w.heap.size, 10, none⟩ = some (.slice lp l.length lc) := by rw [Lib.cell_of_heap hk]; rfl
  have c1_11 : w1.cell? ⟨w.heap.size, 11, none⟩ = some (.int .i64 a) := by rw [Lib.cell_of_heap hk]; rfl
  have c1_12 : w1.cell? ⟨w.heap.size, 12, none⟩ = some (.int .i64 b) := by rw [Lib.cell_of_heap hk]; rfl
  have c1_13 : w1.cell? ⟨w.heap.size, 13, none⟩ = some (.int .i64 c) := by rw [Lib.cell_of_heap hk]; rfl
  have c1_14 : w1.cell? ⟨w.heap.size, 14, none⟩ = some (.int .i64 i) := by rw [Lib.cell_of_heap hk]; rfl
  clear hk
  by_cases h1 : n.size ≤ 200
  rotate_left
  · have hR : R = false := by rw [HD.out, decide_eq_false h1, Bool.false_and]
    have d1 : decide ((n.size : Int) ≤ 200) = false := by simp; omega
    subst hR
    clear HD HF h1
    rw [hw1] at c1_0 c1_1 c1_2 c1_3 c1_4 c1_5 c1_6 c1_7 c1_8 c1_9 c1_10 c1_11 c1_12 c1_13 c1_14
    go_enter Tryz.func6, Tryz.ntmps6
    go_wp2
    rw [← hw1]
    go_ret
    exact ⟨rfl, B1.out⟩
  have d1 : decide ((n.size : Int) ≤ 200) = true := by simp; omega
  by_cases h2 : l.length ≤ 20
  rotate_left
  · have hR : R = false := by rw [HD.out, decide_eq_false h2, Bool.false_and, Bool.and_false]
    have d2 : decide ((l.length : Int) ≤ 20) = false := by simp; omega
    subst hR
    clear HD HF h1 h2
    rw [hw1] at c1_0 c1_1 c1_2 c1_3 c1_4 c1_5 c1_6 c1_7 c1_8 c1_9 c1_10 c1_11 c1_12 c1_13 c1_14
    go_enter Tryz.func6, Tryz.ntmps6
    go_wp2
    rw [← hw1]
    go_ret
    exact ⟨rfl, B1.out⟩
  have d2 : decide ((l.length : Int) ≤ 20) = true := by simp; omega
  have hR : R = F := by rw [HD.out, decide_eq_true h1, decide_eq_true h2, Bool.true_and, Bool.true_and]
  subst hR
  clear HD h1 h2
  rw [hw1] at c1_0 c1_1 c1_2 c1_3 c1_4 c1_5 c1_6 c1_7 c1_8 c1_9 c1_10 c1_11 c1_12 c1_13 c1_14
  go_enter Tryz.func6, Tryz.ntmps6
  go_upto_region 1 with fail
  rw [← hw1]
  clear hw1 c1_0 c1_1 c1_2 c1_3 c1_4 c1_5 c1_6 c1_7 c1_8 c1_9 c1_10 c1_11 c1_12 c1_13 c1_14
  obtain ⟨w2, hw2⟩ : ∃ w2, w2 = w1.alloc (.cells (tyA t (.slice ao t.own.length co) (.slice aa t.all.length ca) (.slice ac t.ch.length cc)) 35) := ⟨_, rfl⟩
  have B2 : Hid (Below w1.heap.size w1 w2) := by show Below _ _ _; rw [hw2]; exact al_b _ _
  have hn2 : w2.heap[w1.heap.size]? = some (.cells (tyA t (.slice ao t.own.length co) (.slice aa t.all.length ca) (.slice ac t.ch.length cc)) 35 (0, 0)) := by rw [hw2]; exact new_at _ _
  have C2 : Hid (∀ W, Below w2.heap.size w2 W → W.heap[w1.heap.size]? = some (.cells (tyA t (.slice ao t.own.length co) (.slice aa t.all.length ca) (.slice ac t.ch.length cc)) 35 (0, 0))) := fun W h => (h.block _ (Array.getElem?_eq_some_iff.1 hn2).1).trans hn2
  clear hn2
  have HFk := HF.out _ w1.heap.size (bTS B1.out B2.out) (C2.out _ (Below.refl _ _))
  clear HF
  have hk := C1.out w1 (Below.refl _ _)
  have c1_0 : w1.cell? ⟨w.heap.size, 0, none⟩ = some (.int .i64 kd) := by rw [Lib.cell_of_heap hk]; rfl
  have c1_1 : w1.cell? ⟨w.heap.size, 1, none⟩ = some (.string t.n) := by rw [Lib.cell_of_heap hk]; rfl
  have c1_2 : w1.cell? ⟨w.heap.size, 2, none⟩ = some (.string t.p) := by rw [Lib.cell_of_heap hk]; rfl
  have c1_3 : w1.cell? ⟨w.heap.size, 3, none⟩ = some (.slice ao t.own.length co) := by rw [Lib.cell_of_heap hk]; rfl
  have c1_4 : w1.cell? ⟨w.heap.size, 4, none⟩ = some (.slice aa t.all.length ca) := by rw [Lib.cell_of_heap hk]; rfl
  have c1_5 : w1.cell? ⟨w.heap.size, 5, none⟩ = some (.slice ac t.ch.length cc) := by rw [Lib.cell_of_heap hk]; rfl
  have c1_6 : w1.cell? ⟨w.heap.size, 6, none⟩ = some (.int .i64 t.nd) := by rw [Lib.cell_of_heap hk]; rfl
  have c1_7 : w1.cell? ⟨w.heap.size, 7, none⟩ = some (.int .i64 t.lf) := by rw [Lib.cell_of_heap hk]; rfl
  have c1_8 : w1.cell? ⟨w.heap.size, 8, none⟩ = some (.int .i64 t.sq) := by rw [Lib.cell_of_heap hk]; rfl
  have c1_9 : w1.cell? ⟨w.heap.size, 9, none⟩ = some (.string n) := by rw [Lib.cell_of_heap hk]; rfl
  have c1_10 : w1.cell? ⟨w.heap.size, 10, none⟩ = some (.slice lp l.length lc) := by rw [Lib.cell_of_heap hk]; rfl
  have c1_11 : w1.cell? ⟨w.heap.size, 11, none⟩ = some (.int .i64 a) := by rw [Lib.cell_of_heap hk]; rfl
  have c1_12 : w1.cell? ⟨w.heap.size, 12, none⟩ = some (.int .i64 b) := by rw [Lib.cell_of_heap hk]; rfl
  have c1_13 : w1.cell? ⟨w.heap.size, 13, none⟩ = some (.int .i64 c) := by rw [Lib.cell_of_heap hk]; rfl
  have c1_14 : w1.cell? ⟨w.heap.size, 14, none⟩ = some (.int .i64 i) := by rw [Lib.cell_of_heap hk]; rfl
  clear hk
  go_wp2_with fail
  rw [← hw2]
  clear hw2
  clear c1_0 c1_1 c1_2 c1_3 c1_4 c1_5 c1_6 c1_7 c1_8 c1_9 c1_10 c1_11 c1_12 c1_13 c1_14
  refine (HFk).mono ?_
  rintro e w3 ⟨rfl, hb⟩
  have B3 : Hid (Below w2.heap.size w2 w3) := hb
  clear hb 
  have HBz : Hid (Below w.heap.size w w3) := (bTS (bTS B1.out B2.out) B3.out)
  go_wp2
  go_ret
  exact ⟨rfl, HBz.out⟩
end Go.Proofs.YtlndgepoekllkaaGreatDoor
/- law17's do of any act; a block of the law's own that is written. -/
namespace Go.Proofs.YtlndgepoekllkaaGreatDoor
open Go.RowKit Go.ChangeMaps

theorem do17_any {w0 w : World} {s m : Nat} {E : List (ByteArray × Nat)} {X : Nat → Kp} {v : Value} {M : List KR} (h : RS w0 w s m E X v M) (x : Ac) (ho : OkAc w0 x) (hf : few17B x = true) (hT : ∀ W, Below w0.heap.size w0 W → UT W ∧ ML W) :
    Calls Tryz.prog 7 #[stP s, .agg #[v], acV x] w fun e w' => DoQ w0 w s m E e w' := by
  unfold few17B at hf
  simp only [Bool.and_eq_true, decide_eq_true_eq] at hf
  obtain ⟨hn, hl, hk0⟩ := hf
  have hk : oneB x.z.t = true := by
    unfold fewL at hk0
    rw [decide_eq_true_eq] at hk0
    exact (hk0 0 (by simp [tys])).2
  by_cases h5 : 0 ≤ x.kd ∧ x.kd ≤ 4
  · rcases (by omega : x.kd = 0 ∨ x.kd = 1 ∨ x.kd = 2 ∨ x.kd = 3 ∨ x.kd = 4) with e | e | e | e | e
    · exact do_0 h x ho hn hl hk hT e
    · exact do_1 h x ho hn hl hk hT e
    · exact do_2 h x ho hn hl hk hT e
    · exact do_3 h x ho hn hl hk hT e
    · exact do_4 h x ho hn hl hk hT e
  · exact do_none h x ho hn hl hk hT h5
theorem row_back {W : World} {R : Nat} {a : Option Addr} {n0 c0 : Nat} {ty : TypeId} {z : Nat × Nat} {sz n : Nat} {v : Value} {xs : List Value} (h : IsRow { W with heap := W.heap.setIfInBounds R (.cells #[.slice a n0 c0] ty z) } sz v n xs) (hsz : 0 < sz) (hR : R < W.heap.size) (hx : ∀ u, xs[0]? = some u → ∀ a n c, u ≠ .slice a n c) : IsRow W sz v n xs := by
  refine ⟨h.1, ?_⟩
  rcases h.2 with h0 | ⟨b, off, cap, hv, hlt, hc, hm, hcell⟩
  · exact .inl h0
  · by_cases hn : n = 0
    · exact .inl ⟨hn, _, _, by rw [hv, hn]⟩
    · have hlen : 0 < xs.length := by rw [h.1]; exact Nat.mul_pos (by omega) hsz
      have hbR : b ≠ R := fun e => by
        subst e
        have h0 := hcell 0 (xs[0]) (List.getElem?_eq_getElem hlen)
        have hh : (W.heap.setIfInBounds b (.cells #[.slice a n0 c0] ty z))[b]? = some (.cells #[.slice a n0 c0] ty z) := by simp [hR]
        rw [Lib.cell_of_heap (w := { W with heap := W.heap.setIfInBounds b (.cells #[.slice a n0 c0] ty z) }) hh] at h0
        have hm := Array.mem_of_getElem? h0
        simp only [List.mem_toArray, List.mem_singleton] at hm
        exact hx _ (List.getElem?_eq_getElem hlen) _ _ _ hm
      have hlt' : b < W.heap.size := by simpa using hlt
      refine .inr ⟨b, off, cap, hv, hlt', hc, hm, fun j u hu => ?_⟩
      have := hcell j u hu
      unfold World.cell? at this ⊢
      dsimp only at this ⊢
      rw [Array.getElem?_setIfInBounds_ne (fun e => hbR e.symm)] at this
      exact this
/-- What is kept lies in no block whose one cell is a slice. -/
theorem pst_add {w : World} {F : Nat → Prop} {R : Nat} {a : Option Addr} {n0 c0 : Nat} {ty : TypeId} {z : Nat × Nat} {v : Value} {M : List KR} (h : Pst F w fun W => IsKs W v M) (hR : w.heap[R]? = some (.cells #[.slice a n0 c0] ty z)) : Pst (fun k => F k ∨ k = R) w fun W => IsKs W v M := fun W hW => by
  have hlt := (Array.getElem?_eq_some_iff.1 hR).1
  have hltW : R < W.heap.size := Nat.lt_of_lt_of_le hlt hW.size
  have hS : Stp w F F { W with heap := W.heap.setIfInBounds R (.cells #[.slice a n0 c0] ty z) } := by
    refine ⟨hW.os, hW.tape, hW.output, ?_, fun k hk hn => ?_, fun _ h => .inl h⟩
    · show _ ≤ (W.heap.setIfInBounds R _).size
      rw [Array.size_setIfInBounds]
      exact hW.size
    · show (W.heap.setIfInBounds R _)[k]? = _
      by_cases e : k = R
      · subst e
        rw [hR]
        simp [hltW]
      · rw [Array.getElem?_setIfInBounds_ne (fun e' => e e'.symm)]
        exact hW.block k hk fun hf => hf.elim hn e
  obtain ⟨k1, k2⟩ := h _ hS
  refine ⟨row_back k1 (by omega) hltW fun u hu a n c e => ?_, fun y hy => ?_⟩
  · subst e
    cases M with
    | nil => simp [kCells] at hu
    | cons k M => simp [kCells, enK] at hu
  · obtain ⟨⟨r1, r2, r3⟩, r4⟩ := k2 y hy
    have hf : ∀ l : List Fd, ∀ u, (fCells l)[0]? = some u → ∀ a n c, u ≠ .slice a n c := fun l u hu a n c e => by
      subst e
      cases l with
      | nil => simp [fCells] at hu
      | cons k l => simp [fCells, enF] at hu
    refine ⟨⟨row_back r1 (by omega) hltW (hf _), row_back r2 (by omega) hltW (hf _), row_back r3 (by omega) hltW fun u hu a n c e => ?_⟩, row_back r4 (by omega) hltW fun u hu a n c e => ?_⟩
    · subst e
      cases hc : y.y.t.ch with
      | nil => rw [hc] at hu; simp [sVals] at hu
      | cons k l => rw [hc] at hu; simp [sVals] at hu
    · subst e
      cases hc : y.l with
      | nil => rw [hc] at hu; simp [iCells] at hu
      | cons k l => rw [hc] at hu; simp [iCells] at hu
/-- A store to a block of the law's own. -/
theorem RS.put {w0 w : World} {s m R : Nat} {E : List (ByteArray × Nat)} {X : Nat → Kp} {v : Value} {M : List KR} (h : RS w0 w s m E X v M) {a : Option Addr} {n0 c0 : Nat} {z : Nat × Nat} (hR : w.heap[R]? = some (.cells #[.slice a n0 c0] 27 z)) (h0 : w0.heap.size ≤ R) (u : Value) : RS w0 (w.setCell ⟨R, 0, none⟩ u) s m E X v M :=
  ⟨h.st.far hR (by decide) (by decide) (by decide) (by decide) fun j hj => Below.heap_setCell _ _ _ _ hj,
    Pst.weaken ((pst_add h.ks hR).move (stp_set (Stp.rfl' _ _) (.inl (.inr rfl)) 0 u)) fun k hk => .inl hk, h.bel.setCell (p := ⟨R, 0, none⟩) h0 u, h.pl, h.le⟩
theorem rs_nil {w0 w : World} {s m : Nat} {X : Nat → Kp} (h : StV w0.heap.size w s m [] X) (hb : Below w0.heap.size w0 w) : RS w0 w s m [] X (.slice none 0 0) [] :=
  ⟨h, fun W _ => ⟨IsRow.nil _ _, fun k hk => absurd hk (by simp)⟩, hb, pl_nil X, by simp⟩
end Go.Proofs.YtlndgepoekllkaaGreatDoor
