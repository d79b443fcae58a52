/- Fields that came in. -/
import Derived.Test.YtbekpemidpngaaaGreatDoorZk25
import Derived.Test.YtbekpemidpngaaaGreatDoorZk16
import Derived.Test.YtbekpemidpngaaaGreatDoorZk8
import Derived.Deep.RegionHeld3
import Derived.Deep.AppendLies
import Derived.Test.YtbekpemidpngaaaGreatDoorZk1
namespace Go.Proofs.YtbekpemidpngaaaGreatDoor
open Go.ChangeShapes Go.WideShapes Go.ChangeAt Go.WideMaps Go.WideElems Go.RowKit Go.Deep

theorem cF : Tryz.prog.cellsOf 61 = 3 := by kernel_rfl
theorem cB : Tryz.prog.cellsOf 4 = 1 := by kernel_rfl
instance : Inhabited Fd := ⟨⟨⟨#[]⟩, 0, false⟩⟩
theorem open_fd {H : Type} {enc : TypeId × Value → H} {W : World} (fuel : Nat) (cs : List Value) (x : DataW H × List MemPlace) (h : DataW.trod enc Tryz.prog W 0 (fun _ => true) true fuel 61 cs = some x) : ∃ z : Fd, cs = enF z := by
  obtain ⟨xs, n, _, rfl, hl, hlen, hf⟩ := DataW.trod_struct Tryz.underlying61 h
  rw [cF] at hl
  obtain ⟨c0, c1, c2, rfl⟩ := listS3 hl
  obtain ⟨y0, y1, y2, rfl⟩ := listS3 (l := xs) hlen
  have i0 := hf 0 _ rfl
  have i1 := hf 1 _ rfl
  have i2 := hf 2 _ rfl
  simp [cI, cS, cB] at i0 i1 i2
  obtain ⟨s, e0, -, -⟩ := DataW.trod_string Tryz.underlying9 i0
  obtain ⟨n1, e1, -, -⟩ := DataW.trod_int Tryz.underlying3 i1
  obtain ⟨b, e2, -⟩ := DataW.trod_bool Tryz.underlying4 i2
  simp at e0 e1 e2
  subst e0 e1 e2
  exact ⟨⟨s, n1, b⟩, rfl⟩
theorem open_fds {H : Type} {enc : TypeId × Value → H} {w : World} {fuel : Nat} {v : Value} {x : DataW H × List MemPlace} (h : DataW.trod enc Tryz.prog w 0 (fun _ => true) true fuel 23 [v] = some x) (hz : ∀ n ∈ x.1.weights Tryz.prog 23, n ≤ reachBytes) :
    ∃ l : List Fd, IsRow w 3 v l.length (fCells l) ∧ l.length ≤ 140737488355328 :=
  open_rows enF 3 32 Tryz.underlying23 cF (by kernel_rfl) (fun _ => rfl) (by omega) (by omega) open_fd h hz
end Go.Proofs.YtbekpemidpngaaaGreatDoor
/- meets, holds, Lets, Holds: walks. -/
namespace Go.Proofs.YtbekpemidpngaaaGreatDoor
open Go.RowKit

end Go.Proofs.YtbekpemidpngaaaGreatDoor
/- holds, Holds, Lets: walks. -/
namespace Go.Proofs.YtbekpemidpngaaaGreatDoor
open Go.RowKit

theorem may_ne {y : Pd} (h : mayP y = true) (h1 : y.o ≠ 1) : y.l ≠ [] := by
  intro e
  unfold mayP at h
  rw [Bool.and_eq_true] at h
  have h2 := h.1
  unfold valsB at h2
  rw [e, if_neg h1] at h2
  split at h2
  · exact absurd h2 (by decide)
  · split at h2
    · cases h2
    · cases h2
theorem chk_may {D : List Pd} (h : chkFl D = true) : ∀ y ∈ D, mayP y = true := by
  unfold chkFl at h
  rw [Bool.and_eq_true, List.all_eq_true] at h
  exact h.2
end Go.Proofs.YtbekpemidpngaaaGreatDoor
/- The law's Refs: its walk. -/
namespace Go.Proofs.YtbekpemidpngaaaGreatDoor
open Go.RowKit Go.ChangeMaps

theorem info_p8 : (Tryz.prog.info? 49).map (fun i => (i.zero, i.size, i.bytes)) = some (some (.agg #[.string ⟨#[]⟩, .int .i64 0, .slice none 0 0]), 3, 48) := by kernel_rfl
theorem info_v3 : (Tryz.prog.info? 67).map (fun i => (i.zero, i.size, i.bytes)) = some (some (.agg #[.int .i64 0, .int .i64 0, .string ⟨#[]⟩]), 3, 32) := by kernel_rfl
theorem ElOk.bel {B : Nat} {u : Option Nat} {W W' : World} {x : PR} (h : ElOk B u W x) (hb : Below W.heap.size W W') : ElOk B u W' x :=
  ⟨h.1.below hb, fun hl d hd => ⟨(h.2 hl d hd).1, (h.2 hl d hd).2.1, Nat.lt_of_lt_of_le (h.2 hl d hd).2.2 hb.size⟩⟩
theorem it_take (l : List It) (k : Nat) (hk : k < l.length) : itCells (l.take (k + 1)) = itCells (l.take k) ++ It.cells l[k] := by
  rw [List.take_succ_eq_append_getElem hk, itCells, List.flatMap_append]
  simp [itCells]
theorem heap_st {w : World} {g : Nat} {C : Array Value} {ty : TypeId} {z : Nat × Nat} (h : w.heap[g]? = some (.cells C ty z)) (j : Nat) (v : Value) : (w.setCell ⟨g, j, none⟩ v).heap[g]? = some (.cells (C.setIfInBounds j v) ty z) := by
  show (w.heap.modify g _)[g]? = _
  rw [Array.getElem?_modify, if_pos rfl, h]
  rfl
theorem own_fra {w : World} {base : Nat} {ty : TypeId} {sz n m c : Nat} {a : Option Addr} {xs : List Value} (h : w.ownsRow base ty sz (.slice a m c) n xs) : FrA base a := by
  intro g e
  subst e
  rcases h.2 with ⟨h, -⟩ | ⟨b, cap, cur, h, hb, -⟩
  · cases h
  · simp only [Value.slice.injEq, Option.some.injEq] at h
    rw [h.1]
    exact hb
/-- The law's Refs hands back a filter with the same predicates. -/
def R8P (D : List Pd) (w : World) (e : Ending) (w' : World) : Prop := ∃ a c G, e = .returned (.slice a G.length c) ∧ IsFl w' (.slice a G.length c) G ∧ G.map (·.y) = D ∧ Below w.heap.size w w'
set_option maxRecDepth 100000 in
set_option maxHeartbeats 8000000 in
theorem refs8_any (v : Value) (F : List PR) (D : List Pd) (w : World) (hr : IsFl w v F) (hD : F.map (·.y) = D) (hl : F.length ≤ 1000000) (hL : ∀ y ∈ D, y.l.length ≤ 1000000) :
    Calls Tryz.prog 12 #[v] w fun e w' => R8P D w e w' := by
  obtain ⟨a0, cap0, rfl⟩ := hr.1.form
  have HR : Hid (IsFl w (.slice a0 F.length cap0) F) := hr
  have HD : Hid (F.map (·.y) = D) := hD
  have HLl : Hid (∀ x ∈ F, x.y.l.length ≤ 1000000) := fun x hx => hL _ (by rw [← hD]; exact List.mem_map.2 ⟨x, hx, rfl⟩)
  clear hr hD hL
  obtain ⟨i0, hi0, hz0, hz1, hz2⟩ := info_parts info_p8
  obtain ⟨i3, hi3, hz3, hz4, hz5⟩ := info_parts info_v3
  go_enter Tryz.func12, Tryz.ntmps12
  go_wp2_with fail
  go_loopw [3, 4] (fun r i wr => ∃ (j : Nat) (G : List PR), j ≤ F.length ∧ i = .int .i64 (j : Int) ∧ Hid (wr.ownsRow w.heap.size 49 3 r j (pCells G)) ∧ Hid (G.length = j) ∧ Hid (G.map (·.y) = (F.take j).map (·.y)) ∧ Hid (∀ x ∈ G, ElOk w.heap.size r.ownBlock wr x) ∧ Hid (Below w.heap.size w wr)) (fun _ i _ => F.length - (intOf i).toNat)
  case atStart => exact ⟨0, [], Nat.zero_le _, rfl, World.ownsRow_nil _ _ _ _, rfl, rfl, (fun x hx => by cases hx), Below.refl _ _⟩
  case round =>
    obtain ⟨j, G, hj, rfl, HO, HGl, HM, HE, HB⟩ := hrel
    obtain ⟨wo, rfl⟩ : ∃ wo, wo = wr := ⟨_, rfl⟩
    obtain ⟨ua, uc, rfl⟩ := (IsRow.own HO.out).form
    by_cases hlk : j < F.length
    · have dj : decide ((j : Int) < (F.length : Int)) = true := by simp; omega
      have q1 : (0 : Int) ≤ (j : Int) := by omega
      have q2 : (j : Int) < (F.length : Int) := by omega
      obtain ⟨b, off, rfl, hlt, c0', c1', c2'⟩ := p_at (HR.out.1) j hlk
      have HQ : Hid (∀ W, Below w.heap.size w W → W.cell? ⟨b, off + j * 3, none⟩ = some (.string F[j].y.n) ∧ W.cell? ⟨b, off + j * 3 + 1, none⟩ = some (.int .i64 F[j].y.o) ∧ W.cell? ⟨b, off + j * 3 + 2, none⟩ = some F[j].v) := fun W hb => ⟨(hb.cell (p := ⟨b, _, none⟩) hlt).trans c0', (hb.cell (p := ⟨b, _, none⟩) hlt).trans c1', (hb.cell (p := ⟨b, _, none⟩) hlt).trans c2'⟩
      have HV : Hid (∀ W, Below w.heap.size w W → IsRow W 3 F[j].v F[j].y.l.length (itCells F[j].y.l)) := fun W hb => (HR.out.2 _ (List.getElem_mem hlk)).below hb
      have HLj : Hid (F[j].y.l.length ≤ 1000000) := HLl.out _ (List.getElem_mem hlk)
      have HM1 : Hid ((F.take (j + 1)).map (·.y) = (F.take j).map (·.y) ++ [F[j].y]) := by show _ = _; rw [List.take_succ_eq_append_getElem hlk, List.map_append]; rfl
      clear hlt c0' c1' c2'
      generalize F[j] = x at *
      obtain ⟨⟨n, o, l⟩, a, c⟩ := x
      dsimp only [PR.v] at HQ HV HLj HM1
      have hLj := HLj.out
      clear HLj
      have HBd : Hid (Below wo.heap.size wo wo.drew) := (Below.refl _ _).drew
      have HBw : Hid (Below w.heap.size w wo.drew) := HB.out.drew
      go_wp2_with fail
      refine wp_region_held_drew (S := fun w' => w'.cell? ⟨b, off + j * 3, none⟩ = some (.string n) ∧ w'.cell? ⟨b, off + j * 3 + 1, none⟩ = some (.int .i64 o)) (by kernel_rfl) ⟨(HQ.out _ HBw.out).1, (HQ.out _ HBw.out).2.1⟩ (fun hHeld => ?_)
      generalize hw0 : wo.drew = v0 at *
      clear hw0
      refine wpAnyH_take (i := 0) (v := ?_) rfl (by kernel_rfl) (by kernel_rfl) (by kernel_rfl) (fun _ _ _ h => h) (Or.inl ⟨by rfl, ?_⟩) hHeld ?_
      rotate_left 1
      · intro w9 hSw; obtain ⟨g0, g1⟩ := hSw; go_simp; try with_reducible rfl
      change wpAnyH _ _ _ _ _ _ _ (Act.put _ (some 13) _) _
      simp only [Act.put, List.setIfInBounds_toArray, List.set_cons_zero, List.set_cons_succ]
      refine wpAnyH_take (i := 1) (v := ?_) rfl (by kernel_rfl) (by kernel_rfl) (by kernel_rfl) (fun _ _ _ h => h) (Or.inl ⟨by rfl, ?_⟩) hHeld ?_
      rotate_left 1
      · intro w9 hSw; obtain ⟨g0, g1⟩ := hSw; go_simp; try with_reducible rfl
      change wpAnyH _ _ _ _ _ _ _ (Act.put _ (some 14) _) _
      simp only [Act.put, List.setIfInBounds_toArray, List.set_cons_zero, List.set_cons_succ]
      refine wpAnyH_take (i := 2) (v := ?_) rfl (by kernel_rfl) (by kernel_rfl) (by kernel_rfl) (fun _ _ _ h => h) (Or.inl ⟨by rfl, ?_⟩) hHeld ?_
      rotate_left 1
      · intro w9 hSw; obtain ⟨g0, g1⟩ := hSw; go_simp; try with_reducible rfl
      change wpAnyH _ _ _ _ _ _ _ (Act.put _ (some 15) _) _
      simp only [Act.put, List.setIfInBounds_toArray, List.set_cons_zero, List.set_cons_succ]
      refine wpAnyH_take (i := 3) (v := ?_) rfl (by kernel_rfl) (by kernel_rfl) (by kernel_rfl) (fun _ _ _ h => h) (Or.inl ⟨by rfl, ?_⟩) hHeld ?_
      rotate_left 1
      · intro w9 hSw; obtain ⟨g0, g1⟩ := hSw; go_simp; try with_reducible rfl
      change wpAnyH _ _ _ _ _ _ _ (Act.put _ (some 16) _) _
      simp only [Act.put, List.setIfInBounds_toArray, List.set_cons_zero, List.set_cons_succ]
      refine wpAnyH_take (i := 4) (v := ?_) rfl (by kernel_rfl) (by kernel_rfl) (by kernel_rfl) (fun _ _ _ h => h) (Or.inl ⟨by rfl, ?_⟩) hHeld ?_
      rotate_left 1
      · intro w9 hSw; obtain ⟨g0, g1⟩ := hSw; go_simp; try with_reducible rfl
      change wpAnyH _ _ _ _ _ _ _ (Act.put _ (some 17) _) _
      simp only [Act.put, List.setIfInBounds_toArray, List.set_cons_zero, List.set_cons_succ]
      refine wpAnyH_take (i := 5) (v := ?_) rfl (by kernel_rfl) (by kernel_rfl) (by kernel_rfl) (fun _ _ _ h => h) (Or.inl ⟨by rfl, ?_⟩) hHeld ?_
      rotate_left 1
      · intro w9 hSw; obtain ⟨g0, g1⟩ := hSw; go_simp; try with_reducible rfl
      change wpAnyH _ _ _ _ _ _ _ (Act.put _ (some 18) _) _
      simp only [Act.put, List.setIfInBounds_toArray, List.set_cons_zero, List.set_cons_succ]
      refine wpAnyH_take (i := 6) (v := ?_) rfl (by kernel_rfl) (by kernel_rfl) (by kernel_rfl) (fun _ _ _ h => h) (Or.inl ⟨by rfl, ?_⟩) hHeld ?_
      rotate_left 1
      · intro w9 hSw; obtain ⟨g0, g1⟩ := hSw; go_simp; try with_reducible rfl
      change wpAnyH _ _ _ _ _ _ _ (Act.put _ (some 19) _) _
      simp only [Act.put, List.setIfInBounds_toArray, List.set_cons_zero, List.set_cons_succ]
      refine wpAnyH_take (i := 7) (v := ?_) rfl (by kernel_rfl) (by kernel_rfl) (by kernel_rfl) (fun _ _ _ h => h) (Or.inl ⟨by rfl, ?_⟩) hHeld ?_
      rotate_left 1
      · intro w9 hSw; obtain ⟨g0, g1⟩ := hSw; go_simp; try with_reducible rfl
      change wpAnyH _ _ _ _ _ _ _ (Act.put _ (some 20) _) _
      simp only [Act.put, List.setIfInBounds_toArray, List.set_cons_zero, List.set_cons_succ]
      refine wpAnyH_take (i := 8) (v := ?_) rfl (by kernel_rfl) (by kernel_rfl) (by kernel_rfl) (fun _ _ _ h => h) (Or.inl ⟨by rfl, ?_⟩) hHeld ?_
      rotate_left 1
      · intro w9 hSw; obtain ⟨g0, g1⟩ := hSw; go_simp; try with_reducible rfl
      change wpAnyH _ _ _ _ _ _ _ (Act.put _ (some 21) _) _
      simp only [Act.put, List.setIfInBounds_toArray, List.set_cons_zero, List.set_cons_succ]
      refine wpAnyH_take (i := 9) (v := ?_) rfl (by kernel_rfl) (by kernel_rfl) (by kernel_rfl) (fun _ _ _ h => h) (Or.inl ⟨by rfl, ?_⟩) hHeld ?_
      rotate_left 1
      · intro w9 hSw; obtain ⟨g0, g1⟩ := hSw; go_simp; try with_reducible rfl
      change wpAnyH _ _ _ _ _ _ _ (Act.put _ (some 22) _) _
      simp only [Act.put, List.setIfInBounds_toArray, List.set_cons_zero, List.set_cons_succ]
      refine wpAnyH_take (i := 10) (v := ?_) rfl (by kernel_rfl) (by kernel_rfl) (by kernel_rfl) (fun _ _ _ h => h) (Or.inl ⟨by rfl, ?_⟩) hHeld ?_
      rotate_left 1
      · intro w9 hSw; obtain ⟨g0, g1⟩ := hSw; go_simp; try with_reducible rfl
      change wpAnyH _ _ _ _ _ _ _ (Act.put _ (some 23) _) _
      simp only [Act.put, List.setIfInBounds_toArray, List.set_cons_zero, List.set_cons_succ]
      obtain ⟨v1, hv1⟩ : ∃ v1, v1 = v0.alloc (.cells #[.string ⟨#[]⟩, .int .i64 0, .slice none 0 0] 49) := ⟨_, rfl⟩
      have E1 : Hid (Below v0.heap.size v0 v1) := by show Below _ _ _; rw [hv1]; exact al_f _ _
      have hn1 : v1.heap[v0.heap.size]? = some (.cells #[.string ⟨#[]⟩, .int .i64 0, .slice none 0 0] 49 (0, 0)) := by rw [hv1]; exact nw_at _ _
      have hs1 : v1.heap.size = v0.heap.size + 1 := by rw [hv1]; simp
      have Hn1 : Hid (v1.heap[v0.heap.size]? = some (.cells #[.string ⟨#[]⟩, .int .i64 0, .slice none 0 0] 49 (0, 0))) := hn1
      have Hs1 : Hid (v1.heap.size = v0.heap.size + 1) := hs1
      clear hn1 hs1
      refine wpAnyH_ready (rs := [11]) (by kernel_rfl) (by simp) ?_
      refine AllReadyH.cons rfl (fun K hK => ?_) AllReadyH.nil
      go_simp
      rw [← hv1]
      clear hv1
      refine hK.out _ _ ⟨(HQ.out _ (bT HBw.out E1.out)).1, (HQ.out _ (bT HBw.out E1.out)).2.1⟩ (fun hHeld => ?_)
      clear hK K
      obtain ⟨pb, hpb⟩ : ∃ pb, pb = v0.heap.size := ⟨_, rfl⟩
      have hk := Hn1.out
      have m0 : v1.cell? ⟨v0.heap.size, 0, none⟩ = some (.string ⟨#[]⟩) := by rw [Lib.cell_of_heap hk]; rfl
      have m1 : v1.cell? ⟨v0.heap.size, 1, none⟩ = some (.int .i64 0) := by rw [Lib.cell_of_heap hk]; rfl
      have m2 : v1.cell? ⟨v0.heap.size, 2, none⟩ = some (.slice none 0 0) := by rw [Lib.cell_of_heap hk]; rfl
      have mf : ∀ t, v1.frozen? ⟨v0.heap.size, t, none⟩ = false := fun t => Lib.frozen_of_heap hk t
      clear hk
      obtain ⟨wi, hwi⟩ : ∃ wi, wi = ((v1.setCell ⟨v0.heap.size, 0, none⟩ (.string n)).setCell ⟨v0.heap.size, 1, none⟩ (.int .i64 o)).setCell ⟨v0.heap.size, 2, none⟩ (.slice none 0 0) := ⟨_, rfl⟩
      have HPi : Hid (wi.heap[v0.heap.size]? = some (.cells #[.string n, .int .i64 o, .slice none 0 0] 49 (0, 0))) := by
        show _ = _
        rw [hwi]
        exact heap_st (heap_st (heap_st Hn1.out 0 (.string n)) 1 (.int .i64 o)) 2 (.slice none 0 0)
      have HBi : Hid (Below v0.heap.size v0 wi) := by
        show Below _ _ _
        rw [hwi]
        exact ((E1.out.setCell (p := ⟨v0.heap.size, 0, none⟩) (Nat.le_refl _) _).setCell (p := ⟨v0.heap.size, 1, none⟩) (Nat.le_refl _) _).setCell (p := ⟨v0.heap.size, 2, none⟩) (Nat.le_refl _) _
      have Hsi : Hid (wi.heap.size = v0.heap.size + 1) := by
        show _ = _
        rw [hwi]
        simpa [World.setCell] using Hs1.out
      refine wpAnyH_ready (rs := [12]) (by kernel_rfl) (by simp) ?_
      refine AllReadyH.cons rfl (fun K hK => ?_) AllReadyH.nil
      go_simp
      rw [← hwi]
      refine hK.out _ _ ⟨(HQ.out _ (bT HBw.out HBi.out)).1, (HQ.out _ (bT HBw.out HBi.out)).2.1⟩ (fun hHeld => ?_)
      clear hK K m0 m1 m2 mf hwi
      refine wpAnyH_done (by kernel_rfl) ?_ _
      clear hHeld E1 Hn1 Hs1 hpb
      generalize hpb : v0.heap.size = pb at *
      have HBo : Hid (Below wo.heap.size wo v0) := HBd.out
      have HPb : Hid (v0.heap.size = pb) := hpb
      clear hpb HBd
      go_wp2_with fail
      go_loopw [6] (fun k wr => ∃ (m : Nat) (p : Option Addr) (q : Nat), m ≤ l.length ∧ k = .int .i64 (m : Int) ∧ Hid (wr.ownsRow wi.heap.size 67 3 (.slice p m q) m (itCells (l.take m))) ∧ Hid (wr.heap[pb]? = some (.cells #[.string n, .int .i64 o, .slice p m q] 49 (0, 0))) ∧ Hid (Sr pb wi wr)) (fun k _ => l.length - (intOf k).toNat)
      case atStart => exact ⟨0, none, 0, Nat.zero_le _, rfl, World.ownsRow_nil _ _ _ _, HPi.out, Sr.refl _ _⟩
      case round =>
        obtain ⟨m, p, q, hm, rfl, HO2, HP2, HS2⟩ := hrel
        have HBr : Hid (Below v0.heap.size v0 wr) := by show Below _ _ _; rw [HPb.out]; exact HBi.out.trans (HS2.out.below (by rw [Hsi.out]; exact Nat.le_succ _) (Nat.le_refl _))
        have HBwr : Hid (Below w.heap.size w wr) := bT HBw.out HBr.out
        by_cases hlm : m < l.length
        · have dm : decide ((m : Int) < (l.length : Int)) = true := by simp; omega
          have q3 : (0 : Int) ≤ (m : Int) := by omega
          have q4 : (m : Int) < (l.length : Int) := by omega
          obtain ⟨b1, o1, rfl, hlt, c0', c1', c2'⟩ := items_at (HV.out w (Below.refl _ _)) m hlm
          have HY : Hid (∀ W, Below w.heap.size w W → W.cell? ⟨b, off + j * 3 + 2, none⟩ = some (.slice (some ⟨b1, o1, none⟩) l.length c) ∧ W.cell? ⟨b1, o1 + m * 3, none⟩ = some (.int .i64 l[m].k) ∧ W.cell? ⟨b1, o1 + m * 3 + 1, none⟩ = some (.int .i64 l[m].n) ∧ W.cell? ⟨b1, o1 + m * 3 + 2, none⟩ = some (.string l[m].s)) := fun W hb => ⟨(HQ.out W hb).2.2, (hb.cell (p := ⟨b1, _, none⟩) hlt).trans c0', (hb.cell (p := ⟨b1, _, none⟩) hlt).trans c1', (hb.cell (p := ⟨b1, _, none⟩) hlt).trans c2'⟩
          have HIt : Hid (itCells (l.take (m + 1)) = itCells (l.take m) ++ It.cells l[m]) := it_take l m hlm
          clear hlt c0' c1' c2'
          generalize l[m] = y at *
          obtain ⟨yk, yn, ys⟩ := y
          dsimp only at HY
          have cl := (HY.out wr HBwr.out).1
          have HBd : Hid (Below wr.heap.size wr wr.drew) := (Below.refl _ _).drew
          have HSd : Hid (Sr pb wi wr.drew) := HS2.out.drew
          have HBwd : Hid (Below w.heap.size w wr.drew) := HBwr.out.drew
          have hpd : wr.drew.heap[pb]? = some (.cells #[.string n, .int .i64 o, .slice p m q] 49 (0, 0)) := HP2.out
          have HPd : Hid (wr.drew.heap[pb]? = some (.cells #[.string n, .int .i64 o, .slice p m q] 49 (0, 0))) := hpd
          have HOd : Hid (wr.drew.ownsRow wi.heap.size 67 3 (.slice p m q) m (itCells (l.take m))) := own_belowE HO2.out HBd.out
          clear hpd HP2 HO2 HS2
          go_wp2_with fail
          clear cl
          refine wp_region_held_drew (S := fun w' => w'.cell? ⟨b, off + j * 3 + 2, none⟩ = some (.slice (some ⟨b1, o1, none⟩) l.length c) ∧ w'.cell? ⟨b1, o1 + m * 3, none⟩ = some (.int .i64 yk) ∧ w'.cell? ⟨b1, o1 + m * 3 + 1, none⟩ = some (.int .i64 yn) ∧ w'.cell? ⟨b1, o1 + m * 3 + 2, none⟩ = some (.string ys)) (by kernel_rfl) (HY.out _ HBwd.out) (fun hHeld => ?_)
          generalize hw0 : wr.drew = u0 at *
          clear hw0
          refine wpAnyH_take (i := 0) (v := ?_) rfl (by kernel_rfl) (by kernel_rfl) (by kernel_rfl) (fun _ _ _ h => h) (Or.inl ⟨by rfl, ?_⟩) hHeld ?_
          rotate_left 1
          · intro w9 hSw; obtain ⟨g0, g1, g2, g3⟩ := hSw; go_simp; try with_reducible rfl
          change wpAnyH _ _ _ _ _ _ _ (Act.put _ (some 34) _) _
          simp only [Act.put, List.setIfInBounds_toArray, List.set_cons_zero, List.set_cons_succ]
          refine wpAnyH_take (i := 2) (v := ?_) rfl (by kernel_rfl) (by kernel_rfl) (by kernel_rfl) (fun _ _ _ h => h) (Or.inl ⟨by rfl, ?_⟩) hHeld ?_
          rotate_left 1
          · intro w9 hSw; obtain ⟨g0, g1, g2, g3⟩ := hSw; go_simp; try with_reducible rfl
          change wpAnyH _ _ _ _ _ _ _ (Act.put _ (some 36) _) _
          simp only [Act.put, List.setIfInBounds_toArray, List.set_cons_zero, List.set_cons_succ]
          refine wpAnyH_take (i := 3) (v := ?_) rfl (by kernel_rfl) (by kernel_rfl) (by kernel_rfl) (fun _ _ _ h => h) (Or.inl ⟨by rfl, ?_⟩) hHeld ?_
          rotate_left 1
          · intro w9 hSw; obtain ⟨g0, g1, g2, g3⟩ := hSw; go_simp; try with_reducible rfl
          change wpAnyH _ _ _ _ _ _ _ (Act.put _ (some 37) _) _
          simp only [Act.put, List.setIfInBounds_toArray, List.set_cons_zero, List.set_cons_succ]
          refine wpAnyH_take (i := 4) (v := ?_) rfl (by kernel_rfl) (by kernel_rfl) (by kernel_rfl) (fun _ _ _ h => h) (Or.inl ⟨by rfl, ?_⟩) hHeld ?_
          rotate_left 1
          · intro w9 hSw; obtain ⟨g0, g1, g2, g3⟩ := hSw; go_simp; try with_reducible rfl
          change wpAnyH _ _ _ _ _ _ _ (Act.put _ (some 38) _) _
          simp only [Act.put, List.setIfInBounds_toArray, List.set_cons_zero, List.set_cons_succ]
          refine wpAnyH_take (i := 5) (v := ?_) rfl (by kernel_rfl) (by kernel_rfl) (by kernel_rfl) (fun _ _ _ h => h) (Or.inl ⟨by rfl, ?_⟩) hHeld ?_
          rotate_left 1
          · intro w9 hSw; obtain ⟨g0, g1, g2, g3⟩ := hSw; go_simp; try with_reducible rfl
          change wpAnyH _ _ _ _ _ _ _ (Act.put _ (some 39) _) _
          simp only [Act.put, List.setIfInBounds_toArray, List.set_cons_zero, List.set_cons_succ]
          refine wpAnyH_take (i := 6) (v := ?_) rfl (by kernel_rfl) (by kernel_rfl) (by kernel_rfl) (fun _ _ _ h => h) (Or.inl ⟨by rfl, ?_⟩) hHeld ?_
          rotate_left 1
          · intro w9 hSw; obtain ⟨g0, g1, g2, g3⟩ := hSw; go_simp; try with_reducible rfl
          change wpAnyH _ _ _ _ _ _ _ (Act.put _ (some 40) _) _
          simp only [Act.put, List.setIfInBounds_toArray, List.set_cons_zero, List.set_cons_succ]
          refine wpAnyH_take (i := 7) (v := ?_) rfl (by kernel_rfl) (by kernel_rfl) (by kernel_rfl) (fun _ _ _ h => h) (Or.inl ⟨by rfl, ?_⟩) hHeld ?_
          rotate_left 1
          · intro w9 hSw; obtain ⟨g0, g1, g2, g3⟩ := hSw; go_simp; try with_reducible rfl
          change wpAnyH _ _ _ _ _ _ _ (Act.put _ (some 41) _) _
          simp only [Act.put, List.setIfInBounds_toArray, List.set_cons_zero, List.set_cons_succ]
          refine wpAnyH_take (i := 8) (v := ?_) rfl (by kernel_rfl) (by kernel_rfl) (by kernel_rfl) (fun _ _ _ h => h) (Or.inl ⟨by rfl, ?_⟩) hHeld ?_
          rotate_left 1
          · intro w9 hSw; obtain ⟨g0, g1, g2, g3⟩ := hSw; go_simp; try with_reducible rfl
          change wpAnyH _ _ _ _ _ _ _ (Act.put _ (some 42) _) _
          simp only [Act.put, List.setIfInBounds_toArray, List.set_cons_zero, List.set_cons_succ]
          refine wpAnyH_take (i := 9) (v := ?_) rfl (by kernel_rfl) (by kernel_rfl) (by kernel_rfl) (fun _ _ _ h => h) (Or.inl ⟨by rfl, ?_⟩) hHeld ?_
          rotate_left 1
          · intro w9 hSw; obtain ⟨g0, g1, g2, g3⟩ := hSw; go_simp; try with_reducible rfl
          change wpAnyH _ _ _ _ _ _ _ (Act.put _ (some 43) _) _
          simp only [Act.put, List.setIfInBounds_toArray, List.set_cons_zero, List.set_cons_succ]
          obtain ⟨u1, hu1⟩ : ∃ u1, u1 = u0.alloc (.cells #[.int .i64 yk, .int .i64 yn, .string ys] 67) := ⟨_, rfl⟩
          have E1 : Hid (Below u0.heap.size u0 u1) := by show Below _ _ _; rw [hu1]; exact al_f _ _
          have hn1 : u1.heap[u0.heap.size]? = some (.cells #[.int .i64 yk, .int .i64 yn, .string ys] 67 (0, 0)) := by rw [hu1]; exact nw_at _ _
          have Hn1 : Hid (u1.heap[u0.heap.size]? = some (.cells #[.int .i64 yk, .int .i64 yn, .string ys] 67 (0, 0))) := hn1
          have HBw1 : Hid (Below w.heap.size w u1) := bT HBwd.out E1.out
          have HP1 : Hid (u1.heap[pb]? = some (.cells #[.string n, .int .i64 o, .slice p m q] 49 (0, 0))) := (E1.out.block _ (Array.getElem?_eq_some_iff.1 HPd.out).1).trans HPd.out
          have HO1 : Hid (u1.ownsRow wi.heap.size 67 3 (.slice p m q) m (itCells (l.take m))) := own_belowE HOd.out E1.out
          have HS1 : Hid (Sr pb wi u1) := HSd.out.trans (Sr.of E1.out)
          have hsz1 : wi.heap.size ≤ u1.heap.size := HS1.out.size
          clear hn1
          have ka : u0.cell? ⟨pb, 2, none⟩ = some (.slice p m q) := by rw [Lib.cell_of_heap HPd.out]; rfl
          have kb : u1.cell? ⟨pb, 2, none⟩ = some (.slice p m q) := by rw [Lib.cell_of_heap HP1.out]; rfl
          refine wpAnyH_ready (rs := [1, 10]) (by kernel_rfl) (by simp) ?_
          refine AllReadyH.cons rfl (fun K hK => ?_) (AllReadyH.cons rfl (fun K hK => ?_) AllReadyH.nil)
          · go_simp
            refine hK.out _ _ hHeld (fun hHeld => ?_)
            clear hK K ka kb
            refine wpAnyH_ready (rs := [10]) (by kernel_rfl) (by simp) ?_
            refine AllReadyH.cons rfl (fun K hK => ?_) AllReadyH.nil
            go_simp
            rw [← hu1]
            clear hu1
            refine hK.out _ _ (HY.out _ HBw1.out) (fun hHeld => ?_)
            clear hK K
            refine wpAnyH_ready (rs := [11]) (by kernel_rfl) (by simp) ?_
            refine AllReadyH.cons rfl (fun K hK => ?_) AllReadyH.nil
            refine step_append_lies u1 rfl (.tmp 35) (.tmp 44) 47 rfl wi.heap.size 67 i3 _ 3 32 Tryz.underlying47 hi3 hz3 hz4 hz5 rfl (by decide) (.slice p m q) m (itCells (l.take m)) rfl HO1.out ⟨u0.heap.size, 0, none⟩ 1 1 [.int .i64 yk, .int .i64 yn, .string ys] rfl rfl (World.news_of_block (cs := #[.int .i64 yk, .int .i64 yn, .string ys]) (t := 67) (fr := (0, 0)) Hn1.out) (by intro u hu; simp at hu; rcases hu with rfl | rfl | rfl <;> rfl) (by decide) (by unfold maxLen; omega) (by omega) hsz1 u1.heap.size rfl ?_
            intro gg cap u2 hown hgr hat hlt2
            have HB12 : Hid (Below wi.heap.size u1 u2) := (Below.refl _ _).grown hgr hsz1 (fun k hk => (HO1.out.lt k hk).1)
            have Hown : Hid (u2.ownsRow wi.heap.size 67 3 (.slice (some ⟨gg, 0, none⟩) (m + 1) cap) (m + 1) (itCells (l.take (m + 1)))) := by show World.ownsRow _ _ _ _ _ _ _; rw [HIt.out]; exact hown
            have hlp : pb < wi.heap.size := by rw [Hsi.out]; exact Nat.lt_succ_self _
            have HP2 : Hid (u2.heap[pb]? = some (.cells #[.string n, .int .i64 o, .slice p m q] 49 (0, 0))) := (HB12.out.block _ hlp).trans HP1.out
            have HS12 : Hid (Sr pb wi u2) := ⟨HB12.out.os.trans HS1.out.os, HB12.out.tape.trans HS1.out.tape, HB12.out.output.trans HS1.out.output, Nat.le_trans hsz1 HB12.out.size, fun k hk hne => (HB12.out.block k hk).trans (HS1.out.block k hk hne)⟩
            have HBw2 : Hid (Below w.heap.size w u2) := by
              have h1 : w.heap.size ≤ wi.heap.size := Nat.le_trans HBw.out.size HBi.out.size
              exact HBw1.out.trans (HB12.out.mono h1)
            have HZp : Hid (pb < wi.heap.size) := hlp
            clear hown hgr hat hlt2 hlp
            refine hK.out _ _ (HY.out _ HBw2.out) (fun hHeld => ?_)
            clear hK K
            change wpAnyH _ _ _ _ _ _ _ (Act.put _ (some 45) _) _
            simp only [Act.put, List.setIfInBounds_toArray, List.set_cons_zero, List.set_cons_succ]
            refine wpAnyH_take (i := 12) (v := ?_) rfl (by kernel_rfl) (by kernel_rfl) (by kernel_rfl) (fun _ _ _ h => h) (Or.inl ⟨by rfl, ?_⟩) hHeld ?_
            rotate_left 1
            · intro w9 hSw; obtain ⟨g0, g1, g2, g3⟩ := hSw; go_simp; try with_reducible rfl
            change wpAnyH _ _ _ _ _ _ _ (Act.put _ (some 46) _) _
            simp only [Act.put, List.setIfInBounds_toArray, List.set_cons_zero, List.set_cons_succ]
            have hk := HP2.out
            have m2 : u2.cell? ⟨pb, 2, none⟩ = some (.slice p m q) := by rw [Lib.cell_of_heap hk]; rfl
            have mf : ∀ t, u2.frozen? ⟨pb, t, none⟩ = false := fun t => Lib.frozen_of_heap hk t
            clear hk
            obtain ⟨u3, hu3⟩ : ∃ u3, u3 = u2.setCell ⟨pb, 2, none⟩ (.slice (some ⟨gg, 0, none⟩) (m + 1) cap) := ⟨_, rfl⟩
            have HP3 : Hid (u3.heap[pb]? = some (.cells #[.string n, .int .i64 o, .slice (some ⟨gg, 0, none⟩) (m + 1) cap] 49 (0, 0))) := by show _ = _; rw [hu3]; exact heap_st HP2.out 2 _
            have HS3 : Hid (Sr pb wi u3) := by show Sr _ _ _; rw [hu3]; exact HS12.out.set (.inl rfl) 2 _
            have HO3 : Hid (u3.ownsRow wi.heap.size 67 3 (.slice (some ⟨gg, 0, none⟩) (m + 1) cap) (m + 1) (itCells (l.take (m + 1)))) := by show World.ownsRow _ _ _ _ _ _ _; rw [hu3]; exact own_sr Hown.out ((Sr.refl pb u2).set (.inl rfl) 2 _) HZp.out
            have HBw3 : Hid (Below w.heap.size w u3) := bT HBw.out (by rw [HPb.out]; exact HBi.out.trans (HS3.out.below (by rw [Hsi.out]; exact Nat.le_succ _) (Nat.le_refl _)))
            refine wpAnyH_ready (rs := [13]) (by kernel_rfl) (by simp) ?_
            refine AllReadyH.cons rfl (fun K hK => ?_) AllReadyH.nil
            go_simp
            rw [← hu3]
            clear hu3
            refine hK.out _ _ (HY.out _ HBw3.out) (fun hHeld => ?_)
            clear hK K m2 mf
            refine wpAnyH_done (by kernel_rfl) ?_ _
            clear hHeld HY HIt HBd HSd HPd HOd E1 Hn1 HBw1 HP1 HO1 HS1 hsz1 HB12 Hown HP2 HS12 HBw2
            go_wp2
            go_roundw
            case rel => exact ⟨m + 1, _, _, by omega, by simp, HO3.out, HP3.out, HS3.out⟩
            case measure => simp [intOf]; omega
          · go_simp
            rw [← hu1]
            clear hu1
            refine hK.out _ _ (HY.out _ HBw1.out) (fun hHeld => ?_)
            clear hK K ka
            refine wpAnyH_ready (rs := [1]) (by kernel_rfl) (by simp) ?_
            refine AllReadyH.cons rfl (fun K hK => ?_) AllReadyH.nil
            go_simp
            refine hK.out _ _ hHeld (fun hHeld => ?_)
            clear hK K kb
            refine wpAnyH_ready (rs := [11]) (by kernel_rfl) (by simp) ?_
            refine AllReadyH.cons rfl (fun K hK => ?_) AllReadyH.nil
            refine step_append_lies u1 rfl (.tmp 35) (.tmp 44) 47 rfl wi.heap.size 67 i3 _ 3 32 Tryz.underlying47 hi3 hz3 hz4 hz5 rfl (by decide) (.slice p m q) m (itCells (l.take m)) rfl HO1.out ⟨u0.heap.size, 0, none⟩ 1 1 [.int .i64 yk, .int .i64 yn, .string ys] rfl rfl (World.news_of_block (cs := #[.int .i64 yk, .int .i64 yn, .string ys]) (t := 67) (fr := (0, 0)) Hn1.out) (by intro u hu; simp at hu; rcases hu with rfl | rfl | rfl <;> rfl) (by decide) (by unfold maxLen; omega) (by omega) hsz1 u1.heap.size rfl ?_
            intro gg cap u2 hown hgr hat hlt2
            have HB12 : Hid (Below wi.heap.size u1 u2) := (Below.refl _ _).grown hgr hsz1 (fun k hk => (HO1.out.lt k hk).1)
            have Hown : Hid (u2.ownsRow wi.heap.size 67 3 (.slice (some ⟨gg, 0, none⟩) (m + 1) cap) (m + 1) (itCells (l.take (m + 1)))) := by show World.ownsRow _ _ _ _ _ _ _; rw [HIt.out]; exact hown
            have hlp : pb < wi.heap.size := by rw [Hsi.out]; exact Nat.lt_succ_self _
            have HP2 : Hid (u2.heap[pb]? = some (.cells #[.string n, .int .i64 o, .slice p m q] 49 (0, 0))) := (HB12.out.block _ hlp).trans HP1.out
            have HS12 : Hid (Sr pb wi u2) := ⟨HB12.out.os.trans HS1.out.os, HB12.out.tape.trans HS1.out.tape, HB12.out.output.trans HS1.out.output, Nat.le_trans hsz1 HB12.out.size, fun k hk hne => (HB12.out.block k hk).trans (HS1.out.block k hk hne)⟩
            have HBw2 : Hid (Below w.heap.size w u2) := by
              have h1 : w.heap.size ≤ wi.heap.size := Nat.le_trans HBw.out.size HBi.out.size
              exact HBw1.out.trans (HB12.out.mono h1)
            have HZp : Hid (pb < wi.heap.size) := hlp
            clear hown hgr hat hlt2 hlp
            refine hK.out _ _ (HY.out _ HBw2.out) (fun hHeld => ?_)
            clear hK K
            change wpAnyH _ _ _ _ _ _ _ (Act.put _ (some 45) _) _
            simp only [Act.put, List.setIfInBounds_toArray, List.set_cons_zero, List.set_cons_succ]
            refine wpAnyH_take (i := 12) (v := ?_) rfl (by kernel_rfl) (by kernel_rfl) (by kernel_rfl) (fun _ _ _ h => h) (Or.inl ⟨by rfl, ?_⟩) hHeld ?_
            rotate_left 1
            · intro w9 hSw; obtain ⟨g0, g1, g2, g3⟩ := hSw; go_simp; try with_reducible rfl
            change wpAnyH _ _ _ _ _ _ _ (Act.put _ (some 46) _) _
            simp only [Act.put, List.setIfInBounds_toArray, List.set_cons_zero, List.set_cons_succ]
            have hk := HP2.out
            have m2 : u2.cell? ⟨pb, 2, none⟩ = some (.slice p m q) := by rw [Lib.cell_of_heap hk]; rfl
            have mf : ∀ t, u2.frozen? ⟨pb, t, none⟩ = false := fun t => Lib.frozen_of_heap hk t
            clear hk
            obtain ⟨u3, hu3⟩ : ∃ u3, u3 = u2.setCell ⟨pb, 2, none⟩ (.slice (some ⟨gg, 0, none⟩) (m + 1) cap) := ⟨_, rfl⟩
            have HP3 : Hid (u3.heap[pb]? = some (.cells #[.string n, .int .i64 o, .slice (some ⟨gg, 0, none⟩) (m + 1) cap] 49 (0, 0))) := by show _ = _; rw [hu3]; exact heap_st HP2.out 2 _
            have HS3 : Hid (Sr pb wi u3) := by show Sr _ _ _; rw [hu3]; exact HS12.out.set (.inl rfl) 2 _
            have HO3 : Hid (u3.ownsRow wi.heap.size 67 3 (.slice (some ⟨gg, 0, none⟩) (m + 1) cap) (m + 1) (itCells (l.take (m + 1)))) := by show World.ownsRow _ _ _ _ _ _ _; rw [hu3]; exact own_sr Hown.out ((Sr.refl pb u2).set (.inl rfl) 2 _) HZp.out
            have HBw3 : Hid (Below w.heap.size w u3) := bT HBw.out (by rw [HPb.out]; exact HBi.out.trans (HS3.out.below (by rw [Hsi.out]; exact Nat.le_succ _) (Nat.le_refl _)))
            refine wpAnyH_ready (rs := [13]) (by kernel_rfl) (by simp) ?_
            refine AllReadyH.cons rfl (fun K hK => ?_) AllReadyH.nil
            go_simp
            rw [← hu3]
            clear hu3
            refine hK.out _ _ (HY.out _ HBw3.out) (fun hHeld => ?_)
            clear hK K m2 mf
            refine wpAnyH_done (by kernel_rfl) ?_ _
            clear hHeld HY HIt HBd HSd HPd HOd E1 Hn1 HBw1 HP1 HO1 HS1 hsz1 HB12 Hown HP2 HS12 HBw2
            go_wp2
            go_roundw
            case rel => exact ⟨m + 1, _, _, by omega, by simp, HO3.out, HP3.out, HS3.out⟩
            case measure => simp [intOf]; omega
        · obtain rfl : m = l.length := by omega
          have dm : decide ((l.length : Int) < (l.length : Int)) = false := by simp
          have cl := (HQ.out wr HBwr.out).2.2
          obtain ⟨w7, rfl⟩ : ∃ w7, w7 = wr := ⟨_, rfl⟩
          have HRl : Hid (IsRow w7 3 (.slice p l.length q) l.length (itCells l)) := by
            have h0 := IsRow.own HO2.out
            rw [List.take_of_length_le (Nat.le_refl _)] at h0
            exact h0
          have HFr : Hid (FrA wi.heap.size p) := own_fra HO2.out
          have Ho7 : Hid (Below wo.heap.size wo w7) := bT HBo.out HBr.out
          have HO7 : Hid (w7.ownsRow w.heap.size 49 3 (.slice ua j uc) j (pCells G)) := own_belowE HO.out Ho7.out
          have HE7 : Hid (∀ x ∈ G, ElOk w.heap.size (Value.slice ua j uc).ownBlock w7 x) := fun x hx => (HE.out x hx).bel Ho7.out
          have HOb : Hid (∀ g, (Value.slice ua j uc).ownBlock = some g → w.heap.size ≤ g ∧ g < wo.heap.size) := fun g hg => HO.out.lt g hg
          have hs1 : wo.heap.size ≤ wi.heap.size := Nat.le_trans HBo.out.size HBi.out.size
          have hs2 : w.heap.size < wi.heap.size := by rw [Hsi.out, ← HPb.out]; exact Nat.lt_succ_of_le HBw.out.size
          have HEn7 : Hid (ElOk w.heap.size (Value.slice ua j uc).ownBlock w7 ⟨⟨n, o, l⟩, p, q⟩) := ElOk.new (y := ⟨n, o, l⟩) HRl.out HFr.out hs2 (fun g hg => Nat.lt_of_lt_of_le (HOb.out g hg).2 hs1)
          have hle7 : w.heap.size ≤ w7.heap.size := HBwr.out.size
          have hk := HP2.out
          have k0 : w7.cell? ⟨pb, 0, none⟩ = some (.string n) := by rw [Lib.cell_of_heap hk]; rfl
          have k1 : w7.cell? ⟨pb, 1, none⟩ = some (.int .i64 o) := by rw [Lib.cell_of_heap hk]; rfl
          have k2 : w7.cell? ⟨pb, 2, none⟩ = some (.slice p l.length q) := by rw [Lib.cell_of_heap hk]; rfl
          clear hk HRl HFr HO2 HP2 HS2 HBr HO HE hs1 hs2 HQ HV
          go_wp2_with (at_builtin; go_loud (refine wpList_append_lies _ rfl (.tmp 47) (.tmp 49) 28 rfl w.heap.size 49 i0 _ 3 48 Tryz.underlying28 hi0 hz0 hz1 hz2 rfl (by decide) (.slice ua j uc) j (pCells G) rfl (HO7.out.alloc _) ⟨w7.heap.size, 0, none⟩ 1 1 [.string n, .int .i64 o, .slice p l.length q] rfl rfl (World.news_of_block (cs := #[.string n, .int .i64 o, .slice p l.length q]) (t := 49) (fr := (0, 0)) (nw_at w7 _)) (by intro u hu; simp at hu; rcases hu with rfl | rfl | rfl <;> rfl) (by omega) (by unfold maxLen; omega) (by omega) (by simp; omega) (w7.heap.size + 1) (by simp) ?_); intro gg cap wa hown hgr hat hlt)
          have HO8 : Hid (wa.ownsRow w.heap.size 49 3 (.slice (some ⟨gg, 0, none⟩) (j + 1) cap) (j + 1) (pCells (G ++ [⟨⟨n, o, l⟩, p, q⟩]))) := by
            show World.ownsRow _ _ _ _ _ _ _
            rw [pCells_snoc]
            exact hown
          have hat' : (Value.slice ua j uc).ownBlock = some gg ∨ gg = (w7.alloc (.cells #[.string n, .int .i64 o, .slice p l.length q] 49)).heap.size := by
            rcases hat with q | q
            · exact .inl q
            · exact .inr (by rw [q]; simp)
          have HE8 : Hid (∀ x ∈ G ++ [⟨⟨n, o, l⟩, p, q⟩], ElOk w.heap.size (some gg) wa x) := fun x hx => by
            have h9 : ElOk w.heap.size (Value.slice ua j uc).ownBlock w7 x := by
              rcases List.mem_append.1 hx with hx | hx
              · exact HE7.out x hx
              · have e := List.mem_singleton.1 hx
                subst e
                exact HEn7.out
            exact (h9.bel (al_f w7 _)).grown hgr hat'
          have HB8 : Hid (Below w.heap.size w wa) := (bT HBwr.out (al_f w7 _)).grown hgr (by simp; omega) (fun k hk => (HOb.out k hk).1)
          have HM8 : Hid ((G ++ [(⟨⟨n, o, l⟩, p, q⟩ : PR)]).map (·.y) = (F.take (j + 1)).map (·.y)) := by
            show _ = _
            rw [HM1.out, List.map_append, HM.out]
            rfl
          have HL8 : Hid ((G ++ [(⟨⟨n, o, l⟩, p, q⟩ : PR)]).length = j + 1) := by show _ = _; rw [List.length_append, HGl.out]; rfl
          clear hown hgr hat hat' hlt hle7 HE7 HEn7 HO7 HOb k0 k1 k2 cl dm
          generalize G ++ [(⟨⟨n, o, l⟩, p, q⟩ : PR)] = GG at *
          go_wp2
          go_roundw
          case rel => exact ⟨j + 1, GG, by omega, by simp, HO8.out, HL8.out, HM8.out, HE8.out, HB8.out⟩
          case measure => simp [intOf]; omega
    · obtain rfl : j = F.length := by omega
      have dj : decide ((F.length : Int) < (F.length : Int)) = false := by simp
      have hfin : R8P D w (.returned (.slice ua F.length uc)) wo := by
        have e := HGl.out
        have h0 := IsRow.own HO.out
        have hM := HM.out
        rw [List.take_of_length_le (Nat.le_refl _), HD.out] at hM
        refine ⟨ua, uc, G, by rw [e], ⟨?_, fun x hx => (HE.out x hx).1⟩, hM, HB.out⟩
        rw [e]
        exact h0
      have HX : Hid (R8P D w (.returned (.slice ua F.length uc)) wo) := hfin
      clear hfin HO HE HM HGl HB HR HLl HD
      go_wp2
      go_ret
      exact HX.out
end Go.Proofs.YtbekpemidpngaaaGreatDoor
/- The reference's Same of fields: its walk. -/
namespace Go.Proofs.YtbekpemidpngaaaGreatDoor
open Go.RowKit

end Go.Proofs.YtbekpemidpngaaaGreatDoor
/- The reference's Letter, Small, Hash: walks. -/
namespace Go.Proofs.YtbekpemidpngaaaGreatDoor
open Go.RowKit

set_option maxRecDepth 100000 in
set_option maxHeartbeats 2000000 in
theorem refLetter_any (c : Int) (w : World) :
    Calls Tryz.prog 150 #[.int .i64 c] w fun e w' => e = .returned (.bool (letterZ c)) ∧ w' = w := by
  go_enter Tryz.func150, Tryz.ntmps150
  go_wp2
  all_goals go_ret
  all_goals refine ⟨?_, rfl⟩
  all_goals refine congrArg (fun b => Ending.returned (Value.bool b)) ?_
  all_goals (rw [Bool.eq_iff_iff]; try simp only [decide_eq_true_eq, bne_iff_ne, ne_eq] at *)
  all_goals (simp only [letterZ, Bool.false_eq_true, Bool.or_eq_true, Bool.and_eq_true, bne_iff_ne, ne_eq, decide_eq_true_eq, true_iff, false_iff]; omega)

set_option maxRecDepth 100000 in
set_option maxHeartbeats 2000000 in
theorem refSmall_any (c : Int) (w : World) (h1 : -2147483648 ≤ c) (h2 : c ≤ 2147483647) :
    Calls Tryz.prog 122 #[.int .i64 c] w fun e w' => e = .returned (.int .i64 (smallZ c)) ∧ w' = w := by
  go_enter Tryz.func122, Tryz.ntmps122
  go_wp2
  all_goals go_ret
  all_goals refine ⟨?_, rfl⟩
  all_goals refine congrArg (fun b => Ending.returned (Value.int .i64 b)) ?_
  all_goals first | (simp only [smallZ, bigZ, decide_eq_true_eq, ne_eq] at *; split <;> omega) | rfl
end Go.Proofs.YtbekpemidpngaaaGreatDoor
