/- link's acknowledge: its walk. -/
import Derived.Test.YtiejehaaglpkoaaLnF
import Derived.Test.YtiejehaaglpkoaaDShelf
namespace Go.Proofs.Ytiejehaaglpkoaa
open Go.RowKit Go.ChangeMaps

/-- The queue behind what acknowledges up to a number. -/
def ackN (L : Lk) (a : Int) : Nat := (a - L.b + 1).toNat
def ackB (L : Lk) (a : Int) : Prop := L.b ≤ a ∧ a < L.b + (L.o : Int)
instance (L : Lk) (a : Int) : Decidable (ackB L a) := by unfold ackB; infer_instance
def ackL (L : Lk) (a : Int) : Lk := if ackB L a then ⟨L.x, L.q.drop (ackN L a), a + 1, L.o - ackN L a, L.wn, L.e⟩ else L
theorem LkOk.ack {L : Lk} (h : LkOk L) (a : Int) : LkOk (ackL L a) := by
  unfold ackL
  split
  · rename_i hb
    obtain ⟨h1, h2⟩ := hb
    have b0 := h.b0; have b1 := h.b1; have o8 := h.o8; have oq := h.oq; have q64 := h.q64
    have hn : (ackN L a : Int) = a - L.b + 1 := by unfold ackN; omega
    refine ⟨by show 1 ≤ a + 1; omega, ?_, ?_, ?_, ?_, h.w0, h.w1⟩
    · show a + 1 + ((L.q.drop (ackN L a)).length : Int) ≤ _
      rw [List.length_drop]; omega
    · show L.o - ackN L a ≤ 8; omega
    · show L.o - ackN L a ≤ (L.q.drop (ackN L a)).length
      rw [List.length_drop]; omega
    · show (L.q.drop (ackN L a)).length ≤ 64
      rw [List.length_drop]; omega
  · exact h
/-- A row of texts, laid open as an array. -/
theorem row_arr (q : List ByteArray) (w : World) (g : Nat) (cur : Array Value) (hg : w.heap[g]? = some (.cells cur 9 (0, 0))) (ht : cur.toList.take (q.length * 1) = q.map .string) : Sort.Holds Value.string w g 0 q.toArray := by
  intro j hj
  have hj' : j < q.length := by simpa using hj
  refine ⟨?_, by simp [World.frozen?, hg]⟩
  rw [Nat.zero_add, cell_of_row w g j cur _ (0, 0) hg]
  have e1 : (q.map Value.string)[j]? = some (.string q[j]) := by rw [List.getElem?_map, List.getElem?_eq_getElem hj']; rfl
  rw [← ht, List.getElem?_take, if_pos (by omega)] at e1
  rw [show q.toArray[j]! = q[j] by simp [hj']]
  simpa using e1
theorem del_any {base : Nat} {w : World} {vq : Value} {q : List ByteArray} (h : w.ownsRow base 9 1 vq q.length (q.map .string)) {n : Nat} (hn : n ≤ q.length) (h0 : 0 < q.length) :
    Calls Try.prog 55 #[vq, .int .i64 0, .int .i64 n] w fun e w' => ∃ vq', e = .returned vq' ∧ w'.ownsRow base 9 1 vq' (q.drop n).length ((q.drop n).map .string) ∧ vq'.ownBlock = vq.ownBlock ∧ w.grownBy w' vq.ownBlock := by
  obtain ⟨h1, h2⟩ := h
  rcases h2 with ⟨_, h2⟩ | ⟨qb, cap, cur, rfl, hb, hg, hc, hm, hs, ht⟩
  · omega
  obtain ⟨i0, hi0, hz0, hz1, hz2⟩ := info_parts info_str
  have hH := row_arr q w qb cur hg ht
  have := AnyE.slices_Delete Try.delS Value.string (fun _ => rfl) ⟨#[]⟩ (fun w => by kernel_rfl) i0 hi0 hz1 qb 0 cap 0 n q.toArray w hH (by simpa using hc) (by unfold maxLen at hm; omega) (by omega) (by simpa using hn)
  rw [List.size_toArray] at this
  refine this.mono ?_
  rintro e w' ⟨rfl, r, rfl⟩
  have hlt : qb < w.heap.size := (Array.getElem?_eq_some_iff.1 hg).1
  have hcap : cur.size = cap := by omega
  refine ⟨_, rfl, ⟨by simp, .inr ⟨qb, cap, Sort.putCells Value.string 0 ((q.toArray.toList.take 0 ++ q.toArray.toList.drop n ++ List.replicate (n - 0) (⟨#[]⟩ : ByteArray)).toArray) cur, ?_, hb, ?_, ?_, hm, ?_, ?_⟩⟩, rfl, ?_⟩
  · rw [List.length_drop, Nat.sub_zero]
  · show ((Sort.ahead w r).heap.modify qb _)[qb]? = _
    rw [Array.getElem?_modify, if_pos rfl]
    show Option.map _ (w.heap[qb]?) = _
    rw [hg]; rfl
  · rw [List.length_drop]; omega
  · simp [Sort.putCells]; omega
  · rw [List.length_drop, Nat.mul_one]
    apply List.ext_getElem?
    intro k
    rw [List.getElem?_take]
    split
    · rename_i hk
      have hkq : n + k < q.length := by omega
      simp only [Sort.putCells]
      rw [Array.getElem?_toList, Array.getElem?_mapIdx, Array.getElem?_eq_getElem (by omega), List.getElem?_map, List.getElem?_drop, List.getElem?_eq_getElem hkq]
      simp only [Option.map_some]
      rw [if_pos ⟨Nat.zero_le _, by simp; omega⟩]
      refine congrArg some (congrArg Value.string ?_)
      simp only [List.take_zero, List.nil_append, Nat.sub_zero]
      have : (q.drop n ++ List.replicate n (⟨#[]⟩ : ByteArray))[k]? = some q[n + k] := by
        rw [List.getElem?_append_left (by rw [List.length_drop]; omega), List.getElem?_drop, List.getElem?_eq_getElem hkq]
      have hk2 : k < (q.drop n ++ List.replicate n (⟨#[]⟩ : ByteArray)).length := by rw [List.length_append, List.length_drop]; omega
      rw [getElem!_pos _ k (by rw [List.size_toArray]; exact hk2), List.getElem_toArray]
      exact Option.some.inj ((List.getElem?_eq_getElem hk2).symm.trans this)
    · rename_i hk
      rw [List.getElem?_eq_none (by rw [List.length_map, List.length_drop]; omega)]
  · refine ⟨rfl, rfl, rfl, by simp [Sort.putRow, Sort.mapBlock, Sort.ahead], fun k hk hne => ?_⟩
    show ((Sort.ahead w r).heap.modify qb _)[k]? = _
    rw [Array.getElem?_modify, if_neg (fun e => hne (by simp [Value.ownBlock, e]))]
    rfl
set_option maxRecDepth 100000 in
set_option maxHeartbeats 4000000 in
theorem ackL_any {base : Nat} {w : World} {g m : Nat} {vq : Value} {L : Lk} (h : LinkV base w g m vq L) (hok : LkOk L) (a : Int) :
    Calls Try.prog 38 #[lP g, .int .i64 a] w fun e w' => e = .returned (.tuple #[]) ∧ ∃ vq', LinkV base w' g m vq' (ackL L a) ∧ Stp w (LF g m vq) (LF g m vq') w' := by
  obtain ⟨-, c5, c6, c7, -, -, fz⟩ := h.cells
  have b0 := hok.b0
  have b1 := hok.b1
  have o8 := hok.o8
  have oq := hok.oq
  have q64 := hok.q64
  have wz : IntKind.i64.wrap (L.b + (L.o : Int)) = L.b + (L.o : Int) := wrapI (by omega) (by omega)
  by_cases h1 : L.b ≤ a
  · have d1 : decide (a < L.b) = false := by simp; omega
    by_cases h2 : a < L.b + (L.o : Int)
    · have d2 : decide (L.b + (L.o : Int) ≤ a) = false := by simp; omega
      have e0 : ackL L a = ⟨L.x, L.q.drop (ackN L a), a + 1, L.o - ackN L a, L.wn, L.e⟩ := by unfold ackL; rw [if_pos ⟨h1, h2⟩]
      have hn : (ackN L a : Int) = a - L.b + 1 := by unfold ackN; omega
      have w1 : IntKind.i64.wrap (a - L.b) = a - L.b := wrapI (by omega) (by omega)
      have w2 : IntKind.i64.wrap (a - L.b + 1) = (ackN L a : Int) := by rw [hn]; exact wrapI (by omega) (by omega)
      have w3 : IntKind.i64.wrap (L.b + (ackN L a : Int)) = a + 1 := by rw [hn, wrapI (by omega) (by omega)]; omega
      have w4 : IntKind.i64.wrap ((L.o : Int) - (ackN L a : Int)) = ((L.o - ackN L a : Nat) : Int) := by rw [wrapI (by omega) (by omega)]; omega
      rw [e0]
      have hN : ackN L a ≤ L.q.length := by omega
      have HD : Hid (∀ w', LinkV base w' g m vq L → Calls Try.prog 55 #[vq, .int .i64 0, .int .i64 (ackN L a)] w' fun e w'' => ∃ vq', e = .returned vq' ∧ w''.ownsRow base 9 1 vq' (L.q.drop (ackN L a)).length ((L.q.drop (ackN L a)).map .string) ∧ vq'.ownBlock = vq.ownBlock ∧ w'.grownBy w'' vq.ownBlock) := fun w' hv => del_any hv.own hN (by omega)
      have HV : Hid (LinkV base w g m vq L) := h
      clear hn e0 h1 h2 h hok hN
      generalize ackN L a = n at *
      go_enter Try.func38, Try.ntmps38
      go_wp2_with fail
      go_quiet (fail)
      have HV1 : Hid (LinkV base (w.drewN nq) g m vq L) := HV.out.keep fun _ _ => rfl
      have HS1 : Hid (Stp w (LF g m vq) (LF g m vq) (w.drewN nq)) := ⟨rfl, rfl, rfl, Nat.le_refl _, fun _ _ _ => rfl, fun _ h => .inl h⟩
      clear c5 c6 c7 fz
      generalize w.drewN nq = W at *
      obtain ⟨-, c5, c6, c7, -, -, fz⟩ := HV1.out.cells
      obtain ⟨qa, qcap, rfl⟩ := (IsRow.own HV1.out.own).form
      go_wp2_with fail
      refine (HD.out W HV1.out).mono ?_
      rintro e W2 ⟨v2, rfl, hown2, hob2, hgrow2⟩
      obtain ⟨qa2, qcap2, rfl⟩ := (IsRow.own hown2).form
      have HX := HV1.out.setQ hgrow2 hown2 (.inl hob2)
      have hb2 := (hgrow2.block g HV1.out.size.1 (fun e => HV1.out.ng e.symm)).trans HV1.out.blk
      have c52 : W2.cell? ⟨g, 5, none⟩ = some (.slice qa L.q.length qcap) := by rw [Lib.cell_of_heap hb2]; rfl
      have f52 : ∀ o, W2.frozen? ⟨g, o, none⟩ = false := fun o => by simp [World.frozen?, hb2]
      have c62 : W2.cell? ⟨g, 6, none⟩ = some (.int .i64 L.b) := by rw [Lib.cell_of_heap hb2]; rfl
      have c72 : W2.cell? ⟨g, 7, none⟩ = some (.int .i64 (L.o : Int)) := by rw [Lib.cell_of_heap hb2]; rfl
      have HF : Hid (∃ vq', LinkV base (((W2.setCell ⟨g, 5, none⟩ (.slice qa2 (L.q.drop n).length qcap2)).setCell ⟨g, 6, none⟩ (.int .i64 (a + 1))).setCell ⟨g, 7, none⟩ (.int .i64 ((L.o - n : Nat) : Int))) g m vq' ⟨L.x, L.q.drop n, a + 1, L.o - n, L.wn, L.e⟩ ∧ Stp w (LF g m (.slice qa L.q.length qcap)) (LF g m vq') (((W2.setCell ⟨g, 5, none⟩ (.slice qa2 (L.q.drop n).length qcap2)).setCell ⟨g, 6, none⟩ (.int .i64 (a + 1))).setCell ⟨g, 7, none⟩ (.int .i64 ((L.o - n : Nat) : Int)))) := by
        obtain ⟨x1, x2⟩ := HX
        obtain ⟨y1, y2⟩ := x1.setI (c := 6) (v := .int .i64 (a + 1)) (L' := ⟨L.x, L.q.drop n, a + 1, L.o, L.wn, L.e⟩) rfl rfl rfl
        obtain ⟨z1, z2⟩ := y1.setI (c := 7) (v := .int .i64 ((L.o - n : Nat) : Int)) (L' := ⟨L.x, L.q.drop n, a + 1, L.o - n, L.wn, L.e⟩) rfl rfl rfl
        exact ⟨_, z1, HS1.out.trans (x2.trans (y2.trans z2))⟩
      clear hb2 c5 c6 c7 fz hown2 hob2 hgrow2 HD HX HV HV1 HS1
      generalize (L.q.drop n).length = ln at *
      go_wp2
      refine bodyPost_end (results_none rfl _ _ _) rfl ⟨rfl, HF.out⟩
    · have d2 : decide (L.b + (L.o : Int) ≤ a) = true := by simp; omega
      have e0 : ackL L a = L := by unfold ackL; rw [if_neg (fun h => h2 h.2)]
      have HE : Hid (∀ n, ∃ vq', LinkV base (w.drewN n) g m vq' L ∧ Stp w (LF g m vq) (LF g m vq') (w.drewN n)) := fun n => ⟨vq, h.keep fun _ _ => rfl, ⟨rfl, rfl, rfl, Nat.le_refl _, fun _ _ _ => rfl, fun _ h => .inl h⟩⟩
      rw [e0]
      clear e0 h1 h2 h hok
      go_enter Try.func38, Try.ntmps38
      go_wp2_with fail
      go_quiet (fail)
      go_wp2
      first | refine bodyPost_ret (results_none rfl _ _ _) rfl ⟨rfl, HE.out _⟩ | refine bodyPost_end (results_none rfl _ _ _) rfl ⟨rfl, HE.out _⟩
  · have d1 : decide (a < L.b) = true := by simp; omega
    have e0 : ackL L a = L := by unfold ackL; rw [if_neg (fun h => h1 h.1)]
    have HE : Hid (∀ n, ∃ vq', LinkV base (w.drewN n) g m vq' L ∧ Stp w (LF g m vq) (LF g m vq') (w.drewN n)) := fun n => ⟨vq, h.keep fun _ _ => rfl, ⟨rfl, rfl, rfl, Nat.le_refl _, fun _ _ _ => rfl, fun _ h => .inl h⟩⟩
    rw [e0]
    clear e0 h1 h hok
    go_enter Try.func38, Try.ntmps38
    go_wp2_with fail
    go_quiet (fail)
    go_wp2
    first | refine bodyPost_ret (results_none rfl _ _ _) rfl ⟨rfl, HE.out _⟩ | refine bodyPost_end (results_none rfl _ _ _) rfl ⟨rfl, HE.out _⟩
end Go.Proofs.Ytiejehaaglpkoaa
