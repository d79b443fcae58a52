/- forest.allCopied: its walk. -/
import Derived.Test.YticlejkeaagfjaaGreatDoorFoR
import Derived.Laws.MakeOwn
import Derived.Laws.CopyOwn
import Derived.Laws.CopyRow
namespace Go.Proofs.YticlejkeaagfjaaGreatDoor
open Go.RowKit Go.ChangeMaps

theorem info_ty : (Tryz.prog.info? 32).map (fun i => (i.zero, i.size, i.bytes)) = some (some (.agg zTyA), 8, 128) := by kernel_rfl
theorem row_setRow {w : World} {sz n m c g : Nat} {a : Option Addr} {xs : List Value} (h : IsRow w sz (.slice a m c) n xs) (hN : NewA (g + 1) a) (cs : Array Value) : IsRow (w.setRow g cs) sz (.slice a m c) n xs := by
  refine ⟨h.1, ?_⟩
  rcases h.2 with h0 | ⟨b, off, cap, hv, hlt, q1, q2, hc⟩
  · exact .inl h0
  · have hb : g + 1 ≤ b := by
      simp only [Value.slice.injEq] at hv
      exact hN _ hv.1
    refine .inr ⟨b, off, cap, hv, by simpa using hlt, q1, q2, fun k u hu => ?_⟩
    rw [cell_setRow_other w g cs ⟨b, off + k, none⟩ (by show b ≠ g; omega)]
    exact hc k u hu
theorem ty_setRow {w : World} {y : LT} {g : Nat} (h : IsTy w y.t y.vo y.va y.vc) (hN : NewT (g + 1) y) (cs : Array Value) : IsTy (w.setRow g cs) y.t y.vo y.va y.vc := ⟨row_setRow h.1 hN.1 cs, row_setRow h.2.1 hN.2.1 cs, row_setRow h.2.2 hN.2.2 cs⟩
theorem oneT_cell (y : LT) : ∀ u ∈ enT y, u.oneCell' = true := by
  intro u hu
  simp only [enT, List.mem_cons, List.not_mem_nil, or_false] at hu
  rcases hu with rfl | rfl | rfl | rfl | rfl | rfl | rfl | rfl <;> rfl
theorem oneTs_cell (M : List LT) : ∀ u ∈ tCells M, u.oneCell' = true := by
  intro u hu
  obtain ⟨y, -, hy⟩ := List.mem_flatMap.1 hu
  exact oneT_cell y u hy
theorem enT_tyA (y : LT) : tyA y.t y.vo y.va y.vc = (enT y).toArray := rfl
theorem cells_at {w : World} {g : Nat} {cur : Array Value} {ty : TypeId} (h : w.heap[g]? = some (.cells cur ty (0, 0))) (j : Nat) (u : Value) (hu : cur[j]? = some u) : w.cell? ((⟨g, 0, none⟩ : Addr).add j) = some u := by
  have hadd : (⟨g, 0, none⟩ : Addr).add j = ⟨g, j, none⟩ := by unfold Addr.add; split <;> simp_all
  rw [hadd, Lib.cell_of_heap h]
  exact hu
def AcP (L : List LT) (w : World) (e : Ending) (w' : World) : Prop := ∃ M, e = .returned (.slice (some ⟨w.heap.size, 0, none⟩) L.length L.length) ∧ tys M = tys L ∧ M.length = L.length ∧ w'.heap[w.heap.size]? = some (.cells (tCells M).toArray 32 (0, 0)) ∧ (∀ y ∈ M, IsTy w' y.t y.vo y.va y.vc ∧ NewT (w.heap.size + 1) y) ∧ Below w.heap.size w w'
/-- So many are copied. -/
def AcI (L : List LT) (w : World) (k : Nat) (wr : World) : Prop := ∃ (M : List LT) (cur : Array Value), tys M = (tys L).take k ∧ M.length = k ∧ wr.heap[w.heap.size]? = some (.cells cur 32 (0, 0)) ∧ cur.size = L.length * 8 ∧ cur.toList.take (k * 8) = tCells M ∧ ∀ y ∈ M, IsTy wr y.t y.vo y.va y.vc ∧ NewT (w.heap.size + 1) y
/-- What an append makes of it. -/
def acRow (cur : Array Value) (k : Nat) (y : LT) : Array Value := (cur.toList.take (k * 8) ++ enT y ++ cur.toList.drop (k * 8 + 8)).toArray
theorem AcI.step {L : List LT} {w wr W1 w2 : World} {k : Nat} {cur : Array Value} {M : List LT} {y : LT} (hk : k < L.length) (h1 : tys M = (tys L).take k) (h2 : M.length = k) (h3 : wr.heap[w.heap.size]? = some (.cells cur 32 (0, 0))) (hs : cur.size = L.length * 8) (ht : cur.toList.take (k * 8) = tCells M) (h4 : ∀ y ∈ M, IsTy wr y.t y.vo y.va y.vc ∧ NewT (w.heap.size + 1) y)
    (hB : Below w.heap.size w wr) (hW : Below wr.heap.size wr W1) (hy : y.t = L[k].t) (hyI : IsTy w2 y.t y.vo y.va y.vc) (hyN : NewT W1.heap.size y) (hb2 : Below W1.heap.size W1 w2) :
    (∀ ty, (Builtin.append_ #[23, 23] ty #[.slice (some ⟨w.heap.size, 0, none⟩) k L.length, .slice (some ⟨w2.heap.size, 0, none⟩) 1 1]).run Tryz.prog (w2.alloc (.cells (tyA y.t y.vo y.va y.vc) 32)) = .ok (.slice (some ⟨w.heap.size, 0, none⟩) (k + 1) L.length) ((w2.alloc (.cells (tyA y.t y.vo y.va y.vc) 32)).setRow w.heap.size (acRow cur k y))) ∧
    AcI L w (k + 1) ((w2.alloc (.cells (tyA y.t y.vo y.va y.vc) 32)).setRow w.heap.size (acRow cur k y)) ∧ Below w.heap.size w ((w2.alloc (.cells (tyA y.t y.vo y.va y.vc) 32)).setRow w.heap.size (acRow cur k y)) := by
  obtain ⟨i0, hi0, hz0, hz1, hz2⟩ := info_parts info_ty
  have hs1 := hB.size
  have hs2 := hW.size
  have hs3 := hb2.size
  have hlt : w.heap.size < wr.heap.size := (Array.getElem?_eq_some_iff.1 h3).1
  have hal := al_b w2 (.cells (tyA y.t y.vo y.va y.vc) 32)
  have hfar : Below wr.heap.size wr (w2.alloc (.cells (tyA y.t y.vo y.va y.vc) 32)) := (hW.trans (hb2.mono hs2)).trans (hal.mono (by omega))
  have hg : (w2.alloc (.cells (tyA y.t y.vo y.va y.vc) 32)).heap[w.heap.size]? = some (.cells cur 32 (0, 0)) := (hfar.block _ hlt).trans h3
  have hn : (w2.alloc (.cells (tyA y.t y.vo y.va y.vc) 32)).heap[w2.heap.size]? = some (.cells (tyA y.t y.vo y.va y.vc) 32 (0, 0)) := new_at w2 _
  have hyN' : NewT (w.heap.size + 1) y := hyN.le (by omega)
  refine ⟨fun ty => ?_, ⟨M ++ [y], acRow cur k y, ?_, by simp [h2], setRow_heap _ _ _ _ _ _ hg, ?_, ?_, ?_⟩, below_setRow (hB.trans (hfar.mono hs1)) (Nat.le_refl _) _⟩
  · have := run_append_room (P := Tryz.prog) (w2.alloc (.cells (tyA y.t y.vo y.va y.vc) 32)) 23 ty 32 i0 Tryz.underlying23 hi0 w.heap.size k L.length cur hg ⟨w2.heap.size, 0, none⟩ 1 1 (enT y) (by rw [hz1]; rfl) (fun j u hu => cells_at hn j u (by rw [enT_tyA]; simpa using hu)) (oneT_cell y) (by omega) (by rw [hz1, hs]; show k * 8 + 8 ≤ _; omega)
    rw [hz1] at this
    exact this
  · have e1 : tys (M ++ [y]) = tys M ++ [y.t] := by simp [tys]
    rw [e1, h1, hy, ← tys_at L k hk, List.take_append_getElem]
  · unfold acRow
    rw [List.size_toArray, List.length_append, List.length_append, List.length_take, List.length_drop, Array.length_toList, hs]
    show min (k * 8) (L.length * 8) + 8 + _ = _
    omega
  · unfold acRow
    have hl : (cur.toList.take (k * 8) ++ enT y).length = (k + 1) * 8 := by
      rw [List.length_append, List.length_take, Array.length_toList, hs]
      show min (k * 8) (L.length * 8) + 8 = _
      omega
    rw [← hl, List.take_left, ht, tCells_app]
    congr 1
  · intro z hz
    rcases List.mem_append.1 hz with hz | hz
    · obtain ⟨z1, z2⟩ := h4 z hz
      exact ⟨ty_setRow (z1.below hfar) z2 _, z2⟩
    · obtain rfl := List.mem_singleton.1 hz
      exact ⟨ty_setRow (hyI.below hal) hyN' _, hyN'⟩
set_option maxRecDepth 100000 in
set_option maxHeartbeats 4000000 in
theorem allCopied_any (v : Value) (L : List LT) (w : World) (hr : IsTys w v L) (hl : L.length ≤ 1000) (hm : SmL L) :
    Calls Tryz.prog 50 #[v] w fun e w' => AcP L w e w' := by
  obtain ⟨a0, cap0, rfl⟩ := hr.1.form
  obtain ⟨i0, hi0, hz0, hz1, hz2⟩ := info_parts info_ty
  obtain ⟨wm, hmk, hgm, hbm⟩ : ∃ wm, (Instr.makeSlice 23 (.int .i64 0) (.int .i64 (L.length : Int))).run Tryz.prog w = .ok (.slice (some ⟨w.heap.size, 0, none⟩) 0 L.length) wm ∧ wm.heap[w.heap.size]? = some (.cells (madeCells zTyA (L.length * 8)) 32 (0, 0)) ∧ Below w.heap.size w wm := by
    have hrun := run_make (P := Tryz.prog) w 23 32 i0 _ Tryz.underlying23 hi0 hz0 .i64 .i64 0 (L.length : Int) (Int.le_refl _) (by omega) (by rw [hz2]; omega) (by omega)
    rw [hz1] at hrun
    exact ⟨_, hrun, new_at w _, al_b w _⟩
  have HSt : Hid (AcI L w 0 wm) := ⟨[], _, by simp [tys], rfl, hgm, size_madeCells _ _, by simp [tCells], fun y hy => nomatch hy⟩
  have HB0 : Hid (Below w.heap.size w wm) := hbm
  have HR : Hid (∀ W, Below w.heap.size w W → IsRow W 8 (.slice a0 L.length cap0) L.length (tCells L)) := fun W h => hr.1.below h
  have HCp : Hid (∀ (k : Nat) (hk : k < L.length) W, Below w.heap.size w W → Calls Tryz.prog 51 #[ltV L[k]] W fun e w' => CpT L[k].t W e w') := fun k hk W h => copied_any _ _ _ _ W ((hr.2 _ (List.getElem_mem hk)).below h) (hm _ (List.getElem_mem hk)).1 (hm _ (List.getElem_mem hk)).2.1 (hm _ (List.getElem_mem hk)).2.2
  clear hr hm hgm hbm hi0 hz0 hz1 hz2
  go_enter Tryz.func50, Tryz.ntmps50
  go_wp2_with fail
  clear hmk
  go_loopw [3, 5, 11] (fun o _ i wr => ∃ k : Nat, k ≤ L.length ∧ i = .int .i64 (k : Int) ∧ o = .slice (some ⟨w.heap.size, 0, none⟩) k L.length ∧ Hid (AcI L w k wr) ∧ Hid (Below w.heap.size w wr)) (fun _ _ i _ => L.length - (intOf i).toNat)
  case atStart => exact ⟨0, Nat.zero_le _, rfl, rfl, HSt, HB0⟩
  case round =>
    clear HSt HB0
    obtain ⟨k, hk, rfl, rfl, HI, HB⟩ := hrel
    have hsz := HB.out.size
    by_cases hlk : k < L.length
    · have dk : decide ((k : Int) < L.length) = true := by simp; omega
      obtain ⟨b, off, rfl, hbl, -, hcap, hc⟩ := t_at (HR.out _ HB.out) (by omega)
      obtain ⟨⟨y0, y1, y2, y3⟩, y4, y5, y6, y7⟩ := hc k hlk
      obtain ⟨M, cur, m1, m2, m3, m4, m5, m6⟩ := HI.out
      obtain ⟨W1, hW1⟩ : ∃ W1, W1 = wr.alloc (.cells (tyA L[k].t L[k].vo L[k].va L[k].vc) 32) := ⟨_, rfl⟩
      have hA : Below wr.heap.size wr W1 := by rw [hW1]; exact al_b wr _
      have HC1 : Hid (Calls Tryz.prog 51 #[ltV L[k]] W1 fun e w' => CpT L[k].t W1 e w') := HCp.out k hlk W1 (HB.out.trans (hA.mono hsz))
      have HSp : Hid (∀ (y : LT) (w2 : World), y.t = L[k].t → IsTy w2 y.t y.vo y.va y.vc → NewT W1.heap.size y → Below W1.heap.size W1 w2 → (∀ ty, (Builtin.append_ #[23, 23] ty #[.slice (some ⟨w.heap.size, 0, none⟩) k L.length, .slice (some ⟨w2.heap.size, 0, none⟩) 1 1]).run Tryz.prog (w2.alloc (.cells (tyA y.t y.vo y.va y.vc) 32)) = .ok (.slice (some ⟨w.heap.size, 0, none⟩) (k + 1) L.length) ((w2.alloc (.cells (tyA y.t y.vo y.va y.vc) 32)).setRow w.heap.size (acRow cur k y))) ∧ AcI L w (k + 1) ((w2.alloc (.cells (tyA y.t y.vo y.va y.vc) 32)).setRow w.heap.size (acRow cur k y)) ∧ Below w.heap.size w ((w2.alloc (.cells (tyA y.t y.vo y.va y.vc) 32)).setRow w.heap.size (acRow cur k y))) := fun y w2 p1 p2 p3 p4 => AcI.step hlk m1 m2 m3 m4 m5 m6 HB.out hA p1 p2 p3 p4
      generalize L[k]'hlk = x at *
      clear hc HCp HR HI m1 m2 m3 m4 m5 m6 hA
      go_wp2_with fail
      rw [← hW1]
      clear hW1
      refine HC1.out.mono ?_
      intro e w2 hcp
      obtain ⟨y, rfl, hyt, hyI, hyN, hb2⟩ := cp_lt hcp
      obtain ⟨hrun, hI5, hB5⟩ := HSp.out y w2 hyt hyI hyN hb2
      have HRun : Hid (∀ ty, (Builtin.append_ #[23, 23] ty #[.slice (some ⟨w.heap.size, 0, none⟩) k L.length, .slice (some ⟨w2.heap.size, 0, none⟩) 1 1]).run Tryz.prog (w2.alloc (.cells (tyA y.t y.vo y.va y.vc) 32)) = .ok (.slice (some ⟨w.heap.size, 0, none⟩) (k + 1) L.length) ((w2.alloc (.cells (tyA y.t y.vo y.va y.vc) 32)).setRow w.heap.size (acRow cur k y))) := hrun
      have HI5 : Hid (AcI L w (k + 1) ((w2.alloc (.cells (tyA y.t y.vo y.va y.vc) 32)).setRow w.heap.size (acRow cur k y))) := hI5
      have HB5 : Hid (Below w.heap.size w ((w2.alloc (.cells (tyA y.t y.vo y.va y.vc) 32)).setRow w.heap.size (acRow cur k y))) := hB5
      clear hcp hyt hyI hyN hb2 HSp HC1 y0 y1 y2 y3 y4 y5 y6 y7 hrun hI5 hB5
      obtain ⟨Wq, hWq⟩ : ∃ Wq, Wq = (w2.alloc (.cells (tyA y.t y.vo y.va y.vc) 32)).setRow w.heap.size (acRow cur k y) := ⟨_, rfl⟩
      rw [← hWq] at HRun HI5 HB5
      clear hWq
      go_wp2_with (at_builtin; go_loud (refine Lib.wpList_append_run _ rfl (.tmp 15) (.tmp 18) _ _ rfl _ _ rfl rfl _ _ (HRun.out _) ?_))
      go_wp2
      go_roundw
      case rel => exact ⟨k + 1, by omega, by simp, rfl, HI5, HB5⟩
      case measure => simp [intOf]; omega
    · have dk : decide ((k : Int) < L.length) = false := by simp; omega
      have hk' : k = L.length := by omega
      obtain ⟨M, cur, m1, m2, m3, m4, m5, m6⟩ := HI.out
      have HEnd : Hid (AcP L w (.returned (.slice (some ⟨w.heap.size, 0, none⟩) k L.length)) wr) := by
        refine ⟨M, by rw [hk'], by rw [m1, List.take_of_length_le (by rw [tys_len]; omega)], by omega, ?_, m6, HB.out⟩
        rw [m3, ← m5, List.take_of_length_le (by rw [Array.length_toList, m4]; omega)]
      clear m1 m2 m3 m4 m5 m6 HI HR HCp hk'
      go_wp2
      go_ret
      exact HEnd.out
end Go.Proofs.YticlejkeaagfjaaGreatDoor
