/- slices.Delete of what was given, from the front: its walk. -/
import Derived.Test.YtnldibcfpbignaaDoorQC
import Derived.Deep.RegionLaw
namespace Go.Proofs.YtnldibcfpbignaaDoor
open Go.RowKit Go.ChangeMaps

theorem setCell_at (w : World) {g : Nat} (c : Nat) {cur : Array Value} {t : TypeId} (hb : w.heap[g]? = some (.cells cur t (0, 0))) (v : Value) :
    (w.setCell ⟨g, c, none⟩ v).heap[g]? = some (.cells (cur.setIfInBounds c v) t (0, 0)) ∧ (∀ k, k ≠ g → (w.setCell ⟨g, c, none⟩ v).heap[k]? = w.heap[k]?) := by
  rw [setCell_eq_setRow w g c cur t (0, 0) v hb]
  exact ⟨setRow_heap w g cur _ t _ hb, fun k hk => setRow_other w g k _ hk⟩
theorem setCells_blk {b : Nat} {t : TypeId} : ∀ (vs : List Value) (o : Nat) (w : World) (cur : Array Value), w.heap[b]? = some (.cells cur t (0, 0)) → o + vs.length ≤ cur.size →
    ∃ c2, (w.setCells b o vs).heap[b]? = some (.cells c2 t (0, 0)) ∧ c2.size = cur.size ∧ (∀ j, o ≤ j → j < o + vs.length → c2[j]? = vs[j - o]?) ∧ (∀ j, (j < o ∨ o + vs.length ≤ j) → c2[j]? = cur[j]?) ∧ w.grownBy (w.setCells b o vs) (some b)
  | [], o, w, cur, hb, _ => ⟨cur, hb, rfl, fun j h1 h2 => absurd h2 (by simp; omega), fun _ _ => rfl, ⟨rfl, rfl, rfl, Nat.le_refl _, fun _ _ _ => rfl⟩⟩
  | v :: vs, o, w, cur, hb, hl => by
    rw [List.length_cons] at hl
    obtain ⟨s1, s2⟩ := setCell_at w o hb v
    obtain ⟨c2, h1, h2, h3, h4, h5⟩ := setCells_blk vs (o + 1) (w.setCell ⟨b, o, none⟩ v) _ s1 (by simp; omega)
    have z : (w.setCell ⟨b, o, none⟩ v).heap.size = w.heap.size := by rw [setCell_eq_setRow w b o cur _ (0, 0) v hb]; simp
    refine ⟨c2, h1, by simpa using h2, fun j j1 j2 => ?_, fun j hj => ?_, ⟨h5.os, h5.tape, h5.output, by rw [← z]; exact h5.size, fun k hk hn => ?_⟩⟩
    · rw [List.length_cons] at j2
      by_cases e : j = o
      · subst e
        rw [h4 j (.inl (by omega)), Array.getElem?_setIfInBounds_self_of_lt (by omega), Nat.sub_self]; rfl
      · rw [h3 j (by omega) (by omega), show j - o = (j - (o + 1)) + 1 by omega]; rfl
    · rw [List.length_cons] at hj
      rw [h4 j (by omega), Array.getElem?_setIfInBounds_ne (by omega)]
    · show ((w.setCell ⟨b, o, none⟩ v).setCells b (o + 1) vs).heap[k]? = _
      rw [h5.block k (by omega) hn, s2 k (fun e => hn (by rw [e]))]
theorem run_clearG (w : World) (ty : TypeId) (b o n c : Nat) (hn : 0 < n) (cur : Array Value) (hb : w.heap[b]? = some (.cells cur 38 (0, 0))) (hs : o + n * 7 ≤ cur.size) :
    (Builtin.clear_ #[50] ty #[.slice (some ⟨b, o, none⟩) n c]).run Tryd.prog w = .ok (.tuple #[]) (w.setCells b o (Builtin.zeroCells (gV zG).cells n).toList) := by
  have hv : ∀ w, (zeroValue 38).run Tryd.prog w = .ok (gV zG) w := fun w => by kernel_rfl
  have z7 : (gV zG).cells.size = 7 := rfl
  have hlen : (Builtin.zeroCells (gV zG).cells n).toList.length = n * 7 := by rw [Array.length_toList, size_zeroCells, z7]
  have hst := run_storeCells_cells (P := Tryd.prog) b o (Builtin.zeroCells (gV zG).cells n).toList 0 w (fun j hj => by
      rw [hlen] at hj
      rw [Nat.add_zero, cell_of_row w b _ cur _ (0, 0) hb, Array.getElem?_eq_getElem (by omega)]; rfl) (fun j _ => by simp [World.frozen?, hb]) (fun v hv => by
      rw [Array.mem_toList_iff] at hv
      obtain ⟨i, hi, rfl⟩ := Array.mem_iff_getElem.1 hv
      simp only [Builtin.zeroCells, Array.getElem_map, Array.getElem_range]
      have hlt : i % (gV zG).cells.size < 7 := by rw [z7]; omega
      generalize i % (gV zG).cells.size = r at *
      match r, hlt with
      | 0, _ => rfl
      | 1, _ => rfl
      | 2, _ => rfl
      | 3, _ => rfl
      | 4, _ => rfl
      | 5, _ => rfl
      | 6, _ => rfl)
  simp only [Nat.add_zero] at hst
  obtain ⟨m, rfl⟩ : ∃ m, n = m + 1 := ⟨n - 1, by omega⟩
  have hu : Tryd.prog.underlying 50 = some (.slice 38) := Tryd.underlying50
  simp [Builtin.clear_, run_underlying hu, hv, hst]
end Go.Proofs.YtnldibcfpbignaaDoor
