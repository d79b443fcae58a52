/- queue's New, Len, Room, Over; slices.Clone and slices.Delete of what was given: walks. -/
import Derived.Test.YtnldibcfpbignaaDoorQB
namespace Go.Proofs.YtnldibcfpbignaaDoor
open Go.RowKit Go.ChangeMaps

def newQ (r : Int) : Qu := ⟨r, [], fun _ => 0⟩
theorem que_new {w' : World} (base : Nat) (r : Int) (g m : Nat) (hg : base ≤ g) (hm : base ≤ m) (h1 : w'.heap[g]? = some (.cells (quC (newQ r) (.slice none 0 0) m) 68 (0, 0))) (h2 : w'.heap[m]? = some (.map #[] 0)) : QuV base w' g m (.slice none 0 0) (newQ r) :=
  ⟨hg, hm, h1, MapI.new h2, ⟨rfl, .inl ⟨rfl, rfl⟩⟩, by simp [Value.ownBlock], by simp [Value.ownBlock]⟩
theorem newQ_ok (r : Int) (w : World) (h1 : 1 ≤ r) (h2 : r ≤ 100) : Calls Tryd.prog 7 #[.int .i64 r] w fun e w' => ∃ g m, e = .returned (qP g) ∧ QuV w.heap.size w' g m (.slice none 0 0) (newQ r) ∧ Below w.heap.size w w' := by
  have HL : Hid (QuV w.heap.size ((w.alloc (.map #[] 0)).alloc (.cells (quC (newQ r) (.slice none 0 0) w.heap.size) 68)) (w.heap.size + 1) w.heap.size (.slice none 0 0) (newQ r)) := by
    refine que_new _ r _ _ (by omega) (Nat.le_refl _) ?_ ?_
    · show ((w.heap.push _).push _)[w.heap.size + 1]? = _
      rw [Array.getElem?_push, if_pos (by simp)]
    · show ((w.heap.push _).push _)[w.heap.size]? = _
      rw [Array.getElem?_push, if_neg (by simp), Array.getElem?_push, if_pos rfl]
  have HB : Hid (Below w.heap.size w ((w.alloc (.map #[] 0)).alloc (.cells (quC (newQ r) (.slice none 0 0) w.heap.size) 68))) := (al_b w _).trans ((al_b _ _).mono (by simp))
  have hmm := @run_makeMap Tryd.prog
  have d1 : decide (r < (1 : Int)) = false := decide_eq_false (by omega)
  have d2 : decide ((100 : Int) < r) = false := decide_eq_false (by omega)
  dsimp only [quC, newQ] at *
  clear h1 h2
  go_enter Tryd.func7, Tryd.ntmps7
  go_wp2
  go_ret
  exact ⟨_, _, rfl, HL.out, HB.out⟩
theorem lenQ_any {base : Nat} {w : World} {g m : Nat} {vq : Value} {Q : Qu} (h : QuV base w g m vq Q) : Calls Tryd.prog 19 #[qP g] w fun e w' => e = .returned (.int .i64 Q.l.length) ∧ w' = w := by
  obtain ⟨-, c1, -, fz⟩ := h.cells
  obtain ⟨a, cap, rfl⟩ := (IsRow.own h.own).form
  clear h
  go_enter Tryd.func19, Tryd.ntmps19
  go_wp2
  go_ret
  exact ⟨rfl, rfl⟩
theorem roomQ_any {base : Nat} {w : World} {g m : Nat} {vq : Value} {Q : Qu} (h : QuV base w g m vq Q) : Calls Tryd.prog 9 #[qP g] w fun e w' => e = .returned (.int .i64 Q.r) ∧ w' = w := by
  obtain ⟨c0, -, -, fz⟩ := h.cells
  clear h
  go_enter Tryd.func9, Tryd.ntmps9
  go_wp2
  go_ret
  exact ⟨rfl, rfl⟩
theorem overQ_any {base : Nat} {w : World} {g m : Nat} {vq : Value} {Q : Qu} (h : QuV base w g m vq Q) (s : Int) : Calls Tryd.prog 20 #[qP g, .int .i64 s] w fun e w' => e = .returned (.int .i64 (Q.ov s)) ∧ w' = w := by
  obtain ⟨-, -, c2, fz⟩ := h.cells
  have hl := h.mp.look s
  clear h
  go_enter Tryd.func20, Tryd.ntmps20
  go_wp2
  go_ret
  exact ⟨rfl, rfl⟩
theorem info_gv : (Tryd.prog.info? 38).map (fun i => (i.zero, i.size, i.bytes)) = some (some (gV zG), 7, 88) := by kernel_rfl
theorem own_openG {w : World} {base : Nat} {e : TypeId} {sz : Nat} {v : Value} {n : Nat} {xs : List Value} (h : w.ownsRow base e sz v n xs) (hn : 0 < n) :
    ∃ g cap cur, v = .slice (some ⟨g, 0, none⟩) n cap ∧ base ≤ g ∧ w.heap[g]? = some (.cells cur e (0, 0)) ∧ n ≤ cap ∧ cap ≤ maxLen ∧ cur.size = cap * sz ∧ cur.toList.take (n * sz) = xs := by
  rcases h.2 with ⟨_, h0⟩ | h
  · omega
  · exact h
def ClG (l : List Gv) (w : World) (e : Ending) (w' : World) : Prop := ∃ v, e = .returned v ∧ w'.ownsRow w.heap.size 38 7 v l.length (gCells l) ∧ Below w.heap.size w w'
set_option maxRecDepth 100000 in
set_option maxHeartbeats 1000000 in
theorem cloneG_any (v : Value) (l : List Gv) (w : World) (hr : IsRow w 7 v l.length (gCells l)) (h0 : 0 < l.length) (hl : l.length ≤ 1000) :
    Calls Tryd.prog 30 #[v] w fun e w' => ClG l w e w' := by
  obtain ⟨b, off, cap, rfl, hlt, hc1, hc2, hc⟩ := hr.open h0
  obtain ⟨i0, hi0, hz0, hz1, hz2⟩ := info_parts info_gv
  have HW : Hid ((w.alloc (.cells #[] 38)).ownsRow w.heap.size 38 7 (.slice (some ⟨w.heap.size, 0, none⟩) 0 0) 0 []) := ⟨rfl, .inr ⟨w.heap.size, 0, #[], rfl, Nat.le_refl _, heap_alloc_new w _, Nat.le_refl _, Nat.zero_le _, rfl, rfl⟩⟩
  have HC : Hid (∀ j u, (gCells l)[j]? = some u → (w.alloc (.cells #[] 38)).cell? ((⟨b, off, none⟩ : Addr).add j) = some u) := fun j u hu => by
    have : (⟨b, off, none⟩ : Addr).add j = ⟨b, off + j, none⟩ := by unfold Addr.add; split <;> simp_all
    rw [this]
    exact ((al_b w _).cell (p := ⟨b, off + j, none⟩) hlt).trans (hc j u hu)
  have HB : Hid (Below w.heap.size w (w.alloc (.cells #[] 38))) := al_b w _
  have heq : ∀ w, (binOp BinOp.eql 50 (.slice (some ⟨b, off, none⟩) l.length cap) (.slice none 0 0)).run Tryd.prog w = .ok (.bool false) w := fun w => by kernel_rfl
  clear hr hc
  go_enter Tryd.func30, Tryd.ntmps30
  go_wp2_with (at_builtin; go_loud (refine wpList_append_own (w.alloc (.cells #[] 38)) rfl (.tmp 5) (.tmp 6) 50 rfl w.heap.size 38 i0 _ 7 88 Tryd.underlying50 hi0 hz0 hz1 hz2 rfl (by decide) (.slice (some ⟨w.heap.size, 0, none⟩) 0 0) 0 [] rfl HW.out ⟨b, off, none⟩ l.length cap (gCells l) rfl (gCells_len l) HC.out (oneGs_cell l) (by unfold maxLen; omega) (by omega) (by simp) ?_; intro v4 w4 hown4 hg4 hne4))
  rw [Nat.zero_add, List.nil_append] at hown4
  have HO : Hid (w4.ownsRow w.heap.size 38 7 v4 l.length (gCells l)) := hown4
  have HB4 : Hid (Below w.heap.size w w4) := HB.out.grown hg4 HB.out.size (fun k hk => by cases hk; exact Nat.le_refl _)
  clear hown4 hg4 hne4 HC HW
  go_wp2
  go_ret
  exact ⟨_, rfl, HO.out, HB4.out⟩
theorem cloneG_nil (w : World) : Calls Tryd.prog 30 #[.slice none 0 0] w fun e w' => ClG [] w e w' := by
  have heq : ∀ w, (binOp BinOp.eql 50 (.slice none 0 0) (.slice none 0 0)).run Tryd.prog w = .ok (.bool true) w := fun w => by kernel_rfl
  go_enter Tryd.func30, Tryd.ntmps30
  go_wp2
  go_ret
  exact ⟨_, rfl, ⟨rfl, .inl ⟨rfl, rfl⟩⟩, Below.refl _ _⟩
set_option maxRecDepth 100000 in
set_option maxHeartbeats 1000000 in
/-- None of a row that has a block. -/
theorem cloneG_none (g o cap : Nat) (w : World) :
    Calls Tryd.prog 30 #[.slice (some ⟨g, o, none⟩) 0 cap] w fun e w' => ClG [] w e w' := by
  obtain ⟨i0, hi0, hz0, hz1, hz2⟩ := info_parts info_gv
  have HW : Hid ((w.alloc (.cells #[] 38)).ownsRow w.heap.size 38 7 (.slice (some ⟨w.heap.size, 0, none⟩) 0 0) 0 []) := ⟨rfl, .inr ⟨w.heap.size, 0, #[], rfl, Nat.le_refl _, heap_alloc_new w _, Nat.le_refl _, Nat.zero_le _, rfl, rfl⟩⟩
  have HB : Hid (Below w.heap.size w (w.alloc (.cells #[] 38))) := al_b w _
  have heq : ∀ w, (binOp BinOp.eql 50 (.slice (some ⟨g, o, none⟩) 0 cap) (.slice none 0 0)).run Tryd.prog w = .ok (.bool false) w := fun w => by kernel_rfl
  go_enter Tryd.func30, Tryd.ntmps30
  go_wp2_with (at_builtin; go_loud (refine wpList_append_own (w.alloc (.cells #[] 38)) rfl (.tmp 5) (.tmp 6) 50 rfl w.heap.size 38 i0 _ 7 88 Tryd.underlying50 hi0 hz0 hz1 hz2 rfl (by decide) (.slice (some ⟨w.heap.size, 0, none⟩) 0 0) 0 [] rfl HW.out ⟨g, o, none⟩ 0 cap [] rfl rfl (fun j u hu => by simp at hu) (fun u hu => by simp at hu) (by unfold maxLen; omega) (by omega) (by simp) ?_; intro v4 w4 hown4 hg4 hne4))
  rw [Nat.zero_add, List.nil_append] at hown4
  have HO : Hid (w4.ownsRow w.heap.size 38 7 v4 0 []) := hown4
  have HB4 : Hid (Below w.heap.size w w4) := HB.out.grown hg4 HB.out.size (fun k hk => by cases hk; exact Nat.le_refl _)
  clear hown4 hg4 hne4 HW
  go_wp2
  go_ret
  exact ⟨_, rfl, HO.out, HB4.out⟩
end Go.Proofs.YtnldibcfpbignaaDoor
