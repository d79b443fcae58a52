/- ring.compareStands; the sort of a row of the call's own; ring.stands: walks. -/
import Derived.Test.YtpepdcbhimjddaaDoorJB
import Derived.Shelf.SlSortCmp.NoneTotal
namespace Go.Proofs.YtpepdcbhimjddaaDoor
open Go.RowKit

/-- One that stands on the ring, in cells. -/
def enS (x : Int × Int) : List Value := [.int .i64 x.1, .int .u64 x.2]
abbrev SC (w0 : World) (x y : Int × Int) (w : World) : Prop :=
  w.cell? ⟨w0.heap.size, 0, none⟩ = some (.int .i64 x.1) ∧ w.cell? ⟨w0.heap.size, 1, none⟩ = some (.int .u64 x.2) ∧ w.cell? ⟨w0.heap.size + 1, 0, none⟩ = some (.int .i64 y.1) ∧ w.cell? ⟨w0.heap.size + 1, 1, none⟩ = some (.int .u64 y.2) ∧ w0.heap.size + 1 < w.heap.size ∧ ∃ q os, w = Sort.grow (w0.drewN q) os
theorem SC_drew {w0 W : World} {x y : Int × Int} (h : SC w0 x y W) : SC w0 x y W.drew := by
  obtain ⟨a0, a1, a2, a3, l1, q, os, rfl⟩ := h
  exact ⟨a0, a1, a2, a3, l1, q + 1, os, rfl⟩
theorem SC_alloc {w0 W : World} {x y : Int × Int} (o : Obj) (h : SC w0 x y W) : SC w0 x y (W.alloc o) := by
  obtain ⟨a0, a1, a2, a3, l1, q, os, rfl⟩ := h
  have hb := (Below.refl (Sort.grow (w0.drewN q) os).heap.size (Sort.grow (w0.drewN q) os)).alloc (Nat.le_refl _) o
  refine ⟨(hb.cell (p := ⟨w0.heap.size, 0, none⟩) (show w0.heap.size < _ by omega)).trans a0, (hb.cell (p := ⟨w0.heap.size, 1, none⟩) (show w0.heap.size < _ by omega)).trans a1, (hb.cell (p := ⟨w0.heap.size + 1, 0, none⟩) l1).trans a2, (hb.cell (p := ⟨w0.heap.size + 1, 1, none⟩) l1).trans a3, Nat.lt_of_lt_of_le l1 hb.size, q, os ++ #[o], ?_⟩
  rw [Sort.alloc_eq_grow, Sort.grow_grow]
theorem cfS_or (x y : Int × Int) : (if c3 x.2 y.2 = 0 then c3 x.1 y.1 else c3 x.2 y.2) = cfS x y := by
  unfold cfS c3
  by_cases h1 : x.2 < y.2
  · simp [h1]
  · by_cases h2 : y.2 < x.2
    · simp [h1, h2]
    · simp [h1, h2]
set_option maxRecDepth 100000 in
set_option maxHeartbeats 2000000 in
theorem compare_st (x y : Int × Int) (w : World) : Calls Tryd.prog 82 #[.agg #[.int .i64 x.1, .int .u64 x.2], .agg #[.int .i64 y.1, .int .u64 y.2]] w fun e w' => e = .returned (.int .i64 (cfS x y)) ∧ ∃ q os, w' = Sort.grow (w.drewN q) os := by
  have HO := cfS_or x y
  generalize hu : c3 x.2 y.2 = u at HO
  generalize hv : c3 x.1 y.1 = v at HO
  have HU : Hid (∀ w, Calls Tryd.prog 93 #[.int .u64 x.2, .int .u64 y.2] w fun e w' => e = .returned (.int .i64 u) ∧ w' = w) := fun w => by rw [← hu]; exact compU _ _ w
  have HV : Hid (∀ w, Calls Tryd.prog 94 #[.int .i64 x.1, .int .i64 y.1] w fun e w' => e = .returned (.int .i64 v) ∧ w' = w) := fun w => by rw [← hv]; exact compI _ _ w
  clear hu hv
  have hS : SC w x y ((w.alloc (.cells #[.int .i64 x.1, .int .u64 x.2] 117)).alloc (.cells #[.int .i64 y.1, .int .u64 y.2] 117)) := by
    refine ⟨by simp, by simp, by simp, by simp, by simp, 0, #[.cells #[.int .i64 x.1, .int .u64 x.2] 117, .cells #[.int .i64 y.1, .int .u64 y.2] 117], ?_⟩
    rw [Sort.alloc_eq_grow, Sort.alloc_eq_grow, Sort.grow_grow]
    rfl
  obtain ⟨r, hr⟩ : ∃ r, r = cfS x y := ⟨_, rfl⟩
  rw [← hr] at HO ⊢
  have HR : Hid (∀ (b : Nat) (w : World), w.cell? ⟨b, 0, none⟩ = some (.int .i64 u) → w.cell? ⟨b, 1, none⟩ = some (.int .i64 v) → Calls Tryd.prog 92 #[.slice (some ⟨b, 0, none⟩) 2 2] w fun e w' => e = .returned (.int .i64 r) ∧ w' = w) := fun b w h0 h1 => by rw [← HO]; exact or_two b u v w h0 h1
  clear HO hr
  go_enter Tryd.func82, Tryd.ntmps82
  go_wp2_with fail
  generalize (w.alloc (.cells #[.int .i64 x.1, .int .u64 x.2] 117)).alloc (.cells #[.int .i64 y.1, .int .u64 y.2] 117) = W at *
  obtain ⟨x1, x2⟩ := x
  obtain ⟨y1, y2⟩ := y
  simp only at HU HV
  go_region_held3 (fun w' => SC w (x1, x2) (y1, y2) w') (first | assumption | exact SC_drew (by assumption) | exact SC_alloc _ (by assumption) | exact SC_drew (SC_alloc _ (by assumption)) | exact SC_alloc _ (SC_drew (by assumption)))
    (first
      | (go_at_call 93; refine (HU.out _).mono ?_; rintro e w' ⟨rfl, rfl⟩)
      | (go_at_call 94; refine (HV.out _).mono ?_; rintro e w' ⟨rfl, rfl⟩)
      | (go_at_call 92; refine (HR.out _ _ (by simp) (by simp)).mono ?_; rintro e w' ⟨rfl, rfl⟩))
  rename_i hS3
  have hS4 := hS3.2.2.2.2.2
  clear hS3 hS
  go_wp2
  go_ret
  exact ⟨rfl, hS4⟩
theorem ltS (x y : Int × Int) : ltOf cfS x y = decide (x.2 < y.2 ∨ x.2 = y.2 ∧ x.1 < y.1) := by
  unfold ltOf cfS
  by_cases h1 : x.2 < y.2
  · simp [h1]
  · by_cases h2 : y.2 < x.2
    · rw [if_neg h1, if_pos h2, decide_eq_false (by decide), decide_eq_false (by omega)]
    · by_cases h3 : x.1 < y.1
      · rw [if_neg h1, if_neg h2, if_pos h3, decide_eq_true (by decide), decide_eq_true (by omega)]
      · by_cases h4 : y.1 < x.1
        · rw [if_neg h1, if_neg h2, if_neg h3, if_pos h4, decide_eq_false (by decide), decide_eq_false (by omega)]
        · rw [if_neg h1, if_neg h2, if_neg h3, if_neg h4, decide_eq_false (by decide), decide_eq_false (by omega)]
theorem swoS : Sort.SWO (ltOf cfS) where
  irrefl x := by rw [ltS]; simp
  trans x y z h1 h2 := by rw [ltS] at *; simp at *; omega
  ntrans x y z h1 h2 := by rw [ltS] at *; simp at *; omega
theorem flat_get : ∀ (D : List (Int × Int)) (j : Nat), j < D.length * 2 → (D.flatMap enS)[j]? = some ((enS (D[j / 2]!))[j % 2]!)
  | [], j, h => absurd h (by simp)
  | d :: D, 0, _ => rfl
  | d :: D, 1, _ => rfl
  | d :: D, j + 2, h => by
    have e : (d :: D).flatMap enS = enS d ++ D.flatMap enS := by simp
    have z : (enS d).length = 2 := rfl
    rw [e, List.getElem?_append_right (by omega), show j + 2 - (enS d).length = j by omega, flat_get D j (by rw [List.length_cons] at h; omega), show (j + 2) / 2 = j / 2 + 1 by omega, show (j + 2) % 2 = j % 2 by omega]
    simp
theorem flatS_len (D : List (Int × Int)) : (D.flatMap enS).length = D.length * 2 := by
  induction D with
  | nil => rfl
  | cons d D ih => rw [List.flatMap_cons, List.length_append, ih, List.length_cons]; show 2 + _ = _; omega
theorem below_sort {base g m : Nat} {w : World} {d : Array (Int × Int)} {os : Array Obj} (hg : base ≤ g) (hgl : g < w.heap.size) : Below base w (sortWorldK enS 2 w g 0 m d os) := by
  refine ⟨rfl, rfl, rfl, ?_, ?_⟩
  · show w.heap.size ≤ ((w.heap.modify g _) ++ os).size
    simp
  · intro k hk
    show ((w.heap.modify g _) ++ os)[k]? = w.heap[k]?
    by_cases hks : k < w.heap.size
    · rw [Array.getElem?_append_left (by simpa using hks), Array.getElem?_modify, if_neg (by omega)]
    · exact absurd (Nat.lt_of_lt_of_le hk hg) (by omega)
set_option maxRecDepth 100000 in
theorem sort_own (g cap base : Nat) (D : List (Int × Int)) (w : World) (hown : w.ownsRow base 117 2 (.slice (some ⟨g, 0, none⟩) D.length cap) D.length (D.flatMap enS)) (hn : D.length ≤ 1000) :
    Calls Tryd.prog 81 #[.slice (some ⟨g, 0, none⟩) D.length cap, .func (.func 82) #[] #[]] w fun e w' => e = .returned (.tuple #[]) ∧
      ∃ D' : List (Int × Int), D'.Perm D ∧ D'.Pairwise (fun a b => ¬ cfS b a < 0) ∧ IsRow w' 2 (.slice (some ⟨g, 0, none⟩) D.length cap) D.length (D'.flatMap enS) ∧ Below base w w' := by
  obtain ⟨hxl, ⟨hv, _⟩ | ⟨g', cap', cur, hv, hbg, hg, hnc, hcm, hcs, htk⟩⟩ := hown
  · cases hv
  simp only [Value.slice.injEq, Option.some.injEq, Addr.mk.injEq, and_true, true_and] at hv
  obtain ⟨rfl, rfl⟩ := hv
  have hlt : g < w.heap.size := (Array.getElem?_eq_some_iff.1 hg).1
  have hH : Sort.HoldsK enS 2 w g 0 D.toArray := by
    intro j hj
    rw [Sort.size_flatK] at hj
    simp only [List.size_toArray] at hj
    refine ⟨?_, by simp [World.frozen?, hg]⟩
    rw [Sort.get_flatK enS 2 D.toArray j (by simpa using hj), Nat.zero_add, Lib.cell_of_heap hg]
    have h2 := flat_get D j hj
    rw [← htk, List.getElem?_take_of_lt hj] at h2
    simpa using h2
  have eg : ∀ args w, (callFunc 82 args).run Tryd.prog w = .ok (.enter 82 args) w := enters_of Tryd.func82 (by kernel_rfl) rfl
  have hcmp : CmpLays Tryd.prog 82 #[] enS 2 cfS g 0 D.toArray.size w := fun _ _ _ _ x y => compare_st x y _
  have hcon := AnyQ.slices_SortFunc Tryd.sortSt 2 Tryd.isAgg117 Tryd.sizeOf117 enS (fun _ => rfl) (fun x v hv => by simp [enS] at hv; rcases hv with rfl | rfl <;> rfl) cfS swoS 82 #[] g 0 cap D.toArray w eg hcmp hH hlt (by simp; omega)
  rw [List.size_toArray] at hcon
  refine hcon.mono ?_
  rintro e w' ⟨rfl, d', m, os, ⟨hds, _, hp⟩, hs, rfl⟩
  have hds : d'.size = D.length := by simpa using hds
  refine ⟨rfl, d'.toList, ?_, ?_, ?_, below_sort hbg hlt⟩
  · have e1 : d'.extract 0 D.length = d' := by rw [← hds]; exact Array.extract_size
    have e2 : D.toArray.extract 0 D.length = D.toArray := by
      have := @Array.extract_size _ D.toArray
      rwa [List.size_toArray] at this
    rw [e1, e2] at hp
    exact hp
  · rw [List.pairwise_iff_getElem]
    intro i j hi hj hij
    have hj' : j < d'.size := by simpa using hj
    have := hs i j (Nat.zero_le _) hij (by omega)
    rw [getElem!_pos d' j hj', getElem!_pos d' i (by omega)] at this
    unfold ltOf at this
    simpa using this
  · have hH2 : Sort.HoldsK enS 2 (sortWorldK enS 2 w g 0 m d' os) g 0 d' := Sort.holdsK_grow enS 2 _ os g 0 d' (by show g < (w.heap.modify g _).size; simpa using hlt) (Sort.holdsK_putRowK enS 2 (Sort.ahead w m) g 0 D.toArray d' (Sort.holdsK_ahead enS 2 w m g 0 D.toArray hH) (by simpa using hds))
    have hl2 : d'.toList.length = D.length := by simpa using hds
    refine ⟨by rw [flatS_len, hl2], .inr ⟨g, 0, cap, rfl, ?_, hnc, hcm, ?_⟩⟩
    · show g < ((w.heap.modify g _) ++ os).size
      simp
      omega
    · intro j u hu
      have hj : j < d'.toList.length * 2 := by rw [← flatS_len]; exact (List.getElem?_eq_some_iff.1 hu).1
      have h3 := (hH2 j (by rw [Sort.size_flatK]; simpa using hj)).1
      rw [Sort.get_flatK enS 2 d' j (by simpa using hj)] at h3
      rw [flat_get _ j hj] at hu
      have hq : j / 2 < d'.size := by simp at hj; omega
      have e : d'.toList[j / 2]! = d'[j / 2]! := by rw [getElem!_pos d' _ hq, getElem!_pos d'.toList _ (by simpa using hq)]; simp
      rw [h3, ← hu, e]
      rfl
end Go.Proofs.YtpepdcbhimjddaaDoor
