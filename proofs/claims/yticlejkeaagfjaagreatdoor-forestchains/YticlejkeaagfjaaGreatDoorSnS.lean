/- slices.SortFunc of fields by their names: over the shelf's contract. -/
import Derived.Test.YticlejkeaagfjaaGreatDoorZd
import Derived.Test.YticlejkeaagfjaaGreatDoorSnM
import Derived.Test.YticlejkeaagfjaaGreatDoorZe
import Derived.Test.YticlejkeaagfjaaGreatDoorSShelf
import Derived.Shelf.SlSortCmp.NoneTotal
namespace Go.Proofs.YticlejkeaagfjaaGreatDoor
open Go.RowKit

/-- What leaves all there was, and has asked the tape no less often, has but drawn and grown. -/
theorem grow_of {w w' : World} (h : Below w.heap.size w w') (hd : w.drawn ≤ w'.drawn) : ∃ q os, w' = Sort.grow (w.drewN q) os := by
  refine ⟨w'.drawn - w.drawn, w'.heap.extract w.heap.size w'.heap.size, ?_⟩
  have h1 := h.os
  have h2 := h.tape
  have h3 := h.output
  have h4 := h.size
  have h5 := h.block
  obtain ⟨hp, tp, dr, os, ou⟩ := w
  obtain ⟨hp', tp', dr', os', ou'⟩ := w'
  dsimp only at *
  subst h1 h2 h3
  have e1 : hp' = hp ++ hp'.extract hp.size hp'.size := by
    apply Array.ext_getElem?
    intro i
    by_cases hi : i < hp.size
    · rw [Array.getElem?_append_left hi, h5 i hi]
    · rw [Array.getElem?_append_right (by omega), Array.getElem?_extract]
      by_cases h2 : i < hp'.size
      · rw [if_pos (by omega)]
        congr 1
        omega
      · rw [if_neg (by omega), Array.getElem?_eq_none (by omega)]
  have e2 : dr' = dr + (dr' - dr) := by omega
  unfold Sort.grow World.drewN
  dsimp only
  congr
/-- Fields whose names are not too long to be held against each other. -/
abbrev Fs := { x : Fd // x.n.size ≤ 1000000 }
instance : Inhabited Fs := ⟨⟨⟨⟨#[]⟩, 0, false⟩, by decide⟩⟩
def enFs (x : Fs) : List Value := enF x.1
def cfF (x y : Fs) : Int := cmpL x.1.n.data.toList y.1.n.data.toList
theorem byName_g (x y : Fs) (w : World) (hT : UT w) : Calls Tryz.prog 86 #[.agg (enFs x).toArray, .agg (enFs y).toArray] w fun e w' => e = .returned (.int .i64 (cfF x y)) ∧ ∃ q os, w' = Sort.grow (w.drewN q) os := by
  refine (calls_drawn (byName_any x.1 y.1 w x.2 y.2 hT) (fun e w' h => ⟨_, h.1⟩)).mono ?_
  rintro e w' ⟨⟨rfl, hb⟩, hd⟩
  exact ⟨rfl, grow_of hb hd⟩
theorem ltFs (x y : Fs) : ltOf cfF x y = true ↔ ltF x.1 y.1 := by
  unfold ltOf cfF ltF
  rw [decide_eq_true_eq, cmpL_lt]
theorem swoF : Sort.SWO (ltOf cfF) where
  irrefl x := by
    cases h : ltOf cfF x x
    · rfl
    · exact absurd ((ltFs x x).1 h) (ltF_irr _)
  trans x y z h1 h2 := (ltFs x z).2 (ltF_trans ((ltFs x y).1 h1) ((ltFs y z).1 h2))
  ntrans x y z h1 h2 := by
    cases h : ltOf cfF x z
    · rfl
    · exfalso
      have hxz := (ltFs x z).1 h
      have n1 : ¬ ltF x.1 y.1 := fun hh => by rw [(ltFs x y).2 hh] at h1; cases h1
      have n2 : ¬ ltF y.1 z.1 := fun hh => by rw [(ltFs y z).2 hh] at h2; cases h2
      unfold ltF cmpL at *
      have v1 := cmp_vals (foldL x.1.n.data.toList) (foldL y.1.n.data.toList)
      have v2 := cmp_vals (foldL y.1.n.data.toList) (foldL z.1.n.data.toList)
      have a1 := cmp_anti (foldL x.1.n.data.toList) (foldL y.1.n.data.toList)
      have a2 := cmp_anti (foldL y.1.n.data.toList) (foldL z.1.n.data.toList)
      rcases v1 with v1 | v1 | v1
      · exact n1 v1
      · have e := cmp_zero _ _ v1
        rw [← e] at n2
        exact n2 hxz
      · rcases v2 with v2 | v2 | v2
        · exact n2 v2
        · have e := cmp_zero _ _ v2
          rw [e] at n1
          exact n1 hxz
        · have t := cmp_trans _ _ _ (show Lib.compareBytes (foldL z.1.n.data.toList) (foldL y.1.n.data.toList) = -1 by omega) (show Lib.compareBytes (foldL y.1.n.data.toList) (foldL x.1.n.data.toList) = -1 by omega)
          have a3 := cmp_anti (foldL z.1.n.data.toList) (foldL x.1.n.data.toList)
          omega
theorem flat_getF : ∀ (D : List Fs) (j : Nat), j < D.length * 3 → (D.flatMap enFs)[j]? = some ((enFs (D[j / 3]!))[j % 3]!)
  | [], j, h => absurd h (by simp)
  | d :: D, 0, _ => rfl
  | d :: D, 1, _ => rfl
  | d :: D, 2, _ => rfl
  | d :: D, j + 3, h => by
    have e : (d :: D).flatMap enFs = enFs d ++ D.flatMap enFs := by simp
    have z : (enFs d).length = 3 := rfl
    rw [e, List.getElem?_append_right (by omega), show j + 3 - (enFs d).length = j by omega, flat_getF D j (by rw [List.length_cons] at h; omega), show (j + 3) / 3 = j / 3 + 1 by omega, show (j + 3) % 3 = j % 3 by omega]
    simp
theorem flatFs_len (D : List Fs) : (D.flatMap enFs).length = D.length * 3 := by
  induction D with
  | nil => rfl
  | cons d D ih => rw [List.flatMap_cons, List.length_append, ih, List.length_cons]; show 3 + _ = _; omega
theorem flatFs_eq (D : List Fs) : D.flatMap enFs = fCells (D.map Subtype.val) := by
  unfold fCells enFs
  rw [List.flatMap_map]
theorem below_sortF {base g m : Nat} {w : World} {d : Array Fs} {os : Array Obj} (hg : base ≤ g) (hgl : g < w.heap.size) : Below base w (sortWorldK enFs 3 w g 0 m d os) := by
  refine ⟨rfl, rfl, rfl, ?_, ?_⟩
  · show w.heap.size ≤ ((w.heap.modify g _) ++ os).size
    simp
  · intro k hk
    show ((w.heap.modify g _) ++ os)[k]? = w.heap[k]?
    by_cases hks : k < w.heap.size
    · rw [Array.getElem?_append_left (by simpa using hks), Array.getElem?_modify, if_neg (by omega)]
    · exact absurd (Nat.lt_of_lt_of_le hk hg) (by omega)
set_option maxRecDepth 100000 in
theorem sort_ownF (g cap base : Nat) (D : List Fs) (w : World) (hown : w.ownsRow base 93 3 (.slice (some ⟨g, 0, none⟩) D.length cap) D.length (D.flatMap enFs)) (hn : D.length ≤ 1000) (hU : ∀ w', Below base w w' → UT w') :
    Calls Tryz.prog 129 #[.slice (some ⟨g, 0, none⟩) D.length cap, .func (.func 86) #[] #[]] w fun e w' => e = .returned (.tuple #[]) ∧
      ∃ D' : List Fs, D'.Perm D ∧ D'.Pairwise (fun a b => ¬ cfF b a < 0) ∧ IsRow w' 3 (.slice (some ⟨g, 0, none⟩) D.length cap) D.length (D'.flatMap enFs) ∧ Below base w w' := by
  obtain ⟨hxl, ⟨hv, _⟩ | ⟨g', cap', cur, hv, hbg, hg, hnc, hcm, hcs, htk⟩⟩ := hown
  · cases hv
  simp only [Value.slice.injEq, Option.some.injEq, Addr.mk.injEq, and_true, true_and] at hv
  obtain ⟨rfl, rfl⟩ := hv
  have hlt : g < w.heap.size := (Array.getElem?_eq_some_iff.1 hg).1
  have hH : Sort.HoldsK enFs 3 w g 0 D.toArray := by
    intro j hj
    rw [Sort.size_flatK] at hj
    simp only [List.size_toArray] at hj
    refine ⟨?_, by simp [World.frozen?, hg]⟩
    rw [Sort.get_flatK enFs 3 D.toArray j (by simpa using hj), Nat.zero_add, Lib.cell_of_heap hg]
    have h2 := flat_getF D j hj
    rw [← htk, List.getElem?_take_of_lt hj] at h2
    simpa using h2
  have eg : ∀ args w, (callFunc 86 args).run Tryz.prog w = .ok (.enter 86 args) w := enters_of Tryz.func86 (by kernel_rfl) rfl
  have hcmp : CmpLays Tryz.prog 86 #[] enFs 3 cfF g 0 D.toArray.size w := fun m os dk _ x y => byName_g x y _ (hU _ (below_sortF hbg hlt))
  have hcon := AnyQ.slices_SortFunc Tryz.sortFd 3 Tryz.isAgg93 Tryz.sizeOf93 enFs (fun _ => rfl) (fun x v hv => by simp [enFs, enF] at hv; rcases hv with rfl | rfl | rfl <;> rfl) cfF swoF 86 #[] g 0 cap D.toArray w eg hcmp hH hlt (by simp; omega)
  rw [List.size_toArray] at hcon
  refine hcon.mono ?_
  rintro e w' ⟨rfl, d', m, os, ⟨hds, _, hp⟩, hs, rfl⟩
  have hds : d'.size = D.length := by simpa using hds
  refine ⟨rfl, d'.toList, ?_, ?_, ?_, below_sortF hbg hlt⟩
  · have e1 : d'.extract 0 D.length = d' := by rw [← hds]; exact Array.extract_size
    have e2 : D.toArray.extract 0 D.length = D.toArray := by
      have := @Array.extract_size _ D.toArray
      rwa [List.size_toArray] at this
    rw [e1, e2] at hp
    exact hp
  · rw [List.pairwise_iff_getElem]
    intro i j hi hj hij
    have hj' : j < d'.size := by simpa using hj
    have := hs i j (Nat.zero_le _) hij (by omega)
    rw [getElem!_pos d' j hj', getElem!_pos d' i (by omega)] at this
    unfold ltOf at this
    simpa using this
  · have hH2 : Sort.HoldsK enFs 3 (sortWorldK enFs 3 w g 0 m d' os) g 0 d' := Sort.holdsK_grow enFs 3 _ os g 0 d' (by show g < (w.heap.modify g _).size; simpa using hlt) (Sort.holdsK_putRowK enFs 3 (Sort.ahead w m) g 0 D.toArray d' (Sort.holdsK_ahead enFs 3 w m g 0 D.toArray hH) (by simpa using hds))
    have hl2 : d'.toList.length = D.length := by simpa using hds
    refine ⟨by rw [flatFs_len, hl2], .inr ⟨g, 0, cap, rfl, ?_, hnc, hcm, ?_⟩⟩
    · show g < ((w.heap.modify g _) ++ os).size
      simp
      omega
    · intro j u hu
      have hj : j < d'.toList.length * 3 := by rw [← flatFs_len]; exact (List.getElem?_eq_some_iff.1 hu).1
      have h3 := (hH2 j (by rw [Sort.size_flatK]; simpa using hj)).1
      rw [Sort.get_flatK enFs 3 d' j (by simpa using hj)] at h3
      rw [flat_getF _ j hj] at hu
      have hq : j / 3 < d'.size := by simp at hj; omega
      have e : d'.toList[j / 3]! = d'[j / 3]! := by rw [getElem!_pos d' _ hq, getElem!_pos d'.toList _ (by simpa using hq)]; simp
      rw [h3, ← hu, e]
      rfl
/-- The sort of a row of fields that the call owns. -/
theorem sortF_any (v : Value) (l : List Fd) (base : Nat) (w : World) (hown : w.ownsRow base 93 3 v l.length (fCells l)) (hn : l.length ≤ 1000) (hm : NmF l) (hU : ∀ w', Below base w w' → UT w') :
    Calls Tryz.prog 129 #[v, .func (.func 86) #[] #[]] w fun e w' => e = .returned (.tuple #[]) ∧
      ∃ D : List Fd, D.Perm l ∧ D.Pairwise leF ∧ IsRow w' 3 v l.length (fCells D) ∧ Below base w w' := by
  by_cases h0 : l.length = 0
  · obtain rfl : l = [] := List.eq_nil_of_length_eq_zero h0
    obtain ⟨a0, cap0, rfl⟩ := (IsRow.own hown).form
    refine (AnyF.slices_SortFunc_none Tryz.sortFd a0 cap0 _ w).mono ?_
    rintro e w' ⟨rfl, rfl⟩
    exact ⟨rfl, [], List.Perm.refl _, List.Pairwise.nil, IsRow.own hown, Below.refl _ _⟩
  · obtain ⟨g, cap, rfl⟩ : ∃ g cap, v = .slice (some ⟨g, 0, none⟩) l.length cap := by
      rcases hown.2 with ⟨_, h⟩ | ⟨g, cap, cur, hv, -⟩
      · exact absurd h h0
      · exact ⟨g, cap, hv⟩
    obtain ⟨D, hD⟩ : ∃ D : List Fs, D.map Subtype.val = l := ⟨l.attach.map fun x => ⟨x.1, hm x.1 x.2⟩, by simp [List.map_map, Function.comp_def]⟩
    have hlen : l.length = D.length := by rw [← hD, List.length_map]
    rw [← hD, ← flatFs_eq] at hown
    rw [List.length_map] at hown
    rw [hlen]
    refine (sort_ownF g cap base D w hown (by omega) hU).mono ?_
    rintro e w' ⟨rfl, D', hp, hs, hr, hb⟩
    refine ⟨rfl, D'.map Subtype.val, ?_, ?_, ?_, hb⟩
    · rw [← hD]; exact hp.map _
    · rw [List.pairwise_map]; exact hs
    · rw [← flatFs_eq]; exact hr
end Go.Proofs.YticlejkeaagfjaaGreatDoor
