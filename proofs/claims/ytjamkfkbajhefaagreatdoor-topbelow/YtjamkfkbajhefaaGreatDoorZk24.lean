/- The shelf's contract of slices.SortFunc, at this program, laid by the shelf's tool in plain words. -/
import Derived.Shelf.SlSortCmp.NoneTotal
import Derived.Ground.SlsfProg
import Derived.Test.YtjamkfkbajhefaaGreatDoorProg
import Derived.Test.YtjamkfkbajhefaaGreatDoorZk23
import Derived.Test.YtjamkfkbajhefaaGreatDoorZk22
import Derived.Test.YtjamkfkbajhefaaGreatDoorZk7
namespace Go.Proofs
open Go.Shelf
def Tryz.sortFd_ren : Go.Shelf.Ren := ⟨fun | 6 => 108 | 15 => 131 | 14 => 130 | 28 => 158 | 29 => 159 | 20 => 150 | 21 => 151 | 22 => 152 | 23 => 153 | 24 => 154 | 25 => 155 | 26 => 156 | 27 => 157 | 46 => 179 | 47 => 180 | 48 => 181 | 49 => 182 | 50 => 183 | 57 => 201 | n => n, fun | 22 => 35 | 24 => 48 | 25 => 105 | 3 => 3 | 39 => 134 | 0 => 0 | 53 => 215 | 55 => 171 | 4 => 4 | 46 => 209 | 45 => 208 | 50 => 99 | 5 => 5 | 9 => 9 | 66 => 231 | 70 => 235 | 76 => 246 | 77 => 247 | n => n, fun | n => n⟩
theorem Tryz.sortFd : Go.Proofs.SlLaysF0.n6 Tryz.prog Tryz.sortFd_ren := {
  mixed := by kernel_rfl
  f6 := ⟨Tryz.f108.name, by decide, Tryz.func108.trans (congrArg some (by kernel_rfl))⟩
  f14 := ⟨Tryz.f130.name, by decide, Tryz.func130.trans (congrArg some (by kernel_rfl))⟩
  f15 := Tryz.func131.trans (congrArg some (by kernel_rfl))
  f20 := ⟨Tryz.f150.name, by decide, Tryz.func150.trans (congrArg some (by kernel_rfl))⟩
  f21 := ⟨Tryz.f151.name, by decide, Tryz.func151.trans (congrArg some (by kernel_rfl))⟩
  f22 := ⟨Tryz.f152.name, by decide, Tryz.func152.trans (congrArg some (by kernel_rfl))⟩
  f23 := ⟨Tryz.f153.name, by decide, Tryz.func153.trans (congrArg some (by kernel_rfl))⟩
  f24 := ⟨Tryz.f154.name, by decide, Tryz.func154.trans (congrArg some (by kernel_rfl))⟩
  f25 := ⟨Tryz.f155.name, by decide, Tryz.func155.trans (congrArg some (by kernel_rfl))⟩
  f26 := ⟨Tryz.f156.name, by decide, Tryz.func156.trans (congrArg some (by kernel_rfl))⟩
  f27 := ⟨Tryz.f157.name, by decide, Tryz.func157.trans (congrArg some (by kernel_rfl))⟩
  f28 := Tryz.func158.trans (congrArg some (by kernel_rfl))
  f29 := Tryz.func159.trans (congrArg some (by kernel_rfl))
  f46 := ⟨Tryz.f179.name, by decide, Tryz.func179.trans (congrArg some (by kernel_rfl))⟩
  f47 := Tryz.func180.trans (congrArg some (by kernel_rfl))
  f48 := Tryz.func181.trans (congrArg some (by kernel_rfl))
  f49 := ⟨Tryz.f182.name, by decide, Tryz.func182.trans (congrArg some (by kernel_rfl))⟩
  f50 := ⟨Tryz.f183.name, by decide, Tryz.func183.trans (congrArg some (by kernel_rfl))⟩
  f57 := ⟨Tryz.f201.name, by decide, Tryz.func201.trans (congrArg some (by kernel_rfl))⟩
  t0 := Tryz.underlying0
  a0 := Tryz.isAgg0
  z0 := Tryz.sizeOf0
  v0 := Tryz.zeroValue0
  t3 := Tryz.underlying3
  a3 := Tryz.isAgg3
  z3 := Tryz.sizeOf3
  v3 := Tryz.zeroValue3
  t4 := Tryz.underlying4
  a4 := Tryz.isAgg4
  z4 := Tryz.sizeOf4
  v4 := Tryz.zeroValue4
  t5 := Tryz.underlying5
  a5 := Tryz.isAgg5
  z5 := Tryz.sizeOf5
  v5 := Tryz.zeroValue5
  t9 := Tryz.underlying9
  a9 := Tryz.isAgg9
  z9 := Tryz.sizeOf9
  v9 := Tryz.zeroValue9
  t22 := Tryz.underlying35
  a22 := Tryz.isAgg35
  z22 := Tryz.sizeOf35
  v22 := Tryz.zeroValue35
  t25 := Tryz.underlying105
  a25 := Tryz.isAgg105
  z25 := Tryz.sizeOf105
  v25 := Tryz.zeroValue105
  t39 := Tryz.underlying134
  a39 := Tryz.isAgg134
  z39 := Tryz.sizeOf134
  v39 := Tryz.zeroValue134
  t45 := Tryz.underlying208
  a45 := Tryz.isAgg208
  z45 := Tryz.sizeOf208
  v45 := Tryz.zeroValue208
  t46 := Tryz.underlying209
  a46 := Tryz.isAgg209
  z46 := Tryz.sizeOf209
  v46 := Tryz.zeroValue209
  t50 := Tryz.underlying99
  a50 := Tryz.isAgg99
  z50 := Tryz.sizeOf99
  v50 := Tryz.zeroValue99
  t53 := Tryz.underlying215
  a53 := Tryz.isAgg215
  z53 := Tryz.sizeOf215
  v53 := Tryz.zeroValue215
  t55 := Tryz.underlying171
  a55 := Tryz.isAgg171
  z55 := Tryz.sizeOf171
  v55 := Tryz.zeroValue171
  t66 := Tryz.underlying231
  a66 := Tryz.isAgg231
  z66 := Tryz.sizeOf231
  v66 := Tryz.zeroValue231
  t70 := Tryz.underlying235
  a70 := Tryz.isAgg235
  z70 := Tryz.sizeOf235
  v70 := Tryz.zeroValue235
  t76 := Tryz.underlying246
  a76 := Tryz.isAgg246
  z76 := Tryz.sizeOf246
  v76 := Tryz.zeroValue246
  t77 := Tryz.underlying247
  a77 := Tryz.isAgg247
  z77 := Tryz.sizeOf247
  v77 := Tryz.zeroValue247 }
end Go.Proofs
/- slices.SortFunc of fields by their names: over the shelf's contract. -/
namespace Go.Proofs.YtjamkfkbajhefaaGreatDoor
open Go.RowKit

/-- What leaves all there was, and has asked the tape no less often, has but drawn and grown. -/
theorem grow_of {w w' : World} (h : Below w.heap.size w w') (hd : w.drawn ≤ w'.drawn) : ∃ q os, w' = Sort.grow (w.drewN q) os := by
  refine ⟨w'.drawn - w.drawn, w'.heap.extract w.heap.size w'.heap.size, ?_⟩
  have h1 := h.os
  have h2 := h.tape
  have h3 := h.output
  have h4 := h.size
  have h5 := h.block
  obtain ⟨hp, tp, dr, os, ou⟩ := w
  obtain ⟨hp', tp', dr', os', ou'⟩ := w'
  dsimp only at *
  subst h1 h2 h3
  have e1 : hp' = hp ++ hp'.extract hp.size hp'.size := by
    apply Array.ext_getElem?
    intro i
    by_cases hi : i < hp.size
    · rw [Array.getElem?_append_left hi, h5 i hi]
    · rw [Array.getElem?_append_right (by omega), Array.getElem?_extract]
      by_cases h2 : i < hp'.size
      · rw [if_pos (by omega)]
        congr 1
        omega
      · rw [if_neg (by omega), Array.getElem?_eq_none (by omega)]
  have e2 : dr' = dr + (dr' - dr) := by omega
  unfold Sort.grow World.drewN
  dsimp only
  congr
/-- Fields whose names are not too long to be held against each other. -/
abbrev Fs := { x : Fd // x.n.size ≤ 1000000 }
instance : Inhabited Fs := ⟨⟨⟨⟨#[]⟩, 0, false⟩, by decide⟩⟩
def enFs (x : Fs) : List Value := enF x.1
def cfF (x y : Fs) : Int := cmpL x.1.n.data.toList y.1.n.data.toList
theorem byName_g (x y : Fs) (w : World) (hT : UT w) : Calls Tryz.prog 54 #[.agg (enFs x).toArray, .agg (enFs y).toArray] w fun e w' => e = .returned (.int .i64 (cfF x y)) ∧ ∃ q os, w' = Sort.grow (w.drewN q) os := by
  refine (calls_drawn (byName_any x.1 y.1 w x.2 y.2 hT) (fun e w' h => ⟨_, h.1⟩)).mono ?_
  rintro e w' ⟨⟨rfl, hb⟩, hd⟩
  exact ⟨rfl, grow_of hb hd⟩
theorem ltFs (x y : Fs) : ltOf cfF x y = true ↔ ltF x.1 y.1 := by
  unfold ltOf cfF ltF
  rw [decide_eq_true_eq, cmpL_lt]
theorem swoF : Sort.SWO (ltOf cfF) where
  irrefl x := by
    cases h : ltOf cfF x x
    · rfl
    · exact absurd ((ltFs x x).1 h) (ltF_irr _)
  trans x y z h1 h2 := (ltFs x z).2 (ltF_trans ((ltFs x y).1 h1) ((ltFs y z).1 h2))
  ntrans x y z h1 h2 := by
    cases h : ltOf cfF x z
    · rfl
    · exfalso
      have hxz := (ltFs x z).1 h
      have n1 : ¬ ltF x.1 y.1 := fun hh => by rw [(ltFs x y).2 hh] at h1; cases h1
      have n2 : ¬ ltF y.1 z.1 := fun hh => by rw [(ltFs y z).2 hh] at h2; cases h2
      unfold ltF cmpL at *
      have v1 := cmp_vals (foldL x.1.n.data.toList) (foldL y.1.n.data.toList)
      have v2 := cmp_vals (foldL y.1.n.data.toList) (foldL z.1.n.data.toList)
      have a1 := cmp_anti (foldL x.1.n.data.toList) (foldL y.1.n.data.toList)
      have a2 := cmp_anti (foldL y.1.n.data.toList) (foldL z.1.n.data.toList)
      rcases v1 with v1 | v1 | v1
      · exact n1 v1
      · have e := cmp_zero _ _ v1
        rw [← e] at n2
        exact n2 hxz
      · rcases v2 with v2 | v2 | v2
        · exact n2 v2
        · have e := cmp_zero _ _ v2
          rw [e] at n1
          exact n1 hxz
        · have t := cmp_trans _ _ _ (show Lib.compareBytes (foldL z.1.n.data.toList) (foldL y.1.n.data.toList) = -1 by omega) (show Lib.compareBytes (foldL y.1.n.data.toList) (foldL x.1.n.data.toList) = -1 by omega)
          have a3 := cmp_anti (foldL z.1.n.data.toList) (foldL x.1.n.data.toList)
          omega
theorem flat_getF : ∀ (D : List Fs) (j : Nat), j < D.length * 3 → (D.flatMap enFs)[j]? = some ((enFs (D[j / 3]!))[j % 3]!)
  | [], j, h => absurd h (by simp)
  | d :: D, 0, _ => rfl
  | d :: D, 1, _ => rfl
  | d :: D, 2, _ => rfl
  | d :: D, j + 3, h => by
    have e : (d :: D).flatMap enFs = enFs d ++ D.flatMap enFs := by simp
    have z : (enFs d).length = 3 := rfl
    rw [e, List.getElem?_append_right (by omega), show j + 3 - (enFs d).length = j by omega, flat_getF D j (by rw [List.length_cons] at h; omega), show (j + 3) / 3 = j / 3 + 1 by omega, show (j + 3) % 3 = j % 3 by omega]
    simp
theorem flatFs_len (D : List Fs) : (D.flatMap enFs).length = D.length * 3 := by
  induction D with
  | nil => rfl
  | cons d D ih => rw [List.flatMap_cons, List.length_append, ih, List.length_cons]; show 3 + _ = _; omega
theorem flatFs_eq (D : List Fs) : D.flatMap enFs = fCells (D.map Subtype.val) := by
  unfold fCells enFs
  rw [List.flatMap_map]
theorem below_sortF {base g m : Nat} {w : World} {d : Array Fs} {os : Array Obj} (hg : base ≤ g) (hgl : g < w.heap.size) : Below base w (sortWorldK enFs 3 w g 0 m d os) := by
  refine ⟨rfl, rfl, rfl, ?_, ?_⟩
  · show w.heap.size ≤ ((w.heap.modify g _) ++ os).size
    simp
  · intro k hk
    show ((w.heap.modify g _) ++ os)[k]? = w.heap[k]?
    by_cases hks : k < w.heap.size
    · rw [Array.getElem?_append_left (by simpa using hks), Array.getElem?_modify, if_neg (by omega)]
    · exact absurd (Nat.lt_of_lt_of_le hk hg) (by omega)
set_option maxRecDepth 100000 in
theorem sort_ownF (g cap base : Nat) (D : List Fs) (w : World) (hown : w.ownsRow base 48 3 (.slice (some ⟨g, 0, none⟩) D.length cap) D.length (D.flatMap enFs)) (hn : D.length ≤ 1000) (hU : ∀ w', Below base w w' → UT w') :
    Calls Tryz.prog 108 #[.slice (some ⟨g, 0, none⟩) D.length cap, .func (.func 54) #[] #[]] w fun e w' => e = .returned (.tuple #[]) ∧
      ∃ D' : List Fs, D'.Perm D ∧ D'.Pairwise (fun a b => ¬ cfF b a < 0) ∧ IsRow w' 3 (.slice (some ⟨g, 0, none⟩) D.length cap) D.length (D'.flatMap enFs) ∧ Below base w w' := by
  obtain ⟨hxl, ⟨hv, _⟩ | ⟨g', cap', cur, hv, hbg, hg, hnc, hcm, hcs, htk⟩⟩ := hown
  · cases hv
  simp only [Value.slice.injEq, Option.some.injEq, Addr.mk.injEq, and_true, true_and] at hv
  obtain ⟨rfl, rfl⟩ := hv
  have hlt : g < w.heap.size := (Array.getElem?_eq_some_iff.1 hg).1
  have hH : Sort.HoldsK enFs 3 w g 0 D.toArray := by
    intro j hj
    rw [Sort.size_flatK] at hj
    simp only [List.size_toArray] at hj
    refine ⟨?_, by simp [World.frozen?, hg]⟩
    rw [Sort.get_flatK enFs 3 D.toArray j (by simpa using hj), Nat.zero_add, Lib.cell_of_heap hg]
    have h2 := flat_getF D j hj
    rw [← htk, List.getElem?_take_of_lt hj] at h2
    simpa using h2
  have eg : ∀ args w, (callFunc 54 args).run Tryz.prog w = .ok (.enter 54 args) w := enters_of Tryz.func54 (by kernel_rfl) rfl
  have hcmp : CmpLays Tryz.prog 54 #[] enFs 3 cfF g 0 D.toArray.size w := fun m os dk _ x y => byName_g x y _ (hU _ (below_sortF hbg hlt))
  have hcon := AnyQ.slices_SortFunc Tryz.sortFd 3 Tryz.isAgg48 Tryz.sizeOf48 enFs (fun _ => rfl) (fun x v hv => by simp [enFs, enF] at hv; rcases hv with rfl | rfl | rfl <;> rfl) cfF swoF 54 #[] g 0 cap D.toArray w eg hcmp hH hlt (by simp; omega)
  rw [List.size_toArray] at hcon
  refine hcon.mono ?_
  rintro e w' ⟨rfl, d', m, os, ⟨hds, _, hp⟩, hs, rfl⟩
  have hds : d'.size = D.length := by simpa using hds
  refine ⟨rfl, d'.toList, ?_, ?_, ?_, below_sortF hbg hlt⟩
  · have e1 : d'.extract 0 D.length = d' := by rw [← hds]; exact Array.extract_size
    have e2 : D.toArray.extract 0 D.length = D.toArray := by
      have := @Array.extract_size _ D.toArray
      rwa [List.size_toArray] at this
    rw [e1, e2] at hp
    exact hp
  · rw [List.pairwise_iff_getElem]
    intro i j hi hj hij
    have hj' : j < d'.size := by simpa using hj
    have := hs i j (Nat.zero_le _) hij (by omega)
    rw [getElem!_pos d' j hj', getElem!_pos d' i (by omega)] at this
    unfold ltOf at this
    simpa using this
  · have hH2 : Sort.HoldsK enFs 3 (sortWorldK enFs 3 w g 0 m d' os) g 0 d' := Sort.holdsK_grow enFs 3 _ os g 0 d' (by show g < (w.heap.modify g _).size; simpa using hlt) (Sort.holdsK_putRowK enFs 3 (Sort.ahead w m) g 0 D.toArray d' (Sort.holdsK_ahead enFs 3 w m g 0 D.toArray hH) (by simpa using hds))
    have hl2 : d'.toList.length = D.length := by simpa using hds
    refine ⟨by rw [flatFs_len, hl2], .inr ⟨g, 0, cap, rfl, ?_, hnc, hcm, ?_⟩⟩
    · show g < ((w.heap.modify g _) ++ os).size
      simp
      omega
    · intro j u hu
      have hj : j < d'.toList.length * 3 := by rw [← flatFs_len]; exact (List.getElem?_eq_some_iff.1 hu).1
      have h3 := (hH2 j (by rw [Sort.size_flatK]; simpa using hj)).1
      rw [Sort.get_flatK enFs 3 d' j (by simpa using hj)] at h3
      rw [flat_getF _ j hj] at hu
      have hq : j / 3 < d'.size := by simp at hj; omega
      have e : d'.toList[j / 3]! = d'[j / 3]! := by rw [getElem!_pos d' _ hq, getElem!_pos d'.toList _ (by simpa using hq)]; simp
      rw [h3, ← hu, e]
      rfl
/-- The sort of a row of fields that the call owns. -/
theorem sortF_any (v : Value) (l : List Fd) (base : Nat) (w : World) (hown : w.ownsRow base 48 3 v l.length (fCells l)) (hn : l.length ≤ 1000) (hm : NmF l) (hU : ∀ w', Below base w w' → UT w') :
    Calls Tryz.prog 108 #[v, .func (.func 54) #[] #[]] w fun e w' => e = .returned (.tuple #[]) ∧
      ∃ D : List Fd, D.Perm l ∧ D.Pairwise leF ∧ IsRow w' 3 v l.length (fCells D) ∧ Below base w w' := by
  by_cases h0 : l.length = 0
  · obtain rfl : l = [] := List.eq_nil_of_length_eq_zero h0
    obtain ⟨a0, cap0, rfl⟩ := (IsRow.own hown).form
    refine (AnyF.slices_SortFunc_none Tryz.sortFd a0 cap0 _ w).mono ?_
    rintro e w' ⟨rfl, rfl⟩
    exact ⟨rfl, [], List.Perm.refl _, List.Pairwise.nil, IsRow.own hown, Below.refl _ _⟩
  · obtain ⟨g, cap, rfl⟩ : ∃ g cap, v = .slice (some ⟨g, 0, none⟩) l.length cap := by
      rcases hown.2 with ⟨_, h⟩ | ⟨g, cap, cur, hv, -⟩
      · exact absurd h h0
      · exact ⟨g, cap, hv⟩
    obtain ⟨D, hD⟩ : ∃ D : List Fs, D.map Subtype.val = l := ⟨l.attach.map fun x => ⟨x.1, hm x.1 x.2⟩, by simp [List.map_map, Function.comp_def]⟩
    have hlen : l.length = D.length := by rw [← hD, List.length_map]
    rw [← hD, ← flatFs_eq] at hown
    rw [List.length_map] at hown
    rw [hlen]
    refine (sort_ownF g cap base D w hown (by omega) hU).mono ?_
    rintro e w' ⟨rfl, D', hp, hs, hr, hb⟩
    refine ⟨rfl, D'.map Subtype.val, ?_, ?_, ?_, hb⟩
    · rw [← hD]; exact hp.map _
    · rw [List.pairwise_map]; exact hs
    · rw [← flatFs_eq]; exact hr
end Go.Proofs.YtjamkfkbajhefaaGreatDoor
/- schema.Sort; schema.Merge: their walks. -/
namespace Go.Proofs.YtjamkfkbajhefaaGreatDoor
open Go.RowKit

/-- The variables that are read: utf8's tables, MaxLen. -/
structure W3 (w : World) : Prop where
  t : UT w
  m : ML w
theorem W3.below {w w' : World} (h : W3 w) (hb : Below w.heap.size w w') : W3 w' := ⟨Utf8Tabs_below h.t hb, ML_below h.m hb⟩
/-- A slice that lies behind a block. -/
def NewA (base : Nat) (a : Option Addr) : Prop := ∀ g, a = some g → base ≤ g.block
theorem NewA.le {base base' : Nat} {a : Option Addr} (h : NewA base a) (hb : base' ≤ base) : NewA base' a := fun g e => Nat.le_trans hb (h g e)
theorem NewA.own {w : World} {base : Nat} {ty : TypeId} {sz n m c : Nat} {a : Option Addr} {xs : List Value} (h : w.ownsRow base ty sz (.slice a m c) n xs) : NewA base a := by
  intro g e
  subst e
  rcases h.2 with ⟨h, -⟩ | ⟨b, cap, cur, h, hb, -⟩
  · cases h
  · simp only [Value.slice.injEq, Option.some.injEq] at h
    rw [h.1]
    exact hb
/-- What Sort answers. -/
def SrtP (l : List Fd) (w : World) (e : Ending) (w' : World) : Prop := Below w.heap.size w w' ∧
  ((24 < l.length ∧ e = .returned (.tuple #[.slice none 0 0, .int .i64 2])) ∨
   (l.length ≤ 24 ∧ (∃ x ∈ l, mayF x = false) ∧ e = .returned (.tuple #[.slice none 0 0, .int .i64 1])) ∨
   (l.length ≤ 24 ∧ (∀ x ∈ l, mayF x = true) ∧ ∃ D : List Fd, D.Perm l ∧ D.Pairwise leF ∧
     ((chkF D = true ∧ ∃ a c, e = .returned (.tuple #[.slice a D.length c, .int .i64 0]) ∧ IsRow w' 3 (.slice a D.length c) D.length (fCells D) ∧ NewA w.heap.size a) ∨ (chkF D = false ∧ e = .returned (.tuple #[.slice none 0 0, .int .i64 9])))))
set_option maxRecDepth 100000 in
set_option maxHeartbeats 2000000 in
theorem sortS_any (v : Value) (l : List Fd) (w : World) (hr : IsRow w 3 v l.length (fCells l)) (hl : l.length ≤ 1000000) (hn : NmF l) (hW : W3 w) :
    Calls Tryz.prog 83 #[v] w fun e w' => SrtP l w e w' := by
  obtain ⟨a0, cap0, rfl⟩ := hr.form
  by_cases h24 : 24 < l.length
  · have d1 : decide ((24 : Int) < (l.length : Int)) = true := by simp; omega
    clear hr
    go_enter Tryz.func83, Tryz.ntmps83
    go_wp2
    go_ret2
    exact ⟨Below.refl _ _, .inl ⟨h24, rfl⟩⟩
  have h24' : l.length ≤ 24 := by omega
  have d1 : decide ((24 : Int) < (l.length : Int)) = false := by simp; omega
  have HR : Hid (∀ w', Below w.heap.size w w' → IsRow w' 3 (.slice a0 l.length cap0) l.length (fCells l)) := fun w' h => hr.below h
  have HMay : Hid (∀ (k : Nat) (hk : k < l.length) w', Below w.heap.size w w' → Calls Tryz.prog 53 #[fV l[k]] w' fun e w'' => e = .returned (.bool (mayF l[k])) ∧ Below w'.heap.size w' w'') := fun k hk w' h => mayBe_any l[k] w' (hn _ (List.getElem_mem hk)) (ML_below hW.m h)
  have HCl : Hid (∀ w', Below w.heap.size w w' → Calls Tryz.prog 35 #[.slice a0 l.length cap0] w' fun e w'' => ClF l w' e w'') := fun w' h => cloneF_any _ l w' (hr.below h) (by omega)
  have HSo : Hid (∀ (v : Value) (w1 w' : World), Below w.heap.size w w1 → w'.ownsRow w1.heap.size 48 3 v l.length (fCells l) → Below w1.heap.size w1 w' → Calls Tryz.prog 108 #[v, .func (.func 54) #[] #[]] w' fun e w'' => e = .returned (.tuple #[]) ∧ ∃ D : List Fd, D.Perm l ∧ D.Pairwise leF ∧ IsRow w'' 3 v l.length (fCells D) ∧ Below w1.heap.size w' w'') := fun v w1 w' h1 ho h2 => sortF_any v l w1.heap.size w' ho (by omega) hn (fun w'' h3 => Utf8Tabs_below hW.t (h1.trans ((h2.trans h3).mono h1.size)))
  have HCk : Hid (∀ (v : Value) (D : List Fd) (w' : World), Below w.heap.size w w' → D.Perm l → IsRow w' 3 v l.length (fCells D) → Calls Tryz.prog 24 #[v] w' fun e w'' => e = .returned (.bool (chkF D)) ∧ Below w'.heap.size w' w'') := fun v D w' h hp hrow => by
    have hle := hp.length_eq
    rw [← hle] at hrow
    exact checkF_any v D w' hrow (by omega) (fun x hx => hn x (hp.mem_iff.1 hx)) (Utf8Tabs_below hW.t h) (ML_below hW.m h)
  clear hr hn hW
  go_enter Tryz.func83, Tryz.ntmps83
  go_wp2_with fail
  go_loopw [12] (fun i wr => ∃ k : Nat, k ≤ l.length ∧ i = .int .i64 (k : Int) ∧ Hid (∀ (j : Nat) (h : j < l.length), j < k → mayF l[j] = true) ∧ Hid (Below w.heap.size w wr)) (fun i _ => l.length - (intOf i).toNat)
  case atStart => exact ⟨0, Nat.zero_le _, rfl, (fun j h hj => absurd hj (Nat.not_lt_zero _)), Below.refl _ _⟩
  case round =>
    obtain ⟨k, hk, rfl, HM, HB⟩ := hrel
    have hsz := HB.out.size
    by_cases hlk : k < l.length
    · have dk : decide ((k : Int) < l.length) = true := by simp; omega
      obtain ⟨b, off, hvv, hlt, hc1, hcc⟩ := f_at (HR.out _ HB.out) (by omega)
      subst hvv
      obtain ⟨c0, c1, c2⟩ := hcc k hlk
      have HCm := HMay.out k hlk (wr.alloc (.cells #[.string l[k].n, .int .i64 l[k].k, .bool l[k].m] 48)) (HB.out.alloc hsz _)
      have HNx : Hid (mayF l[k] = true → ∀ (j : Nat) (h : j < l.length), j < k + 1 → mayF l[j] = true) := fun hs j h hj => by
        by_cases e : j = k
        · subst e; exact hs
        · exact HM.out j h (by omega)
      have HNo : Hid (mayF l[k] = false → ∃ x ∈ l, mayF x = false) := fun hs => ⟨_, List.getElem_mem hlk, hs⟩
      generalize l[k]'hlk = x at *
      obtain ⟨xn, xk, xm⟩ := x
      have HBa : Hid (Below w.heap.size w (wr.alloc (.cells #[.string xn, .int .i64 xk, .bool xm] 48))) := HB.out.alloc hsz _
      dsimp only at *
      clear hcc HM HR HMay HCl HSo HCk
      cases hm : mayF ⟨xn, xk, xm⟩
      · have HX := HNo.out hm
        have HX' : Hid (∃ x ∈ l, mayF x = false) := HX
        rw [hm] at HCm
        clear hm HNx HNo HX
        go_wp2_with fail
        refine HCm.mono ?_
        rintro e w2 ⟨rfl, hb2⟩
        have HB2 : Hid (Below w.heap.size w w2) := HBa.out.trans (hb2.mono HBa.out.size)
        clear hb2 HCm HB HBa c0 c1 c2
        go_wp2
        go_ret2
        exact ⟨HB2.out, .inr (.inl ⟨h24', HX'.out, rfl⟩)⟩
      · have HM2 : Hid (∀ (j : Nat) (h : j < l.length), j < k + 1 → mayF l[j] = true) := HNx.out hm
        rw [hm] at HCm
        clear hm HNx HNo
        go_wp2_with fail
        refine HCm.mono ?_
        rintro e w2 ⟨rfl, hb2⟩
        have HB2 : Hid (Below w.heap.size w w2) := HBa.out.trans (hb2.mono HBa.out.size)
        clear hb2 HCm HB HBa c0 c1 c2
        go_wp2
        go_roundw
        case rel => exact ⟨k + 1, by omega, by simp, HM2, HB2⟩
        case measure => simp [intOf]; omega
    · have hk' : k = l.length := by omega
      have dk : decide ((k : Int) < l.length) = false := by simp; omega
      have HAll : Hid (∀ x ∈ l, mayF x = true) := fun x hx => by
        obtain ⟨i, hi, rfl⟩ := List.mem_iff_getElem.1 hx
        exact HM.out i hi (by omega)
      clear HM HR HMay hk'
      go_wp2_with fail
      refine (HCl.out wr HB.out).mono ?_
      rintro e w1 ⟨v1, rfl, ho1, hb1⟩
      have HB1 : Hid (Below w.heap.size w w1) := HB.out.trans (hb1.mono hsz)
      have HS1 := HSo.out v1 wr w1 HB.out ho1 hb1
      have Hb1 : Hid (Below wr.heap.size wr w1) := hb1
      obtain ⟨a1, c1, rfl⟩ := (IsRow.own ho1).form
      have HNA : Hid (NewA w.heap.size a1) := (NewA.own ho1).le hsz
      clear ho1 hb1 HCl HSo
      go_wp2_with fail
      refine HS1.mono ?_
      rintro e w2 ⟨rfl, D, hp, hs, hrow, hb2⟩
      have HB2 : Hid (Below w.heap.size w w2) := HB.out.trans ((Hb1.out.trans hb2).mono hsz)
      have HK := HCk.out _ D w2 HB2.out hp hrow
      have HPs : Hid (D.Perm l ∧ D.Pairwise leF) := ⟨hp, hs⟩
      have HRw : Hid (∀ w', Below w2.heap.size w2 w' → IsRow w' 3 (.slice a1 D.length c1) D.length (fCells D)) := fun w' h => by
        have h1 := hrow.below h
        rw [← hp.length_eq] at h1
        exact h1
      have hle : D.length = l.length := hp.length_eq
      have HLe : Hid (D.length = l.length) := hle
      clear hp hs hrow hb2 HS1 HCk hle
      cases hc : chkF D
      · rw [hc] at HK
        have HC : Hid (chkF D = false) := hc
        clear hc
        go_wp2_with fail
        refine HK.mono ?_
        rintro e w3 ⟨rfl, hb3⟩
        have HB3 : Hid (Below w.heap.size w w3) := HB2.out.trans (hb3.mono HB2.out.size)
        clear hb3 HK HRw
        go_wp2
        go_ret2
        exact ⟨HB3.out, .inr (.inr ⟨h24', HAll.out, D, HPs.out.1, HPs.out.2, .inr ⟨HC.out, rfl⟩⟩)⟩
      · rw [hc] at HK
        have HC : Hid (chkF D = true) := hc
        clear hc
        go_wp2_with fail
        refine HK.mono ?_
        rintro e w3 ⟨rfl, hb3⟩
        have HB3 : Hid (Below w.heap.size w w3) := HB2.out.trans (hb3.mono HB2.out.size)
        have HR3 : Hid (IsRow w3 3 (.slice a1 D.length c1) D.length (fCells D)) := HRw.out w3 hb3
        clear hb3 HK HRw
        go_wp2
        go_ret2
        refine ⟨HB3.out, .inr (.inr ⟨h24', HAll.out, D, HPs.out.1, HPs.out.2, .inl ⟨HC.out, a1, c1, ?_, HR3.out, HNA.out⟩⟩)⟩
        rw [HLe.out]
        rfl
/-- What Merge answers, where nothing is told ahead of sorting. -/
def MgP (a b : List Fd) (w : World) (e : Ending) (w' : World) : Prop := Below w.heap.size w w' ∧
  ((24 < a.length + b.length ∧ e = .returned (.tuple #[.slice none 0 0, .int .i64 2])) ∨
   (a.length + b.length ≤ 24 ∧ ∃ D : List Fd, MrgD a b D ∧ ∃ s c, e = .returned (.tuple #[.slice s D.length c, .int .i64 0]) ∧ IsRow w' 3 (.slice s D.length c) D.length (fCells D) ∧ NewA w.heap.size s))
theorem mg_of {a b : List Fd} {w w1 w' : World} {e : Ending} (h0 : mergeE a b = 0) (hb : Below w.heap.size w w1) (h : SrtP (a ++ b) w1 e w') : MgP a b w e w' := by
  refine ⟨hb.trans (h.1.mono hb.size), ?_⟩
  rcases h.2 with ⟨h1, h2⟩ | ⟨h1, ⟨x, hx, hm⟩, h2⟩ | ⟨h1, h2, D, hp, hs, h3⟩
  · rw [List.length_append] at h1
    exact .inl ⟨h1, h2⟩
  · rw [app_may h0 x hx] at hm
    cases hm
  · rw [List.length_append] at h1
    have hM := mrg_of h0 hp hs
    rcases h3 with ⟨hc, s, c, he, hrow⟩ | ⟨hc, he⟩
    · exact .inr ⟨h1, D, hM, s, c, he, hrow.1, hrow.2.le hb.size⟩
    · rw [mrg_chk h0 hM h1] at hc
      cases hc
set_option maxRecDepth 100000 in
set_option maxHeartbeats 4000000 in
theorem merge_ok (v u : Value) (l a : List Fd) (w : World) (hr : IsRow w 3 v l.length (fCells l)) (hq : IsRow w 3 u a.length (fCells a)) (hl : l.length ≤ 1000000) (hal : a.length ≤ 1000000) (hn : NmF l) (hna : NmF a) (hW : W3 w) (hok : mergeE l a = 0) :
    Calls Tryz.prog 51 #[v, u] w fun e w' => MgP l a w e w' := by
  obtain ⟨a0, cap0, rfl⟩ := hr.form
  obtain ⟨a1, cap1, rfl⟩ := hq.form
  obtain ⟨k1, k2, k3⟩ := mergeE_ok hok
  have hl24 : l.length ≤ 24 := by unfold chkF at k1; simp only [Bool.and_eq_true, decide_eq_true_eq] at k1; exact k1.1
  have ha24 : a.length ≤ 24 := by unfold chkF at k2; simp only [Bool.and_eq_true, decide_eq_true_eq] at k2; exact k2.1
  have HQ : Hid (∀ w', Below w.heap.size w w' → IsRow w' 3 (.slice a1 a.length cap1) a.length (fCells a)) := fun w' h => hq.below h
  have HCF : Hid (Calls Tryz.prog 24 #[.slice a0 l.length cap0] w fun e w'' => e = .returned (.bool true) ∧ Below w.heap.size w w'') := by
    have := checkF_any _ l w hr hl hn hW.t hW.m
    rw [k1] at this
    exact this
  have HCA : Hid (∀ w', Below w.heap.size w w' → Calls Tryz.prog 24 #[.slice a1 a.length cap1] w' fun e w'' => e = .returned (.bool true) ∧ Below w'.heap.size w' w'') := fun w' h => by
    have := checkF_any _ a w' (hq.below h) hal hna (Utf8Tabs_below hW.t h) (ML_below hW.m h)
    rw [k2] at this
    exact this
  have hnone : ∀ (k : Nat) (hk : k < a.length), getF l a[k].n = none := fun k hk => by
    cases e : getF l a[k].n with
    | none => rfl
    | some f =>
      have := clash_at (a := l) hk (by rw [e]; rfl)
      rw [k3] at this
      cases this
  have HF : Hid (∀ (k : Nat) (hk : k < a.length) w', Below w.heap.size w w' → Calls Tryz.prog 26 #[.slice a0 l.length cap0, .string a[k].n] w' fun e w'' => e = .returned (.tuple #[fV zF, .bool false]) ∧ Below w'.heap.size w' w'') := fun k hk w' h => by
    have := find_any _ l _ w' (hr.below h) hl hn (hna _ (List.getElem_mem hk)) (Utf8Tabs_below hW.t h)
    rw [hnone k hk] at this
    exact this
  have HCc : Hid (∀ (B : Nat) w', Below w.heap.size w w' → w'.cell? ⟨B, 0, none⟩ = some (.slice a0 l.length cap0) → w'.cell? ⟨B, 1, none⟩ = some (.slice a1 a.length cap1) → Calls Tryz.prog 84 #[.slice (some ⟨B, 0, none⟩) 2 2] w' fun e w'' => ClF (l ++ a) w' e w'') := fun B w' h c0 c1 => concatF_any B _ _ l a w' (hr.below h) (hq.below h) c0 c1 (by omega) (by omega)
  have HSo : Hid (∀ v w', Below w.heap.size w w' → IsRow w' 3 v (l ++ a).length (fCells (l ++ a)) → Calls Tryz.prog 83 #[v] w' fun e w'' => SrtP (l ++ a) w' e w'') := fun v w' h hrow => sortS_any v _ w' hrow (by rw [List.length_append]; omega) (fun x hx => (List.mem_append.1 hx).elim (hn x) (hna x)) (hW.below h)
  have HOk : Hid (mergeE l a = 0) := hok
  clear hr hq hn hna hW hok k1 k2 k3 hnone
  go_enter Tryz.func51, Tryz.ntmps51
  go_wp2_with fail
  refine HCF.out.mono ?_
  rintro e w1 ⟨rfl, hb⟩
  have HB1 : Hid (Below w.heap.size w w1) := hb
  clear hb HCF
  go_wp2_with fail
  refine (HCA.out w1 HB1.out).mono ?_
  rintro e w2 ⟨rfl, hb⟩
  have HB2 : Hid (Below w.heap.size w w2) := HB1.out.trans (hb.mono HB1.out.size)
  clear hb HCA
  go_wp2_with fail
  go_loopw [20] (fun i wr => ∃ k : Nat, k ≤ a.length ∧ i = .int .i64 (k : Int) ∧ Hid (Below w.heap.size w wr)) (fun i _ => a.length - (intOf i).toNat)
  case atStart => exact ⟨0, Nat.zero_le _, rfl, HB2⟩
  case round =>
    obtain ⟨k, hk, rfl, HB⟩ := hrel
    have hsz := HB.out.size
    by_cases hlk : k < a.length
    · have dk : decide ((k : Int) < a.length) = true := by simp; omega
      obtain ⟨b, off, hvv, hlt, hc1, hcc⟩ := f_at (HQ.out _ HB.out) (by omega)
      subst hvv
      obtain ⟨c0, c1, c2⟩ := hcc k hlk
      have HFk := HF.out k hlk
      have HFk' : Hid (∀ w', Below w.heap.size w w' → Calls Tryz.prog 26 #[.slice a0 l.length cap0, .string a[k].n] w' fun e w'' => e = .returned (.tuple #[fV zF, .bool false]) ∧ Below w'.heap.size w' w'') := HFk
      clear HFk
      generalize a[k]'hlk = x at *
      obtain ⟨xn, xk, xm⟩ := x
      dsimp only at *
      have HBa : Hid (Below w.heap.size w (wr.alloc (.cells #[.string xn, .int .i64 xk, .bool xm] 48))) := HB.out.alloc hsz _
      clear hcc HQ HCc HSo HF
      go_wp2_with fail
      refine (HFk'.out _ HBa.out).mono ?_
      rintro e w3 ⟨rfl, hb3⟩
      have HB3 : Hid (Below w.heap.size w (w3.alloc (.cells #[.string ⟨#[]⟩, .int .i64 0, .bool false] 48))) := (HBa.out.trans (hb3.mono HBa.out.size)).alloc (Nat.le_trans HBa.out.size hb3.size) _
      clear hb3 HFk' HBa c0 c1 c2
      go_wp2
      go_roundw
      case rel => exact ⟨k + 1, by omega, by simp, HB3⟩
      case measure => simp [intOf]; omega
    · have dk : decide ((k : Int) < a.length) = false := by simp; omega
      have HBa : Hid (Below w.heap.size w (wr.alloc (.cells #[.slice a0 l.length cap0, .slice a1 a.length cap1] 35))) := HB.out.alloc hsz _
      have HC := HCc.out wr.heap.size (wr.alloc (.cells #[.slice a0 l.length cap0, .slice a1 a.length cap1] 35)) HBa.out (by simp) (by simp)
      clear HQ HF HCc
      go_wp2_with fail
      refine HC.mono ?_
      rintro e w3 ⟨v3, rfl, ho3, hb3⟩
      have HB3 : Hid (Below w.heap.size w w3) := HBa.out.trans (hb3.mono HBa.out.size)
      have HS := HSo.out v3 w3 HB3.out (IsRow.own ho3)
      obtain ⟨a3, c3, rfl⟩ := (IsRow.own ho3).form
      rw [List.length_append] at HS ⊢
      clear ho3 hb3 HC HSo HBa
      go_wp2_with fail
      refine HS.mono ?_
      intro e w4 hp4
      have hM := mg_of HOk.out HB3.out hp4
      have hf : ∃ va n c E, e = .returned (.tuple #[.slice va n c, .int .i64 E]) := by
        rcases hp4.2 with ⟨-, h⟩ | ⟨-, -, h⟩ | ⟨-, -, D, -, -, ⟨-, s, c, h, -, -⟩ | ⟨-, h⟩⟩
        · exact ⟨_, _, _, _, h⟩
        · exact ⟨_, _, _, _, h⟩
        · exact ⟨_, _, _, _, h⟩
        · exact ⟨_, _, _, _, h⟩
      obtain ⟨va, n, c, E, rfl⟩ := hf
      have HM : Hid (MgP l a w (.returned (.tuple #[.slice va n c, .int .i64 E])) w4) := hM
      clear hM hp4 HS
      go_wp2
      go_ret2
      exact HM.out
end Go.Proofs.YtjamkfkbajhefaaGreatDoor
/- schema.Merge at any fields; slices.Equal at names: walks. -/
namespace Go.Proofs.YtjamkfkbajhefaaGreatDoor
open Go.RowKit Go.ChangeMaps

def MgA (l a : List Fd) (w : World) (e : Ending) (w' : World) : Prop := ∃ s c, e = .returned (.tuple #[.slice s (mgL l a).1.length c, .int .i64 (mgL l a).2]) ∧ IsRow w' 3 (.slice s (mgL l a).1.length c) (mgL l a).1.length (fCells (mgL l a).1) ∧ NewA w.heap.size s ∧ Below w.heap.size w w'
theorem NewA.none (b : Nat) : NewA b none := fun _ e => nomatch e
theorem merge_any (v u : Value) (l a : List Fd) (w : World) (hr : IsRow w 3 v l.length (fCells l)) (hq : IsRow w 3 u a.length (fCells a)) (hl : l.length ≤ 1000000) (hal : a.length ≤ 1000000) (hn : NmF l) (hna : NmF a) (hW : W3 w) :
    Calls Tryz.prog 51 #[v, u] w fun e w' => MgA l a w e w' := by
  by_cases h : mergeE l a = 0
  · refine (merge_ok v u l a w hr hq hl hal hn hna hW h).mono ?_
    rintro e w' ⟨hb, ⟨h1, rfl⟩ | ⟨h1, D, hD, s, c, rfl, hrow, hnew⟩⟩
    · have e0 : mgL l a = ([], 2) := by unfold mgL; rw [if_pos h, if_pos h1]
      unfold MgA
      rw [e0]
      exact ⟨none, 0, rfl, IsRow.nil _ _, NewA.none _, hb⟩
    · have e0 : mgL l a = (D, 0) := by unfold mgL; rw [if_pos h, if_neg (by omega), mrg_is h hD]
      unfold MgA
      rw [e0]
      exact ⟨s, c, rfl, hrow, hnew, hb⟩
  · refine (merge_bad v u l a w hr hq hl hal hn hna hW.t hW.m h).mono ?_
    rintro e w' ⟨rfl, hb⟩
    have e0 : mgL l a = ([], mergeE l a) := by unfold mgL; rw [if_neg h]
    unfold MgA
    rw [e0]
    exact ⟨none, 0, rfl, IsRow.nil _ _, NewA.none _, hb⟩
theorem sameS_no {a l : List ByteArray} {k : Nat} (h : k < a.length) (h2 : k < l.length) (he : a[k] ≠ l[k]) : sameS a l = false := by
  unfold sameS
  rw [decide_eq_false_iff_not]
  rintro rfl
  exact he rfl
set_option maxRecDepth 100000 in
set_option maxHeartbeats 2000000 in
theorem equalS_any (v u : Value) (a l : List ByteArray) (w : World) (hq : IsRow w 1 v a.length (sVals a)) (hr : IsRow w 1 u l.length (sVals l)) (hal : a.length ≤ 1000000) (hl : l.length ≤ 1000000) :
    Calls Tryz.prog 52 #[v, u] w fun e w' => e = .returned (.bool (sameS a l)) ∧ Below w.heap.size w w' := by
  obtain ⟨a0, cap0, rfl⟩ := hq.form
  obtain ⟨a1, cap1, rfl⟩ := hr.form
  have HQ : Hid (∀ w', Below w.heap.size w w' → IsRow w' 1 (.slice a0 a.length cap0) a.length (sVals a)) := fun w' h => hq.below h
  have HR : Hid (∀ w', Below w.heap.size w w' → IsRow w' 1 (.slice a1 l.length cap1) l.length (sVals l)) := fun w' h => hr.below h
  clear hq hr
  by_cases hln : a.length = l.length
  rotate_left
  · have e0 : sameS a l = false := by unfold sameS; rw [decide_eq_false_iff_not]; intro e; exact hln (by rw [e])
    have dn : ((a.length : Int) != (l.length : Int)) = true := by rw [bne_iff_ne]; omega
    rw [e0]
    go_enter Tryz.func52, Tryz.ntmps52
    go_wp2
    go_ret
    exact ⟨rfl, Below.refl _ _⟩
  have dn : ((a.length : Int) != (l.length : Int)) = false := by rw [hln]; simp
  have HL : Hid (a.length = l.length) := hln
  clear hln
  go_enter Tryz.func52, Tryz.ntmps52
  go_wp2_with fail
  go_loopw [4, 13] (fun r i wr => r = .bool false ∧ ∃ k : Nat, k ≤ a.length ∧ i = .int .i64 (k : Int) ∧ Hid (∀ (j : Nat) (h : j < a.length) (h2 : j < l.length), j < k → a[j] = l[j]) ∧ Hid (Below w.heap.size w wr)) (fun _ i _ => a.length - (intOf i).toNat)
  case atStart => exact ⟨rfl, 0, Nat.zero_le _, rfl, fun j h h2 hj => absurd hj (Nat.not_lt_zero _), Below.refl _ _⟩
  case round =>
    obtain ⟨rfl, k, hk, rfl, HO, HB⟩ := hrel
    by_cases hlk : k < a.length
    · have hlk2 : k < l.length := by have := HL.out; omega
      have dk : decide ((k : Int) < a.length) = true := by simp; omega
      obtain ⟨b, off, rfl, -, hlt, hcap, hc⟩ := s_at (HQ.out wr HB.out) (by omega)
      obtain ⟨b', off', rfl, -, hlt', hcap', hc'⟩ := s_at (HR.out wr HB.out) (by omega)
      have ck0 := hc k hlk
      have dk0 := hc' k hlk2
      have HO2 : Hid (a[k] = l[k] → ∀ (j : Nat) (h : j < a.length) (h2 : j < l.length), j < k + 1 → a[j] = l[j]) := fun hs j h h2 hj => by
        by_cases e : j = k
        · subst e; exact hs
        · exact HO.out j h h2 (by omega)
      have HN : Hid (a[k] ≠ l[k] → sameS a l = false) := sameS_no hlk hlk2
      generalize a[k]'hlk = x at *
      generalize l[k]'hlk2 = y at *
      have q1 : (0 : Int) ≤ (k : Int) := by omega
      have q2 : (k : Int) < (a.length : Int) := by omega
      have q3 : (k : Int) < (l.length : Int) := by omega
      have eS := strNe x y
      have eS' := strEqB x y
      have HBd : Hid (∀ q, Below w.heap.size w (wr.drewN q)) := fun q => ⟨HB.out.os, HB.out.tape, HB.out.output, HB.out.size, HB.out.block⟩
      clear hc hc' HO
      by_cases he : x = y
      · rw [decide_eq_true he] at eS eS'
        have HO3 : Hid (∀ (j : Nat) (h : j < a.length) (h2 : j < l.length), j < k + 1 → a[j] = l[j]) := HO2.out he
        clear HN HO2 he
        go_wp2_with fail
        go_quiet (fail)
        go_wp2
        go_roundw
        case rel => exact ⟨rfl, k + 1, by omega, by simp, HO3, HBd.out _⟩
        case measure => simp [intOf]; omega
      · rw [decide_eq_false he] at eS eS'
        have HN2 : Hid (sameS a l = false) := HN.out he
        clear HN HO2 he
        go_wp2_with fail
        go_quiet (fail)
        go_wp2
        go_ret
        exact ⟨by rw [HN2.out]; rfl, HBd.out _⟩
    · have hk' : k = a.length := by omega
      subst hk'
      have dk : decide ((a.length : Int) < a.length) = false := by simp
      have HY : Hid (sameS a l = true) := by
        show _ = _
        unfold sameS
        rw [decide_eq_true_eq]
        exact List.ext_getElem HL.out fun j h h2 => HO.out j h h2 h
      clear HO
      go_wp2
      go_ret
      exact ⟨by rw [HY.out]; rfl, HB.out⟩
end Go.Proofs.YtjamkfkbajhefaaGreatDoor
