/- A store's map as the shelf reads it; maps.Keys, slices.Collect, SortFunc at its keys: over the shelf's contracts. -/
import Derived.Test.YtlndgepoekllkaaGreatDoorZk10
import Derived.Test.YtlndgepoekllkaaGreatDoorZk4
import Derived.Test.YtlndgepoekllkaaGreatDoorZk3
import Derived.Shelf.SlSortCmp.NoneTotal
import Derived.Shelf.SlIter.Collect
import Derived.Test.YtlndgepoekllkaaGreatDoorZk9
import Derived.Test.YtlndgepoekllkaaGreatDoorZk8
namespace Go.Proofs.YtlndgepoekllkaaGreatDoor
open Go.RowKit Go.ChangeMaps Go.Maps Go.Sort

/-- Elements are read as nothing. -/
def R0 : Value → Option (DataW Unit × List MemPlace) := fun _ => some (.lit (.bool true), [])
/-- The keys, byte by byte. -/
def keysB (E : List (ByteArray × Nat)) : List (List UInt8) := E.map fun p => p.1.data.toList
theorem MapS.owns {w : World} {m : Nat} {E : List (ByteArray × Nat)} (h : MapS w m E) (hs : ∀ p ∈ E, p.1.size ≤ maxLen) (hl : E.length ≤ maxLen) :
    ∃ D : DataW Unit, w.ownsMap Tryz.prog 9 R0 m E.length D ∧ (strKeys D).Perm (keysB E) ∧ Maps.size D = E.length := by
  obtain ⟨⟨es, c, hb, hr, hst⟩, hn⟩ := h
  have hlen : es.toList.length = E.length := by
    have := congrArg List.length hr
    simpa using this
  have key : ∀ x ∈ es.toList, ∃ p ∈ E, x.key = .string p.1 ∧ WideElems.rd Tryz.prog 9 R0 x = some (.string p.1.data.toList, .lit (.bool true)) := fun x hx => by
    have hm : (x.key, x.val) ∈ E.map kS := by rw [← hr]; exact List.mem_map.2 ⟨x, hx, rfl⟩
    obtain ⟨p, hp, hq⟩ := List.mem_map.1 hm
    have h1 : x.key = .string p.1 := (Prod.mk.inj hq).1.symm
    refine ⟨p, hp, h1, ?_⟩
    obtain ⟨ke, va, bo⟩ := x
    dsimp only at h1
    subst h1
    exact WideElems.rd_mk (R := R0) (yv := (.lit (.bool true), [])) (WideMaps.keyOf_string_mk und_strS (hs p hp)) rfl
  refine ⟨_, ⟨es, c, hb, ⟨by rw [← Array.length_toList, hlen]; exact hl, hst, fun x hx => by
    obtain ⟨p, -, -, h2⟩ := key x hx
    exact ⟨_, h2⟩⟩, by rw [← Array.length_toList, hlen]; exact Nat.le_refl _, rfl⟩, ?_, ?_⟩
  · show (List.map (fun p => strOf p.1) ((es.toList.map (WideElems.rg Tryz.prog 9 R0)).foldr DataW.insert [])).Perm _
    refine ((WideShapes.sorted_perm _).map _).trans ?_
    rw [List.map_map]
    have : es.toList.map ((fun p => strOf p.1) ∘ WideElems.rg Tryz.prog 9 R0) = keysB E := by
      have h1 : es.toList.map ((fun p => strOf p.1) ∘ WideElems.rg Tryz.prog 9 R0) = es.toList.map (fun x => (match x.key with | .string s => s.data.toList | _ => [])) := List.map_congr_left fun x hx => by
        obtain ⟨p, -, h1, h2⟩ := key x hx
        simp only [Function.comp_apply]
        rw [WideElems.rg_of h2, h1]
        rfl
      rw [h1]
      have h2 : es.toList.map (fun x => (match x.key with | .string s => s.data.toList | _ => [])) = (es.toList.map fun e => (e.key, e.val)).map fun q => (match q.1 with | Value.string s => s.data.toList | _ => []) := by
        rw [List.map_map]
        rfl
      rw [h2, hr, List.map_map]
      rfl
    rw [this]
  · show ((es.toList.map (WideElems.rg Tryz.prog 9 R0)).foldr DataW.insert []).length = _
    rw [length_sorted, List.length_map, hlen]
theorem keysM_any (mb : Option Nat) (W : World) : Calls Tryz.prog 54 #[.map mb] W fun e w' => e = .returned (.func (.func 80) #[] #[.pointer (some ⟨W.heap.size, 0, none⟩)]) ∧ w' = W.alloc (.cells #[.map mb] 48) :=
  (callsIn_wide (n := 5)).1 (AnyZ.keys_in Tryz.keysK Fence.wide 5 trivial rfl mb W)
theorem collect_any {W : World} {m b : Nat} {E : List (ByteArray × Nat)} (h : MapS W m E) (hs : ∀ p ∈ E, p.1.size ≤ maxLen) (hl : E.length ≤ 1000) (hb : W.heap[b]? = some (.cells #[.map (some m)] 48 (0, 0))) :
    Calls Tryz.prog 78 #[.func (.func 80) #[] #[.pointer (some ⟨b, 0, none⟩)]] W fun e w' =>
      ∃ (v : Value) (ss : List (List UInt8)), e = .returned v ∧ ss.Perm (keysB E) ∧ w'.ownsRow W.heap.size 9 1 v ss.length (ss.map encStr) ∧ Below W.heap.size W w' := by
  obtain ⟨D, hown, hp, hsz⟩ := h.owns hs (by unfold maxLen; omega)
  have hseq : SeqGives Fence.wide 3 Tryz.prog 80 #[.pointer (some ⟨b, 0, none⟩)] encStr (fun ss => ss.Perm (strKeys D)) (Maps.size D) W :=
    AnyZ.keys_gives (ρ := Tryz.keysK_ren) { Tryz.keysK with } Fence.wide _ trivial rfl (by omega) b m E.length D W (Array.getElem?_eq_some_iff.1 hb).1 (by rw [Lib.cell_of_heap hb]; rfl) hown
  refine (callsIn_wide (n := 5)).1 ((AnyZ.collect_in Tryz.collS Fence.wide 5 trivial trivial rfl (by omega) 80 #[.pointer (some ⟨b, 0, none⟩)] trivial (enters_of Tryz.func80 (by kernel_rfl) rfl) _ _ (by rw [hsz]; unfold maxLen; omega) (by rw [hsz]; omega) W hseq).mono ?_)
  rintro e w' ⟨v, ss, rfl, hS, hrow, -, hb'⟩
  exact ⟨v, ss, rfl, hS.trans hp, hrow, hb'⟩
/-- Texts that are not too long to be held against each other. -/
abbrev StrS := { s : ByteArray // s.size ≤ 1000000 }
instance : Inhabited StrS := ⟨⟨⟨#[]⟩, by decide⟩⟩
def enStrS (x : StrS) : Value := .string x.1
def cfStr (x y : StrS) : Int := cmpL x.1.data.toList y.1.data.toList
/-- Does the one text stand ahead of the other one? -/
def ltStr (a b : ByteArray) : Prop := cmpL a.data.toList b.data.toList = -1
theorem nameCmp_g (x y : StrS) (w : World) (hT : UT w) : Calls Tryz.prog 55 #[enStrS x, enStrS y] w fun e w' => e = .returned (.int .i64 (cfStr x y)) ∧ ∃ q os, w' = Sort.grow (w.drewN q) os := by
  refine (calls_drawn (compare_any x.1 y.1 w x.2 y.2 hT) (fun e w' h => ⟨_, h.1⟩)).mono ?_
  rintro e w' ⟨⟨rfl, hb⟩, hd⟩
  exact ⟨rfl, grow_of hb hd⟩
theorem ltStrS (x y : StrS) : ltOf cfStr x y = true ↔ ltStr x.1 y.1 := by
  unfold ltOf cfStr ltStr
  rw [decide_eq_true_eq, cmpL_lt]
theorem swoStr : Sort.SWO (ltOf cfStr) where
  irrefl x := by
    cases h : ltOf cfStr x x
    · rfl
    · have h1 := (ltStrS x x).1 h
      unfold ltStr cmpL at h1
      have h2 := cmp_anti (foldL x.1.data.toList) (foldL x.1.data.toList)
      omega
  trans x y z h1 h2 := (ltStrS x z).2 (by
    have n1 := (ltStrS x y).1 h1
    have n2 := (ltStrS y z).1 h2
    unfold ltStr cmpL at *
    exact cmp_trans _ _ _ n1 n2)
  ntrans x y z h1 h2 := by
    cases h : ltOf cfStr x z
    · rfl
    · exfalso
      have hxz := (ltStrS x z).1 h
      have n1 : ¬ ltStr x.1 y.1 := fun hh => by rw [(ltStrS x y).2 hh] at h1; cases h1
      have n2 : ¬ ltStr y.1 z.1 := fun hh => by rw [(ltStrS y z).2 hh] at h2; cases h2
      unfold ltStr cmpL at *
      have v1 := cmp_vals (foldL x.1.data.toList) (foldL y.1.data.toList)
      have v2 := cmp_vals (foldL y.1.data.toList) (foldL z.1.data.toList)
      have a1 := cmp_anti (foldL x.1.data.toList) (foldL y.1.data.toList)
      have a2 := cmp_anti (foldL y.1.data.toList) (foldL z.1.data.toList)
      rcases v1 with v1 | v1 | v1
      · exact n1 v1
      · have e := cmp_zero _ _ v1
        rw [← e] at n2
        exact n2 hxz
      · rcases v2 with v2 | v2 | v2
        · exact n2 v2
        · have e := cmp_zero _ _ v2
          rw [e] at n1
          exact n1 hxz
        · have t := cmp_trans _ _ _ (show Lib.compareBytes (foldL z.1.data.toList) (foldL y.1.data.toList) = -1 by omega) (show Lib.compareBytes (foldL y.1.data.toList) (foldL x.1.data.toList) = -1 by omega)
          have a3 := cmp_anti (foldL z.1.data.toList) (foldL x.1.data.toList)
          omega
theorem below_sortS {base g m : Nat} {w : World} {d : Array StrS} {os : Array Obj} (hg : base ≤ g) (hgl : g < w.heap.size) : Below base w (sortWorld enStrS w g 0 m d os) := by
  refine ⟨rfl, rfl, rfl, ?_, ?_⟩
  · show w.heap.size ≤ ((w.heap.modify g _) ++ os).size
    simp
  · intro k hk
    show ((w.heap.modify g _) ++ os)[k]? = w.heap[k]?
    by_cases hks : k < w.heap.size
    · rw [Array.getElem?_append_left (by simpa using hks), Array.getElem?_modify, if_neg (by omega)]
    · exact absurd (Nat.lt_of_lt_of_le hk hg) (by omega)
theorem sort_ownS (g cap base : Nat) (D : List StrS) (w : World) (hown : w.ownsRow base 9 1 (.slice (some ⟨g, 0, none⟩) D.length cap) D.length (D.map enStrS)) (hn : D.length ≤ 1000) (hU : ∀ w', Below base w w' → UT w') :
    Calls Tryz.prog 79 #[.slice (some ⟨g, 0, none⟩) D.length cap, .func (.func 55) #[] #[]] w fun e w' => e = .returned (.tuple #[]) ∧
      ∃ D' : List StrS, D'.Perm D ∧ D'.Pairwise (fun a b => ¬ cfStr b a < 0) ∧ IsRow w' 1 (.slice (some ⟨g, 0, none⟩) D.length cap) D.length (D'.map enStrS) ∧ Below base w w' := by
  obtain ⟨hxl, ⟨hv, _⟩ | ⟨g', cap', cur, hv, hbg, hg, hnc, hcm, hcs, htk⟩⟩ := hown
  · cases hv
  simp only [Value.slice.injEq, Option.some.injEq, Addr.mk.injEq, and_true, true_and] at hv
  obtain ⟨rfl, rfl⟩ := hv
  have hlt : g < w.heap.size := (Array.getElem?_eq_some_iff.1 hg).1
  have hH : Sort.Holds enStrS w g 0 D.toArray := by
    intro j hj
    simp only [List.size_toArray] at hj
    refine ⟨?_, by simp [World.frozen?, hg]⟩
    rw [Nat.zero_add, Lib.cell_of_heap hg]
    have h2 : (D.map enStrS)[j]? = some (enStrS D[j]) := by rw [List.getElem?_map, List.getElem?_eq_getElem hj]; rfl
    rw [← htk, List.getElem?_take_of_lt (by simpa using hj)] at h2
    rw [getElem!_pos D.toArray j (by simpa using hj)]
    simpa using h2
  have eg : ∀ args w, (callFunc 55 args).run Tryz.prog w = .ok (.enter 55 args) w := enters_of Tryz.func55 (by kernel_rfl) rfl
  have hcmp : CmpLays1 Tryz.prog 55 #[] enStrS cfStr g 0 D.toArray.size w := fun m os dk _ x y => nameCmp_g x y _ (hU _ (below_sortS hbg hlt))
  have hcon := Any.slices_SortFunc Tryz.sortSt enStrS (fun _ => rfl) cfStr swoStr 55 #[] g 0 cap D.toArray w eg hcmp hH hlt (by simp; omega)
  rw [List.size_toArray] at hcon
  refine hcon.mono ?_
  rintro e w' ⟨rfl, d', m, os, ⟨hds, _, hp⟩, hs, rfl⟩
  have hds : d'.size = D.length := by simpa using hds
  refine ⟨rfl, d'.toList, ?_, ?_, ?_, below_sortS hbg hlt⟩
  · have e1 : d'.extract 0 D.length = d' := by rw [← hds]; exact Array.extract_size
    have e2 : D.toArray.extract 0 D.length = D.toArray := by
      have := @Array.extract_size _ D.toArray
      rwa [List.size_toArray] at this
    rw [e1, e2] at hp
    exact hp
  · rw [List.pairwise_iff_getElem]
    intro i j hi hj hij
    have hj' : j < d'.size := by simpa using hj
    have := hs i j (Nat.zero_le _) hij (by omega)
    rw [getElem!_pos d' j hj', getElem!_pos d' i (by omega)] at this
    unfold ltOf at this
    simpa using this
  · have hH2 : Sort.Holds enStrS (sortWorld enStrS w g 0 m d' os) g 0 d' := Sort.holds_grow enStrS _ os g 0 d' (by show g < (w.heap.modify g _).size; simpa using hlt) (Sort.holds_putRow enStrS (Sort.ahead w m) g 0 D.toArray d' (Sort.holds_ahead enStrS w m g 0 D.toArray hH) (by simpa using hds))
    have hl2 : d'.toList.length = D.length := by simpa using hds
    refine ⟨by rw [List.length_map, hl2, Nat.mul_one], .inr ⟨g, 0, cap, rfl, ?_, hnc, hcm, ?_⟩⟩
    · show g < ((w.heap.modify g _) ++ os).size
      simp
      omega
    · intro j u hu
      have hj : j < d'.size := by
        have := (List.getElem?_eq_some_iff.1 hu).1
        simpa using this
      have h3 := (hH2 j hj).1
      rw [getElem!_pos d' _ hj] at h3
      rw [List.getElem?_map, List.getElem?_eq_getElem (by simpa using hj)] at hu
      simp at hu
      rw [h3, ← hu]
/-- Texts sorted by name.Compare. -/
def SortedS (D : List ByteArray) : Prop := D.Pairwise fun a b => ¬ cmpL b.data.toList a.data.toList < 0
/-- The sort of a row of texts that the call owns. -/
theorem sortS_str (v : Value) (l : List ByteArray) (base : Nat) (w : World) (hown : w.ownsRow base 9 1 v l.length (sVals l)) (hn : l.length ≤ 1000) (hm : ∀ s ∈ l, s.size ≤ 1000000) (hU : ∀ w', Below base w w' → UT w') :
    Calls Tryz.prog 79 #[v, .func (.func 55) #[] #[]] w fun e w' => e = .returned (.tuple #[]) ∧
      ∃ D : List ByteArray, D.Perm l ∧ SortedS D ∧ IsRow w' 1 v D.length (sVals D) ∧ Below base w w' := by
  by_cases h0 : l.length = 0
  · obtain rfl : l = [] := List.eq_nil_of_length_eq_zero h0
    obtain ⟨a0, cap0, rfl⟩ := (IsRow.own hown).form
    refine (AnyF.slices_SortFunc_none (ρ := Tryz.sortSt_ren) { Tryz.sortSt with } a0 cap0 _ w).mono ?_
    rintro e w' ⟨rfl, rfl⟩
    exact ⟨rfl, [], List.Perm.refl _, List.Pairwise.nil, IsRow.own hown, Below.refl _ _⟩
  · obtain ⟨g, cap, rfl⟩ : ∃ g cap, v = .slice (some ⟨g, 0, none⟩) l.length cap := by
      rcases hown.2 with ⟨_, h⟩ | ⟨g, cap, cur, hv, -⟩
      · exact absurd h h0
      · exact ⟨g, cap, hv⟩
    obtain ⟨D, hD⟩ : ∃ D : List StrS, D.map Subtype.val = l := ⟨l.attach.map fun x => ⟨x.1, hm x.1 x.2⟩, by simp [List.map_map, Function.comp_def]⟩
    have hlen : l.length = D.length := by rw [← hD, List.length_map]
    have hen : ∀ D : List StrS, sVals (D.map Subtype.val) = D.map enStrS := fun D => by
      unfold sVals
      rw [List.map_map]
      rfl
    rw [← hD, hen] at hown
    rw [List.length_map] at hown
    rw [hlen]
    refine (sort_ownS g cap base D w hown (by omega) hU).mono ?_
    rintro e w' ⟨rfl, D', hp, hs, hr, hb⟩
    refine ⟨rfl, D'.map Subtype.val, ?_, ?_, ?_, hb⟩
    · rw [← hD]; exact hp.map _
    · unfold SortedS
      rw [List.pairwise_map]; exact hs
    · rw [hen, List.length_map, hp.length_eq]; exact hr
end Go.Proofs.YtlndgepoekllkaaGreatDoor
/- store's waitsAtAll: its walk. -/
namespace Go.Proofs.YtlndgepoekllkaaGreatDoor
open Go.RowKit Go.ChangeMaps

/-- Whether it waits for somebody. -/
def anyW (f : Nat → Bool) : Bool := f 0 || f 1 || f 2 || f 3 || f 4 || f 5 || f 6 || f 7 || f 8 || f 9 || f 10 || f 11 || f 12 || f 13 || f 14 || f 15
set_option maxRecDepth 100000 in
theorem eqlW (b0 b1 b2 b3 b4 b5 b6 b7 b8 b9 b10 b11 b12 b13 b14 b15 : Bool) (w : World) : (Op.equalIn 10000 85 (.agg #[.bool b0, .bool b1, .bool b2, .bool b3, .bool b4, .bool b5, .bool b6, .bool b7, .bool b8, .bool b9, .bool b10, .bool b11, .bool b12, .bool b13, .bool b14, .bool b15]) (.agg #[.bool false, .bool false, .bool false, .bool false, .bool false, .bool false, .bool false, .bool false, .bool false, .bool false, .bool false, .bool false, .bool false, .bool false, .bool false, .bool false])).run Tryz.prog w = .ok (!(b0 || b1 || b2 || b3 || b4 || b5 || b6 || b7 || b8 || b9 || b10 || b11 || b12 || b13 || b14 || b15)) w := by
  cases b0
  rotate_left
  · kernel_rfl
  cases b1
  rotate_left
  · kernel_rfl
  cases b2
  rotate_left
  · kernel_rfl
  cases b3
  rotate_left
  · kernel_rfl
  cases b4
  rotate_left
  · kernel_rfl
  cases b5
  rotate_left
  · kernel_rfl
  cases b6
  rotate_left
  · kernel_rfl
  cases b7
  rotate_left
  · kernel_rfl
  cases b8
  rotate_left
  · kernel_rfl
  cases b9
  rotate_left
  · kernel_rfl
  cases b10
  rotate_left
  · kernel_rfl
  cases b11
  rotate_left
  · kernel_rfl
  cases b12
  rotate_left
  · kernel_rfl
  cases b13
  rotate_left
  · kernel_rfl
  cases b14
  rotate_left
  · kernel_rfl
  cases b15
  rotate_left
  · kernel_rfl
  kernel_rfl
set_option maxRecDepth 100000 in
set_option maxHeartbeats 4000000 in
theorem waitsAll_any (w : World) (g : Nat) (x : Kp) (vo va vc : Value) (hk : w.heap[g]? = some (.cells (kpA x vo va vc) 87 (0, 0))) :
    Calls Tryz.prog 41 #[.pointer (some ⟨g, 0, none⟩)] w fun e w' => e = .returned (.bool (anyW x.f)) ∧ w' = w := by
  have c0 : w.cell? ⟨g, 9, none⟩ = some (.bool (x.f 0)) := by rw [Lib.cell_of_heap hk]; rfl
  have c1 : w.cell? ⟨g, 10, none⟩ = some (.bool (x.f 1)) := by rw [Lib.cell_of_heap hk]; rfl
  have c2 : w.cell? ⟨g, 11, none⟩ = some (.bool (x.f 2)) := by rw [Lib.cell_of_heap hk]; rfl
  have c3 : w.cell? ⟨g, 12, none⟩ = some (.bool (x.f 3)) := by rw [Lib.cell_of_heap hk]; rfl
  have c4 : w.cell? ⟨g, 13, none⟩ = some (.bool (x.f 4)) := by rw [Lib.cell_of_heap hk]; rfl
  have c5 : w.cell? ⟨g, 14, none⟩ = some (.bool (x.f 5)) := by rw [Lib.cell_of_heap hk]; rfl
  have c6 : w.cell? ⟨g, 15, none⟩ = some (.bool (x.f 6)) := by rw [Lib.cell_of_heap hk]; rfl
  have c7 : w.cell? ⟨g, 16, none⟩ = some (.bool (x.f 7)) := by rw [Lib.cell_of_heap hk]; rfl
  have c8 : w.cell? ⟨g, 17, none⟩ = some (.bool (x.f 8)) := by rw [Lib.cell_of_heap hk]; rfl
  have c9 : w.cell? ⟨g, 18, none⟩ = some (.bool (x.f 9)) := by rw [Lib.cell_of_heap hk]; rfl
  have c10 : w.cell? ⟨g, 19, none⟩ = some (.bool (x.f 10)) := by rw [Lib.cell_of_heap hk]; rfl
  have c11 : w.cell? ⟨g, 20, none⟩ = some (.bool (x.f 11)) := by rw [Lib.cell_of_heap hk]; rfl
  have c12 : w.cell? ⟨g, 21, none⟩ = some (.bool (x.f 12)) := by rw [Lib.cell_of_heap hk]; rfl
  have c13 : w.cell? ⟨g, 22, none⟩ = some (.bool (x.f 13)) := by rw [Lib.cell_of_heap hk]; rfl
  have c14 : w.cell? ⟨g, 23, none⟩ = some (.bool (x.f 14)) := by rw [Lib.cell_of_heap hk]; rfl
  have c15 : w.cell? ⟨g, 24, none⟩ = some (.bool (x.f 15)) := by rw [Lib.cell_of_heap hk]; rfl
  have HA : Hid (anyW x.f = (x.f 0 || x.f 1 || x.f 2 || x.f 3 || x.f 4 || x.f 5 || x.f 6 || x.f 7 || x.f 8 || x.f 9 || x.f 10 || x.f 11 || x.f 12 || x.f 13 || x.f 14 || x.f 15)) := rfl
  generalize anyW x.f = A at *
  generalize x.f 0 = b0 at *
  generalize x.f 1 = b1 at *
  generalize x.f 2 = b2 at *
  generalize x.f 3 = b3 at *
  generalize x.f 4 = b4 at *
  generalize x.f 5 = b5 at *
  generalize x.f 6 = b6 at *
  generalize x.f 7 = b7 at *
  generalize x.f 8 = b8 at *
  generalize x.f 9 = b9 at *
  generalize x.f 10 = b10 at *
  generalize x.f 11 = b11 at *
  generalize x.f 12 = b12 at *
  generalize x.f 13 = b13 at *
  generalize x.f 14 = b14 at *
  generalize x.f 15 = b15 at *
  clear hk
  have hE := fun W => eqlW b0 b1 b2 b3 b4 b5 b6 b7 b8 b9 b10 b11 b12 b13 b14 b15 W
  go_enter Tryz.func41, Tryz.ntmps41
  go_wp2
  go_ret
  exact ⟨by rw [HA.out]; rfl, rfl⟩
end Go.Proofs.YtlndgepoekllkaaGreatDoor
/- store's waitsFor: its walk. -/
namespace Go.Proofs.YtlndgepoekllkaaGreatDoor
open Go.RowKit Go.ChangeMaps

theorem nodes_one {n : Int} : nodesB [n] = isN n := by
  cases h : isN n
  · refine nodesB_false fun hp => ?_
    have := hp 0 (by simp)
    simp at this
    rw [isN_of this.1 this.2] at h
    cases h
  · obtain ⟨h1, h2⟩ := isN_get h
    refine nodesB_true fun k hk => ?_
    obtain rfl : k = 0 := by simpa using hk
    exact ⟨h1, h2, fun j e => by omega⟩
theorem kp_cell {w : World} {g : Nat} {x : Kp} {vo va vc : Value} (hk : w.heap[g]? = some (.cells (kpA x vo va vc) 87 (0, 0))) {k : Nat} (h : k ≤ 15) : w.cell? ⟨g, 9 + k, none⟩ = some (.bool (x.f k)) := by
  rw [Lib.cell_of_heap hk]
  have h16 : k = 0 ∨ k = 1 ∨ k = 2 ∨ k = 3 ∨ k = 4 ∨ k = 5 ∨ k = 6 ∨ k = 7 ∨ k = 8 ∨ k = 9 ∨ k = 10 ∨ k = 11 ∨ k = 12 ∨ k = 13 ∨ k = 14 ∨ k = 15 := by omega
  rcases h16 with rfl | rfl | rfl | rfl | rfl | rfl | rfl | rfl | rfl | rfl | rfl | rfl | rfl | rfl | rfl | rfl <;> rfl
def updW (f : Nat → Bool) (k : Nat) (b : Bool) : Nat → Bool := fun i => if i = k then b else f i
theorem kp_set (t : Ty) (s : Bool) (f : Nat → Bool) (vo va vc : Value) {k : Nat} (h : k ≤ 15) (b : Bool) : (kpA ⟨t, s, f⟩ vo va vc).setIfInBounds (9 + k) (.bool b) = kpA ⟨t, s, updW f k b⟩ vo va vc := by
  have h16 : k = 0 ∨ k = 1 ∨ k = 2 ∨ k = 3 ∨ k = 4 ∨ k = 5 ∨ k = 6 ∨ k = 7 ∨ k = 8 ∨ k = 9 ∨ k = 10 ∨ k = 11 ∨ k = 12 ∨ k = 13 ∨ k = 14 ∨ k = 15 := by omega
  rcases h16 with rfl | rfl | rfl | rfl | rfl | rfl | rfl | rfl | rfl | rfl | rfl | rfl | rfl | rfl | rfl | rfl <;> rfl
set_option maxRecDepth 100000 in
set_option maxHeartbeats 4000000 in
theorem waitsFor_any (w : World) (g : Nat) (x : Kp) (vo va vc : Value) (hk : w.heap[g]? = some (.cells (kpA x vo va vc) 87 (0, 0))) (n : Int) :
    Calls Tryz.prog 42 #[.pointer (some ⟨g, 0, none⟩), .int .i64 n] w fun e w' => e = .returned (.bool (isN n && x.f n.toNat)) ∧ Below w.heap.size w w' := by
  obtain ⟨w1, hw1⟩ : ∃ w1, w1 = w.alloc (.cells #[.int .i64 n] 3) := ⟨_, rfl⟩
  have B1 : Hid (Below w.heap.size w w1) := by show Below _ _ _; rw [hw1]; exact al_b _ _
  have hn1 : w1.heap[w.heap.size]? = some (.cells #[.int .i64 n] 3 (0, 0)) := by rw [hw1]; exact new_at _ _
  have HN : Hid (Calls Tryz.prog 40 #[.slice (some ⟨w.heap.size, 0, none⟩) 1 1] w1 fun e w' => e = .returned (.bool (isN n)) ∧ w' = w1) := by
    have := nodes_any (.slice (some ⟨w.heap.size, 0, none⟩) 1 1) [n] w1 ⟨rfl, .inr ⟨_, 0, 1, rfl, (Array.getElem?_eq_some_iff.1 hn1).1, Nat.le_refl _, by decide, fun j u hu => by
      rw [Lib.cell_of_heap hn1, Nat.zero_add, List.getElem?_toArray]
      exact hu⟩⟩ (by simp)
    rw [nodes_one] at this
    exact this
  have hkb : w1.heap[g]? = some (.cells (kpA x vo va vc) 87 (0, 0)) := (B1.out.block g (Array.getElem?_eq_some_iff.1 hk).1).trans hk
  clear hk hn1
  cases hi : isN n
  · rw [hi] at HN
    clear hi hkb
    go_enter Tryz.func42, Tryz.ntmps42
    go_wp2_with fail
    rw [← hw1]
    clear hw1
    refine HN.out.mono ?_
    rintro e w' ⟨rfl, rfl⟩
    go_wp2
    go_ret
    exact ⟨rfl, B1.out⟩
  · rw [hi] at HN
    obtain ⟨i1, i2⟩ := isN_get hi
    obtain ⟨k, rfl⟩ : ∃ k : Nat, n = (k : Int) := ⟨n.toNat, by omega⟩
    have hc := kp_cell hkb (k := k) (by omega)
    have d1 : decide ((k : Int) < 0) = false := decide_eq_false (by omega)
    have d2 : decide ((k : Int) < 16) = true := decide_eq_true (by omega)
    have d3 : decide ((16 : Int) ≤ (k : Int)) = false := decide_eq_false (by omega)
    clear hi hkb
    go_enter Tryz.func42, Tryz.ntmps42
    go_wp2_with fail
    rw [← hw1]
    clear hw1
    refine HN.out.mono ?_
    rintro e w' ⟨rfl, rfl⟩
    go_wp2
    go_ret
    exact ⟨by rw [Int.toNat_natCast]; rfl, B1.out⟩
end Go.Proofs.YtlndgepoekllkaaGreatDoor
/- store.copyOf: its walk, as forest.copied's. -/
namespace Go.Proofs.YtlndgepoekllkaaGreatDoor
open Go.RowKit Go.ChangeMaps

set_option maxRecDepth 100000 in
set_option maxHeartbeats 4000000 in
theorem copyOf_any (t : Ty) (vo va vc : Value) (w : World) (hr : IsTy w t vo va vc) (h1 : t.own.length ≤ 1000) (h2 : t.all.length ≤ 1000) (h3 : t.ch.length ≤ 1000) :
    Calls Tryz.prog 30 #[tyV t vo va vc] w fun e w' => CpT t w e w' := by
  obtain ⟨r1, r2, r3⟩ := hr
  obtain ⟨ao, co, rfl⟩ := r1.form
  obtain ⟨aa, ca, rfl⟩ := r2.form
  obtain ⟨ac, cc, rfl⟩ := r3.form
  obtain ⟨W0, hW0⟩ : ∃ W0, W0 = (w.alloc (.cells (tyA t (.slice ao t.own.length co) (.slice aa t.all.length ca) (.slice ac t.ch.length cc)) 35)).alloc (.cells zTyA 35) := ⟨_, rfl⟩
  have hA : Below w.heap.size w W0 := by rw [hW0]; exact (al_b w _).trans ((al_b _ _).mono (by simp))
  have hz : W0.heap.size = w.heap.size + 2 := by rw [hW0]; simp
  have hn0 : W0.heap[w.heap.size]? = some (.cells (tyA t (.slice ao t.own.length co) (.slice aa t.all.length ca) (.slice ac t.ch.length cc)) 35 (0, 0)) := by
    rw [hW0]
    show ((w.heap.push _).push _)[w.heap.size]? = _
    rw [Array.getElem?_push, if_neg (by simp), Array.getElem?_push, if_pos rfl]
  have hn1 : W0.heap[w.heap.size + 1]? = some (.cells zTyA 35 (0, 0)) := by
    rw [hW0]
    show ((w.heap.push _).push _)[w.heap.size + 1]? = _
    rw [Array.getElem?_push, if_pos (by simp)]
  have HX : Hid (∀ W, Below W0.heap.size W0 W → BxT w.heap.size t (.slice ao t.own.length co) (.slice aa t.all.length ca) (.slice ac t.ch.length cc) W) := fun W h => BxT.of ((h.block _ (by omega)).trans hn0)
  have HZ : Hid (∀ W, Below W0.heap.size W0 W → BxT (w.heap.size + 1) ⟨⟨#[]⟩, ⟨#[]⟩, [], [], [], 0, 0, 0⟩ (.slice none 0 0) (.slice none 0 0) (.slice none 0 0) W) := fun W h => BxT.of ((h.block _ (by omega)).trans hn1)
  have HF0 : Hid (∀ W, Below W0.heap.size W0 W → ∀ j, W.frozen? ⟨w.heap.size, j, none⟩ = false) := fun W h j => Lib.frozen_of_heap ((h.block _ (by omega)).trans hn0) j
  have HF1 : Hid (∀ W, Below W0.heap.size W0 W → ∀ j, W.frozen? ⟨w.heap.size + 1, j, none⟩ = false) := fun W h j => Lib.frozen_of_heap ((h.block _ (by omega)).trans hn1) j
  have HBw : Hid (∀ W, Below W0.heap.size W0 W → Below w.heap.size w W) := fun W h => hA.trans (h.mono hA.size)
  have HC1 : Hid (∀ W, Below W0.heap.size W0 W → Calls Tryz.prog 36 #[.slice ao t.own.length co] W fun e w' => ∃ x y, e = .returned (.slice x t.own.length y) ∧ Hid (w'.ownsRow W0.heap.size 94 3 (.slice x t.own.length y) t.own.length (fCells t.own)) ∧ Below W0.heap.size W0 w' ∧ Below W.heap.size W w') := fun W h => (cloneF_any _ t.own W (r1.below (HBw.out W h)) h1).mono fun e w' ⟨v, he, ho, hb⟩ => by
    obtain ⟨x, y, rfl⟩ := (IsRow.own ho).form
    exact ⟨x, y, he, own_leT ho h.size, h.trans (hb.mono h.size), hb⟩
  have HC2 : Hid (∀ W, Below W0.heap.size W0 W → Calls Tryz.prog 36 #[.slice aa t.all.length ca] W fun e w' => ∃ x y, e = .returned (.slice x t.all.length y) ∧ Hid (w'.ownsRow W0.heap.size 94 3 (.slice x t.all.length y) t.all.length (fCells t.all)) ∧ Below W0.heap.size W0 w' ∧ Below W.heap.size W w') := fun W h => (cloneF_any _ t.all W (r2.below (HBw.out W h)) h2).mono fun e w' ⟨v, he, ho, hb⟩ => by
    obtain ⟨x, y, rfl⟩ := (IsRow.own ho).form
    exact ⟨x, y, he, own_leT ho h.size, h.trans (hb.mono h.size), hb⟩
  have HC3 : Hid (∀ W, Below W0.heap.size W0 W → Calls Tryz.prog 57 #[.slice ac t.ch.length cc] W fun e w' => ∃ x y, e = .returned (.slice x t.ch.length y) ∧ Hid (w'.ownsRow W0.heap.size 9 1 (.slice x t.ch.length y) t.ch.length (sVals t.ch)) ∧ Below W0.heap.size W0 w' ∧ Below W.heap.size W w') := fun W h => (cloneS_any _ t.ch W (r3.below (HBw.out W h)) h3).mono fun e w' ⟨v, he, ho, hb⟩ => by
    obtain ⟨x, y, rfl⟩ := (IsRow.own ho).form
    exact ⟨x, y, he, own_leT ho h.size, h.trans (hb.mono h.size), hb⟩
  have HFin : Hid (∀ w1 w2 w3 x1 y1 x2 y2 x3 y3, Hid (w1.ownsRow W0.heap.size 94 3 (.slice x1 t.own.length y1) t.own.length (fCells t.own)) → Hid (w2.ownsRow W0.heap.size 94 3 (.slice x2 t.all.length y2) t.all.length (fCells t.all)) → Hid (w3.ownsRow W0.heap.size 9 1 (.slice x3 t.ch.length y3) t.ch.length (sVals t.ch)) → Below w1.heap.size w1 w2 → Below w2.heap.size w2 w3 → Below W0.heap.size W0 w3 → CtT w t (((w3.setCell ⟨w.heap.size, 2, none⟩ (.slice x1 t.own.length y1)).setCell ⟨w.heap.size, 3, none⟩ (.slice x2 t.all.length y2)).setCell ⟨w.heap.size, 4, none⟩ (.slice x3 t.ch.length y3))) := fun w1 w2 w3 x1 y1 x2 y2 x3 y3 o1 o2 o3 hb2 hb3 hb => by
    have p1 := own_belowE (own_belowE o1.out hb2) hb3
    have p2 := own_belowE o2.out hb3
    have p3 := o3.out
    rw [hz] at p1 p2 p3
    have oT : OwnTy (w.heap.size + 2) w3 t (.slice x1 t.own.length y1) (.slice x2 t.all.length y2) (.slice x3 t.ch.length y3) := ⟨p1, p2, p3⟩
    refine ⟨x1, y1, x2, y2, x3, y3, ((oT.set (g := w.heap.size) (by omega) 2 _).set (g := w.heap.size) (by omega) 3 _).set (g := w.heap.size) (by omega) 4 _, (((HBw.out _ hb).setCell (Nat.le_refl _) _).setCell (Nat.le_refl _) _).setCell (Nat.le_refl _) _, (HX.out _ hb).set _ _ _, fun j => ?_, (((HZ.out _ hb).far (by omega) 2 _).far (by omega) 3 _).far (by omega) 4 _⟩
    rw [World.frozen?_setCell, World.frozen?_setCell, World.frozen?_setCell]
    exact HF1.out _ hb j
  have HBd : Hid (Below W0.heap.size W0 W0.drew) := (Below.refl _ _).drew
  obtain ⟨⟨a0, a1, a2, a3⟩, a4, a5, a6, a7⟩ := HX.out _ (Below.refl _ _)
  clear r1 r2 r3 hA hn0 hn1 h1 h2 h3
  go_enter Tryz.func30, Tryz.ntmps30
  go_wp2_with fail
  rw [← hW0]
  clear hW0
  go_cut [] (fun wx => CtT w t wx)
  case first =>
    go_region_with (first
      | (go_at_call 36; (with_reducible refine Calls.mono (HC1.out W0.drew HBd.out) ?_); rintro e w1 ⟨x1, y1, rfl, HO1, hb1, -⟩; obtain ⟨⟨-, -, -, b3⟩, b4, -, -, -⟩ := HX.out _ hb1)
      | (go_at_call 36; (with_reducible refine Calls.mono (HC2.out _ hb1) ?_); rintro e w2 ⟨x2, y2, rfl, HO2, hb2, hc2⟩; obtain ⟨-, b4', -, -, -⟩ := HX.out _ hb2)
      | (go_at_call 57; (with_reducible refine Calls.mono (HC3.out _ hb2) ?_); rintro e w3 ⟨x3, y3, rfl, HO3, hb3, hc3⟩; obtain ⟨⟨k0, k1, k2, k3⟩, k4, k5, k6, k7⟩ := HX.out _ hb3; have kf := HF0.out _ hb3))
    all_goals (try go_wp2_with fail)
    all_goals go_meet
    all_goals exact HFin.out _ _ _ _ _ _ _ _ _ HO1 HO2 HO3 hc2 hc3 hb3
  case rest =>
    obtain ⟨x1, y1, x2, y2, x3, y3, HO, HB, HT, HF, HZ0⟩ := hcut
    obtain ⟨⟨c0, c1, c2, c3⟩, c4, c5, c6, c7⟩ := HT.out
    obtain ⟨⟨e0, e1, e2, e3⟩, e4, e5, e6, e7⟩ := HZ0.out
    have f0 := HF.out
    clear HX HZ HF0 HF1 HBw HC1 HC2 HC3 HFin HBd a0 a1 a2 a3 a4 a5 a6 a7 HT HZ0 HF hz
    have HEnd : Hid (∀ u0 u1 u2 u3 u4 u5 u6 u7, CpT t w (.returned (tyV t (.slice x1 t.own.length y1) (.slice x2 t.all.length y2) (.slice x3 t.ch.length y3))) ((((((((wc.setCell ⟨w.heap.size + 1, 0, none⟩ u0).setCell ⟨w.heap.size + 1, 1, none⟩ u1).setCell ⟨w.heap.size + 1, 2, none⟩ u2).setCell ⟨w.heap.size + 1, 3, none⟩ u3).setCell ⟨w.heap.size + 1, 4, none⟩ u4).setCell ⟨w.heap.size + 1, 5, none⟩ u5).setCell ⟨w.heap.size + 1, 6, none⟩ u6).setCell ⟨w.heap.size + 1, 7, none⟩ u7)) := fun u0 u1 u2 u3 u4 u5 u6 u7 =>
      ⟨_, _, _, rfl, (((((((((HO.out.set (g := w.heap.size + 1) (by omega) 0 u0).set (g := w.heap.size + 1) (by omega) 1 u1).set (g := w.heap.size + 1) (by omega) 2 u2).set (g := w.heap.size + 1) (by omega) 3 u3).set (g := w.heap.size + 1) (by omega) 4 u4).set (g := w.heap.size + 1) (by omega) 5 u5).set (g := w.heap.size + 1) (by omega) 6 u6).set (g := w.heap.size + 1) (by omega) 7 u7).le (by omega)), (((((((HB.out.setCell (p := ⟨w.heap.size + 1, 0, none⟩) (Nat.le_add_right _ 1) u0).setCell (p := ⟨w.heap.size + 1, 1, none⟩) (Nat.le_add_right _ 1) u1).setCell (p := ⟨w.heap.size + 1, 2, none⟩) (Nat.le_add_right _ 1) u2).setCell (p := ⟨w.heap.size + 1, 3, none⟩) (Nat.le_add_right _ 1) u3).setCell (p := ⟨w.heap.size + 1, 4, none⟩) (Nat.le_add_right _ 1) u4).setCell (p := ⟨w.heap.size + 1, 5, none⟩) (Nat.le_add_right _ 1) u5).setCell (p := ⟨w.heap.size + 1, 6, none⟩) (Nat.le_add_right _ 1) u6).setCell (p := ⟨w.heap.size + 1, 7, none⟩) (Nat.le_add_right _ 1) u7⟩
    go_wp2_with fail
    try simp only [Exit.inBlock, Exit.then]
    refine bodyPost_ret (v := tyV t (.slice x1 t.own.length y1) (.slice x2 t.all.length y2) (.slice x3 t.ch.length y3)) ?_ rfl (HEnd.out _ _ _ _ _ _ _ _)
    rw [results_c1 rfl]; go_simp
end Go.Proofs.YtlndgepoekllkaaGreatDoor
