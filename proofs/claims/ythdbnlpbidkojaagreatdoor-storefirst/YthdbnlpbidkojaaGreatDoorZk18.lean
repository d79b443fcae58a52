/- The shelf's contracts of slices.SortFunc and Collect at strings and of maps.Keys, at this program, laid by the shelf's tool in plain words. -/
import Derived.Shelf.SlSortCmp.NoneTotal
import Derived.Shelf.SlIter.Collect
import Derived.Ground.SlsfProg
import Derived.Ground.GgzProg
import Derived.Test.YthdbnlpbidkojaaGreatDoorProg
import Derived.Test.YthdbnlpbidkojaaGreatDoorZk12
import Derived.Test.YthdbnlpbidkojaaGreatDoorZk17
import Derived.Test.YthdbnlpbidkojaaGreatDoorZk5
import Derived.Test.YthdbnlpbidkojaaGreatDoorZk4
import Derived.Test.YthdbnlpbidkojaaGreatDoorZk3
import Derived.Test.YthdbnlpbidkojaaGreatDoorZk10
import Derived.Test.YthdbnlpbidkojaaGreatDoorZk15
import Derived.Deep.AppendLies
namespace Go.Proofs
open Go.Shelf
def Tryz.sortSt_ren : Go.Shelf.Ren := ⟨fun | 6 => 70 | 15 => 96 | 14 => 95 | 28 => 118 | 29 => 119 | 20 => 110 | 21 => 111 | 22 => 112 | 23 => 113 | 24 => 114 | 25 => 115 | 26 => 116 | 27 => 117 | 46 => 128 | 47 => 129 | 48 => 130 | 49 => 131 | 50 => 132 | 57 => 135 | n => n, fun | 22 => 31 | 24 => 9 | 25 => 101 | 3 => 3 | 39 => 139 | 0 => 0 | 53 => 166 | 55 => 168 | 4 => 4 | 46 => 159 | 45 => 158 | 50 => 163 | 5 => 5 | 9 => 9 | 66 => 171 | 70 => 175 | 76 => 178 | 77 => 179 | n => n, fun | n => n⟩
theorem Tryz.sortSt : Go.Proofs.SlLaysF.n6 Tryz.prog Tryz.sortSt_ren := {
  mixed := by kernel_rfl
  f6 := ⟨Tryz.f70.name, by decide, Tryz.func70.trans (congrArg some (by kernel_rfl))⟩
  f14 := ⟨Tryz.f95.name, by decide, Tryz.func95.trans (congrArg some (by kernel_rfl))⟩
  f15 := Tryz.func96.trans (congrArg some (by kernel_rfl))
  f20 := ⟨Tryz.f110.name, by decide, Tryz.func110.trans (congrArg some (by kernel_rfl))⟩
  f21 := ⟨Tryz.f111.name, by decide, Tryz.func111.trans (congrArg some (by kernel_rfl))⟩
  f22 := ⟨Tryz.f112.name, by decide, Tryz.func112.trans (congrArg some (by kernel_rfl))⟩
  f23 := ⟨Tryz.f113.name, by decide, Tryz.func113.trans (congrArg some (by kernel_rfl))⟩
  f24 := ⟨Tryz.f114.name, by decide, Tryz.func114.trans (congrArg some (by kernel_rfl))⟩
  f25 := ⟨Tryz.f115.name, by decide, Tryz.func115.trans (congrArg some (by kernel_rfl))⟩
  f26 := ⟨Tryz.f116.name, by decide, Tryz.func116.trans (congrArg some (by kernel_rfl))⟩
  f27 := ⟨Tryz.f117.name, by decide, Tryz.func117.trans (congrArg some (by kernel_rfl))⟩
  f28 := Tryz.func118.trans (congrArg some (by kernel_rfl))
  f29 := Tryz.func119.trans (congrArg some (by kernel_rfl))
  f46 := ⟨Tryz.f128.name, by decide, Tryz.func128.trans (congrArg some (by kernel_rfl))⟩
  f47 := Tryz.func129.trans (congrArg some (by kernel_rfl))
  f48 := Tryz.func130.trans (congrArg some (by kernel_rfl))
  f49 := ⟨Tryz.f131.name, by decide, Tryz.func131.trans (congrArg some (by kernel_rfl))⟩
  f50 := ⟨Tryz.f132.name, by decide, Tryz.func132.trans (congrArg some (by kernel_rfl))⟩
  f57 := ⟨Tryz.f135.name, by decide, Tryz.func135.trans (congrArg some (by kernel_rfl))⟩
  t0 := Tryz.underlying0
  a0 := Tryz.isAgg0
  z0 := Tryz.sizeOf0
  v0 := Tryz.zeroValue0
  t3 := Tryz.underlying3
  a3 := Tryz.isAgg3
  z3 := Tryz.sizeOf3
  v3 := Tryz.zeroValue3
  t4 := Tryz.underlying4
  a4 := Tryz.isAgg4
  z4 := Tryz.sizeOf4
  v4 := Tryz.zeroValue4
  t5 := Tryz.underlying5
  a5 := Tryz.isAgg5
  z5 := Tryz.sizeOf5
  v5 := Tryz.zeroValue5
  t9 := Tryz.underlying9
  a9 := Tryz.isAgg9
  z9 := Tryz.sizeOf9
  v9 := Tryz.zeroValue9
  t22 := Tryz.underlying31
  a22 := Tryz.isAgg31
  z22 := Tryz.sizeOf31
  v22 := Tryz.zeroValue31
  a24 := Tryz.isAgg9
  z24 := Tryz.sizeOf9
  t25 := Tryz.underlying101
  a25 := Tryz.isAgg101
  z25 := Tryz.sizeOf101
  v25 := Tryz.zeroValue101
  t39 := Tryz.underlying139
  a39 := Tryz.isAgg139
  z39 := Tryz.sizeOf139
  v39 := Tryz.zeroValue139
  t45 := Tryz.underlying158
  a45 := Tryz.isAgg158
  z45 := Tryz.sizeOf158
  v45 := Tryz.zeroValue158
  t46 := Tryz.underlying159
  a46 := Tryz.isAgg159
  z46 := Tryz.sizeOf159
  v46 := Tryz.zeroValue159
  t50 := Tryz.underlying163
  a50 := Tryz.isAgg163
  z50 := Tryz.sizeOf163
  v50 := Tryz.zeroValue163
  t53 := Tryz.underlying166
  a53 := Tryz.isAgg166
  z53 := Tryz.sizeOf166
  v53 := Tryz.zeroValue166
  t55 := Tryz.underlying168
  a55 := Tryz.isAgg168
  z55 := Tryz.sizeOf168
  v55 := Tryz.zeroValue168
  t66 := Tryz.underlying171
  a66 := Tryz.isAgg171
  z66 := Tryz.sizeOf171
  v66 := Tryz.zeroValue171
  t70 := Tryz.underlying175
  a70 := Tryz.isAgg175
  z70 := Tryz.sizeOf175
  v70 := Tryz.zeroValue175
  t76 := Tryz.underlying178
  a76 := Tryz.isAgg178
  z76 := Tryz.sizeOf178
  v76 := Tryz.zeroValue178
  t77 := Tryz.underlying179
  a77 := Tryz.isAgg179
  z77 := Tryz.sizeOf179
  v77 := Tryz.zeroValue179 }
def Tryz.keysK_ren : Go.Shelf.Ren := ⟨fun | 7 => 44 | 10 => 71 | n => n, fun | 23 => 63 | 26 => 9 | 3 => 86 | 28 => 99 | 0 => 0 | 27 => 98 | 33 => 121 | 4 => 4 | n => n, fun | n => n⟩
theorem Tryz.keysK : Go.Proofs.SlLaysZ.n7 Tryz.prog Tryz.keysK_ren := {
  mixed := by kernel_rfl
  f7 := ⟨Tryz.f44.name, by decide, Tryz.func44.trans (congrArg some (by kernel_rfl))⟩
  f10 := ⟨Tryz.f71.name, by decide, Tryz.func71.trans (congrArg some (by kernel_rfl))⟩
  t0 := Tryz.underlying0
  a0 := Tryz.isAgg0
  z0 := Tryz.sizeOf0
  v0 := Tryz.zeroValue0
  t4 := Tryz.underlying4
  a4 := Tryz.isAgg4
  z4 := Tryz.sizeOf4
  v4 := Tryz.zeroValue4
  t23 := Tryz.underlying63
  a23 := Tryz.isAgg63
  z23 := Tryz.sizeOf63
  v23 := Tryz.zeroValue63
  t26 := Tryz.underlying9
  a26 := Tryz.isAgg9
  z26 := Tryz.sizeOf9
  v26 := Tryz.zeroValue9
  t27 := Tryz.underlying98
  a27 := Tryz.isAgg98
  z27 := Tryz.sizeOf98
  v27 := Tryz.zeroValue98
  t28 := Tryz.underlying99
  a28 := Tryz.isAgg99
  z28 := Tryz.sizeOf99
  v28 := Tryz.zeroValue99
  t33 := Tryz.underlying121
  a33 := Tryz.isAgg121
  z33 := Tryz.sizeOf121
  v33 := Tryz.zeroValue121 }
def Tryz.collS_ren : Go.Shelf.Ren := ⟨fun | 8 => 69 | 11 => 94 | n => n, fun | 26 => 9 | 28 => 99 | 24 => 31 | 0 => 0 | 33 => 121 | 4 => 4 | n => n, fun | n => n⟩
theorem Tryz.collS : Go.Proofs.SlLaysZ.n8 Tryz.prog Tryz.collS_ren := {
  mixed := by kernel_rfl
  f8 := ⟨Tryz.f69.name, by decide, Tryz.func69.trans (congrArg some (by kernel_rfl))⟩
  f11 := ⟨Tryz.f94.name, by decide, Tryz.func94.trans (congrArg some (by kernel_rfl))⟩
  t0 := Tryz.underlying0
  a0 := Tryz.isAgg0
  z0 := Tryz.sizeOf0
  v0 := Tryz.zeroValue0
  t24 := Tryz.underlying31
  a24 := Tryz.isAgg31
  z24 := Tryz.sizeOf31
  v24 := Tryz.zeroValue31
  t26 := Tryz.underlying9
  a26 := Tryz.isAgg9
  z26 := Tryz.sizeOf9
  v26 := Tryz.zeroValue9
  t28 := Tryz.underlying99
  a28 := Tryz.isAgg99
  z28 := Tryz.sizeOf99
  v28 := Tryz.zeroValue99
  i26 := by kernel_rfl }
end Go.Proofs
/- A store's map as the shelf reads it; maps.Keys, slices.Collect, SortFunc at its keys: over the shelf's contracts. -/
namespace Go.Proofs.YthdbnlpbidkojaaGreatDoor
open Go.RowKit Go.ChangeMaps Go.Maps Go.Sort

/-- Elements are read as nothing. -/
def R0 : Value → Option (DataW Unit × List MemPlace) := fun _ => some (.lit (.bool true), [])
/-- The keys, byte by byte. -/
def keysB (E : List (ByteArray × Nat)) : List (List UInt8) := E.map fun p => p.1.data.toList
theorem MapS.owns {w : World} {m : Nat} {E : List (ByteArray × Nat)} (h : MapS w m E) (hs : ∀ p ∈ E, p.1.size ≤ maxLen) (hl : E.length ≤ maxLen) :
    ∃ D : DataW Unit, w.ownsMap Tryz.prog 9 R0 m E.length D ∧ (strKeys D).Perm (keysB E) ∧ Maps.size D = E.length := by
  obtain ⟨⟨es, c, hb, hr, hst⟩, hn⟩ := h
  have hlen : es.toList.length = E.length := by
    have := congrArg List.length hr
    simpa using this
  have key : ∀ x ∈ es.toList, ∃ p ∈ E, x.key = .string p.1 ∧ WideElems.rd Tryz.prog 9 R0 x = some (.string p.1.data.toList, .lit (.bool true)) := fun x hx => by
    have hm : (x.key, x.val) ∈ E.map kS := by rw [← hr]; exact List.mem_map.2 ⟨x, hx, rfl⟩
    obtain ⟨p, hp, hq⟩ := List.mem_map.1 hm
    have h1 : x.key = .string p.1 := (Prod.mk.inj hq).1.symm
    refine ⟨p, hp, h1, ?_⟩
    obtain ⟨ke, va, bo⟩ := x
    dsimp only at h1
    subst h1
    exact WideElems.rd_mk (R := R0) (yv := (.lit (.bool true), [])) (WideMaps.keyOf_string_mk und_strS (hs p hp)) rfl
  refine ⟨_, ⟨es, c, hb, ⟨by rw [← Array.length_toList, hlen]; exact hl, hst, fun x hx => by
    obtain ⟨p, -, -, h2⟩ := key x hx
    exact ⟨_, h2⟩⟩, by rw [← Array.length_toList, hlen]; exact Nat.le_refl _, rfl⟩, ?_, ?_⟩
  · show (List.map (fun p => strOf p.1) ((es.toList.map (WideElems.rg Tryz.prog 9 R0)).foldr DataW.insert [])).Perm _
    refine ((WideShapes.sorted_perm _).map _).trans ?_
    rw [List.map_map]
    have : es.toList.map ((fun p => strOf p.1) ∘ WideElems.rg Tryz.prog 9 R0) = keysB E := by
      have h1 : es.toList.map ((fun p => strOf p.1) ∘ WideElems.rg Tryz.prog 9 R0) = es.toList.map (fun x => (match x.key with | .string s => s.data.toList | _ => [])) := List.map_congr_left fun x hx => by
        obtain ⟨p, -, h1, h2⟩ := key x hx
        simp only [Function.comp_apply]
        rw [WideElems.rg_of h2, h1]
        rfl
      rw [h1]
      have h2 : es.toList.map (fun x => (match x.key with | .string s => s.data.toList | _ => [])) = (es.toList.map fun e => (e.key, e.val)).map fun q => (match q.1 with | Value.string s => s.data.toList | _ => []) := by
        rw [List.map_map]
        rfl
      rw [h2, hr, List.map_map]
      rfl
    rw [this]
  · show ((es.toList.map (WideElems.rg Tryz.prog 9 R0)).foldr DataW.insert []).length = _
    rw [length_sorted, List.length_map, hlen]
theorem keysM_any (mb : Option Nat) (W : World) : Calls Tryz.prog 44 #[.map mb] W fun e w' => e = .returned (.func (.func 71) #[] #[.pointer (some ⟨W.heap.size, 0, none⟩)]) ∧ w' = W.alloc (.cells #[.map mb] 63) :=
  (callsIn_wide (n := 5)).1 (AnyZ.keys_in Tryz.keysK Fence.wide 5 trivial rfl mb W)
theorem collect_any {W : World} {m b : Nat} {E : List (ByteArray × Nat)} (h : MapS W m E) (hs : ∀ p ∈ E, p.1.size ≤ maxLen) (hl : E.length ≤ 1000) (hb : W.heap[b]? = some (.cells #[.map (some m)] 63 (0, 0))) :
    Calls Tryz.prog 69 #[.func (.func 71) #[] #[.pointer (some ⟨b, 0, none⟩)]] W fun e w' =>
      ∃ (v : Value) (ss : List (List UInt8)), e = .returned v ∧ ss.Perm (keysB E) ∧ w'.ownsRow W.heap.size 9 1 v ss.length (ss.map encStr) ∧ Below W.heap.size W w' := by
  obtain ⟨D, hown, hp, hsz⟩ := h.owns hs (by unfold maxLen; omega)
  have hseq : SeqGives Fence.wide 3 Tryz.prog 71 #[.pointer (some ⟨b, 0, none⟩)] encStr (fun ss => ss.Perm (strKeys D)) (Maps.size D) W :=
    AnyZ.keys_gives (ρ := Tryz.keysK_ren) { Tryz.keysK with } Fence.wide _ trivial rfl (by omega) b m E.length D W (Array.getElem?_eq_some_iff.1 hb).1 (by rw [Lib.cell_of_heap hb]; rfl) hown
  refine (callsIn_wide (n := 5)).1 ((AnyZ.collect_in Tryz.collS Fence.wide 5 trivial trivial rfl (by omega) 71 #[.pointer (some ⟨b, 0, none⟩)] trivial (enters_of Tryz.func71 (by kernel_rfl) rfl) _ _ (by rw [hsz]; unfold maxLen; omega) (by rw [hsz]; omega) W hseq).mono ?_)
  rintro e w' ⟨v, ss, rfl, hS, hrow, -, hb'⟩
  exact ⟨v, ss, rfl, hS.trans hp, hrow, hb'⟩
/-- Texts that are not too long to be held against each other. -/
abbrev StrS := { s : ByteArray // s.size ≤ 1000000 }
instance : Inhabited StrS := ⟨⟨⟨#[]⟩, by decide⟩⟩
def enStrS (x : StrS) : Value := .string x.1
def cfStr (x y : StrS) : Int := cmpL x.1.data.toList y.1.data.toList
/-- Does the one text stand ahead of the other one? -/
def ltStr (a b : ByteArray) : Prop := cmpL a.data.toList b.data.toList = -1
theorem nameCmp_g (x y : StrS) (w : World) (hT : UT w) : Calls Tryz.prog 45 #[enStrS x, enStrS y] w fun e w' => e = .returned (.int .i64 (cfStr x y)) ∧ ∃ q os, w' = Sort.grow (w.drewN q) os := by
  refine (calls_drawn (compare_any x.1 y.1 w x.2 y.2 hT) (fun e w' h => ⟨_, h.1⟩)).mono ?_
  rintro e w' ⟨⟨rfl, hb⟩, hd⟩
  exact ⟨rfl, grow_of hb hd⟩
theorem ltStrS (x y : StrS) : ltOf cfStr x y = true ↔ ltStr x.1 y.1 := by
  unfold ltOf cfStr ltStr
  rw [decide_eq_true_eq, cmpL_lt]
theorem swoStr : Sort.SWO (ltOf cfStr) where
  irrefl x := by
    cases h : ltOf cfStr x x
    · rfl
    · have h1 := (ltStrS x x).1 h
      unfold ltStr cmpL at h1
      have h2 := cmp_anti (foldL x.1.data.toList) (foldL x.1.data.toList)
      omega
  trans x y z h1 h2 := (ltStrS x z).2 (by
    have n1 := (ltStrS x y).1 h1
    have n2 := (ltStrS y z).1 h2
    unfold ltStr cmpL at *
    exact cmp_trans _ _ _ n1 n2)
  ntrans x y z h1 h2 := by
    cases h : ltOf cfStr x z
    · rfl
    · exfalso
      have hxz := (ltStrS x z).1 h
      have n1 : ¬ ltStr x.1 y.1 := fun hh => by rw [(ltStrS x y).2 hh] at h1; cases h1
      have n2 : ¬ ltStr y.1 z.1 := fun hh => by rw [(ltStrS y z).2 hh] at h2; cases h2
      unfold ltStr cmpL at *
      have v1 := cmp_vals (foldL x.1.data.toList) (foldL y.1.data.toList)
      have v2 := cmp_vals (foldL y.1.data.toList) (foldL z.1.data.toList)
      have a1 := cmp_anti (foldL x.1.data.toList) (foldL y.1.data.toList)
      have a2 := cmp_anti (foldL y.1.data.toList) (foldL z.1.data.toList)
      rcases v1 with v1 | v1 | v1
      · exact n1 v1
      · have e := cmp_zero _ _ v1
        rw [← e] at n2
        exact n2 hxz
      · rcases v2 with v2 | v2 | v2
        · exact n2 v2
        · have e := cmp_zero _ _ v2
          rw [e] at n1
          exact n1 hxz
        · have t := cmp_trans _ _ _ (show Lib.compareBytes (foldL z.1.data.toList) (foldL y.1.data.toList) = -1 by omega) (show Lib.compareBytes (foldL y.1.data.toList) (foldL x.1.data.toList) = -1 by omega)
          have a3 := cmp_anti (foldL z.1.data.toList) (foldL x.1.data.toList)
          omega
theorem below_sortS {base g m : Nat} {w : World} {d : Array StrS} {os : Array Obj} (hg : base ≤ g) (hgl : g < w.heap.size) : Below base w (sortWorld enStrS w g 0 m d os) := by
  refine ⟨rfl, rfl, rfl, ?_, ?_⟩
  · show w.heap.size ≤ ((w.heap.modify g _) ++ os).size
    simp
  · intro k hk
    show ((w.heap.modify g _) ++ os)[k]? = w.heap[k]?
    by_cases hks : k < w.heap.size
    · rw [Array.getElem?_append_left (by simpa using hks), Array.getElem?_modify, if_neg (by omega)]
    · exact absurd (Nat.lt_of_lt_of_le hk hg) (by omega)
theorem sort_ownS (g cap base : Nat) (D : List StrS) (w : World) (hown : w.ownsRow base 9 1 (.slice (some ⟨g, 0, none⟩) D.length cap) D.length (D.map enStrS)) (hn : D.length ≤ 1000) (hU : ∀ w', Below base w w' → UT w') :
    Calls Tryz.prog 70 #[.slice (some ⟨g, 0, none⟩) D.length cap, .func (.func 45) #[] #[]] w fun e w' => e = .returned (.tuple #[]) ∧
      ∃ D' : List StrS, D'.Perm D ∧ D'.Pairwise (fun a b => ¬ cfStr b a < 0) ∧ IsRow w' 1 (.slice (some ⟨g, 0, none⟩) D.length cap) D.length (D'.map enStrS) ∧ Below base w w' := by
  obtain ⟨hxl, ⟨hv, _⟩ | ⟨g', cap', cur, hv, hbg, hg, hnc, hcm, hcs, htk⟩⟩ := hown
  · cases hv
  simp only [Value.slice.injEq, Option.some.injEq, Addr.mk.injEq, and_true, true_and] at hv
  obtain ⟨rfl, rfl⟩ := hv
  have hlt : g < w.heap.size := (Array.getElem?_eq_some_iff.1 hg).1
  have hH : Sort.Holds enStrS w g 0 D.toArray := by
    intro j hj
    simp only [List.size_toArray] at hj
    refine ⟨?_, by simp [World.frozen?, hg]⟩
    rw [Nat.zero_add, Lib.cell_of_heap hg]
    have h2 : (D.map enStrS)[j]? = some (enStrS D[j]) := by rw [List.getElem?_map, List.getElem?_eq_getElem hj]; rfl
    rw [← htk, List.getElem?_take_of_lt (by simpa using hj)] at h2
    rw [getElem!_pos D.toArray j (by simpa using hj)]
    simpa using h2
  have eg : ∀ args w, (callFunc 45 args).run Tryz.prog w = .ok (.enter 45 args) w := enters_of Tryz.func45 (by kernel_rfl) rfl
  have hcmp : CmpLays1 Tryz.prog 45 #[] enStrS cfStr g 0 D.toArray.size w := fun m os dk _ x y => nameCmp_g x y _ (hU _ (below_sortS hbg hlt))
  have hcon := Any.slices_SortFunc Tryz.sortSt enStrS (fun _ => rfl) cfStr swoStr 45 #[] g 0 cap D.toArray w eg hcmp hH hlt (by simp; omega)
  rw [List.size_toArray] at hcon
  refine hcon.mono ?_
  rintro e w' ⟨rfl, d', m, os, ⟨hds, _, hp⟩, hs, rfl⟩
  have hds : d'.size = D.length := by simpa using hds
  refine ⟨rfl, d'.toList, ?_, ?_, ?_, below_sortS hbg hlt⟩
  · have e1 : d'.extract 0 D.length = d' := by rw [← hds]; exact Array.extract_size
    have e2 : D.toArray.extract 0 D.length = D.toArray := by
      have := @Array.extract_size _ D.toArray
      rwa [List.size_toArray] at this
    rw [e1, e2] at hp
    exact hp
  · rw [List.pairwise_iff_getElem]
    intro i j hi hj hij
    have hj' : j < d'.size := by simpa using hj
    have := hs i j (Nat.zero_le _) hij (by omega)
    rw [getElem!_pos d' j hj', getElem!_pos d' i (by omega)] at this
    unfold ltOf at this
    simpa using this
  · have hH2 : Sort.Holds enStrS (sortWorld enStrS w g 0 m d' os) g 0 d' := Sort.holds_grow enStrS _ os g 0 d' (by show g < (w.heap.modify g _).size; simpa using hlt) (Sort.holds_putRow enStrS (Sort.ahead w m) g 0 D.toArray d' (Sort.holds_ahead enStrS w m g 0 D.toArray hH) (by simpa using hds))
    have hl2 : d'.toList.length = D.length := by simpa using hds
    refine ⟨by rw [List.length_map, hl2, Nat.mul_one], .inr ⟨g, 0, cap, rfl, ?_, hnc, hcm, ?_⟩⟩
    · show g < ((w.heap.modify g _) ++ os).size
      simp
      omega
    · intro j u hu
      have hj : j < d'.size := by
        have := (List.getElem?_eq_some_iff.1 hu).1
        simpa using this
      have h3 := (hH2 j hj).1
      rw [getElem!_pos d' _ hj] at h3
      rw [List.getElem?_map, List.getElem?_eq_getElem (by simpa using hj)] at hu
      simp at hu
      rw [h3, ← hu]
/-- Texts sorted by name.Compare. -/
def SortedS (D : List ByteArray) : Prop := D.Pairwise fun a b => ¬ cmpL b.data.toList a.data.toList < 0
/-- The sort of a row of texts that the call owns. -/
theorem sortS_str (v : Value) (l : List ByteArray) (base : Nat) (w : World) (hown : w.ownsRow base 9 1 v l.length (sVals l)) (hn : l.length ≤ 1000) (hm : ∀ s ∈ l, s.size ≤ 1000000) (hU : ∀ w', Below base w w' → UT w') :
    Calls Tryz.prog 70 #[v, .func (.func 45) #[] #[]] w fun e w' => e = .returned (.tuple #[]) ∧
      ∃ D : List ByteArray, D.Perm l ∧ SortedS D ∧ IsRow w' 1 v D.length (sVals D) ∧ Below base w w' := by
  by_cases h0 : l.length = 0
  · obtain rfl : l = [] := List.eq_nil_of_length_eq_zero h0
    obtain ⟨a0, cap0, rfl⟩ := (IsRow.own hown).form
    refine (AnyF.slices_SortFunc_none (ρ := Tryz.sortSt_ren) { Tryz.sortSt with } a0 cap0 _ w).mono ?_
    rintro e w' ⟨rfl, rfl⟩
    exact ⟨rfl, [], List.Perm.refl _, List.Pairwise.nil, IsRow.own hown, Below.refl _ _⟩
  · obtain ⟨g, cap, rfl⟩ : ∃ g cap, v = .slice (some ⟨g, 0, none⟩) l.length cap := by
      rcases hown.2 with ⟨_, h⟩ | ⟨g, cap, cur, hv, -⟩
      · exact absurd h h0
      · exact ⟨g, cap, hv⟩
    obtain ⟨D, hD⟩ : ∃ D : List StrS, D.map Subtype.val = l := ⟨l.attach.map fun x => ⟨x.1, hm x.1 x.2⟩, by simp [List.map_map, Function.comp_def]⟩
    have hlen : l.length = D.length := by rw [← hD, List.length_map]
    have hen : ∀ D : List StrS, sVals (D.map Subtype.val) = D.map enStrS := fun D => by
      unfold sVals
      rw [List.map_map]
      rfl
    rw [← hD, hen] at hown
    rw [List.length_map] at hown
    rw [hlen]
    refine (sort_ownS g cap base D w hown (by omega) hU).mono ?_
    rintro e w' ⟨rfl, D', hp, hs, hr, hb⟩
    refine ⟨rfl, D'.map Subtype.val, ?_, ?_, ?_, hb⟩
    · rw [← hD]; exact hp.map _
    · unfold SortedS
      rw [List.pairwise_map]; exact hs
    · rw [hen, List.length_map, hp.length_eq]; exact hr
end Go.Proofs.YthdbnlpbidkojaaGreatDoor
/- slices.SortedFunc at a store's keys; store's All: walks. -/
namespace Go.Proofs.YthdbnlpbidkojaaGreatDoor
open Go.RowKit Go.ChangeMaps

/-- The keys of a store, sorted. -/
def SrtK (E : List (ByteArray × Nat)) (D : List ByteArray) : Prop := D.Perm (E.map (·.1)) ∧ SortedS D
theorem keysB_perm {E : List (ByteArray × Nat)} {ss : List (List UInt8)} (h : ss.Perm (keysB E)) : (ss.map str).Perm (E.map (·.1)) := by
  refine (h.map str).trans ?_
  unfold keysB
  rw [List.map_map]
  have : E.map (str ∘ fun p => p.1.data.toList) = E.map (·.1) := List.map_congr_left fun p _ => by
    obtain ⟨⟨d⟩, g⟩ := p
    show str d.toList = ⟨d⟩
    simp [str]
  rw [this]
theorem sVals_str (ss : List (List UInt8)) : ss.map encStr = sVals (ss.map str) := by
  unfold sVals
  rw [List.map_map]
  rfl
set_option maxRecDepth 100000 in
theorem sortedF_any {W : World} {m b : Nat} {E : List (ByteArray × Nat)} (h : MapS W m E) (hs : ∀ p ∈ E, p.1.size ≤ 1000000) (hl : E.length ≤ 1000) (hb : W.heap[b]? = some (.cells #[.map (some m)] 63 (0, 0))) (hT : UT W) :
    Calls Tryz.prog 43 #[.func (.func 71) #[] #[.pointer (some ⟨b, 0, none⟩)], .func (.func 45) #[] #[]] W fun e w' =>
      ∃ (a : Option Addr) (c : Nat) (D : List ByteArray), e = .returned (.slice a D.length c) ∧ SrtK E D ∧ IsRow w' 1 (.slice a D.length c) D.length (sVals D) ∧ Below W.heap.size W w' := by
  have HC : Hid (Calls Tryz.prog 69 #[.func (.func 71) #[] #[.pointer (some ⟨b, 0, none⟩)]] W fun e w' => ∃ (v : Value) (ss : List (List UInt8)), e = .returned v ∧ ss.Perm (keysB E) ∧ w'.ownsRow W.heap.size 9 1 v ss.length (ss.map encStr) ∧ Below W.heap.size W w') := collect_any h (fun p hp => Nat.le_trans (hs p hp) (by unfold maxLen; decide)) hl hb
  have HS : Hid (∀ v (l : List ByteArray) w, Below W.heap.size W w → l.Perm (E.map (·.1)) → w.ownsRow W.heap.size 9 1 v l.length (sVals l) → Calls Tryz.prog 70 #[v, .func (.func 45) #[] #[]] w fun e w' => e = .returned (.tuple #[]) ∧ ∃ D : List ByteArray, D.Perm l ∧ SortedS D ∧ IsRow w' 1 v D.length (sVals D) ∧ Below W.heap.size w w') := fun v l w hbw hp ho => sortS_str v l _ w ho (by rw [hp.length_eq, List.length_map]; exact hl) (fun s hs' => by
    obtain ⟨p, hp', rfl⟩ := List.mem_map.1 (hp.mem_iff.1 hs')
    exact hs p hp') fun w' hb' => Utf8Tabs_below hT (hbw.trans hb')
  clear h hs hl hb hT
  go_enter Tryz.func43, Tryz.ntmps43
  go_wp2_with fail
  refine HC.out.mono ?_
  rintro e w1 ⟨v, ss, rfl, hp, ho, hb1⟩
  rw [sVals_str] at ho
  have hlen : ss.length = (ss.map str).length := by rw [List.length_map]
  rw [hlen] at ho
  have HSo := HS.out v (ss.map str) w1 hb1 (keysB_perm hp) ho
  have HP : Hid ((ss.map str).Perm (E.map (·.1))) := keysB_perm hp
  have HB1 : Hid (Below W.heap.size W w1) := hb1
  generalize ss.map str = l at *
  obtain ⟨a1, c1, rfl⟩ := (IsRow.own ho).form
  clear hp hb1 HS HC hlen ho
  go_wp2_with fail
  refine HSo.mono ?_
  rintro e w2 ⟨rfl, D, hD, hS, hr, hb2⟩
  have hDl := hD.length_eq
  have HEnd : Hid (∃ (a : Option Addr) (c : Nat) (D : List ByteArray), Ending.returned (.slice a1 l.length c1) = .returned (.slice a D.length c) ∧ SrtK E D ∧ IsRow w2 1 (.slice a D.length c) D.length (sVals D) ∧ Below W.heap.size W w2) := ⟨a1, c1, D, by rw [hDl], ⟨hD.trans HP.out, hS⟩, by rw [hDl] at hr ⊢; exact hr, HB1.out.trans hb2⟩
  clear hD hS hr hb2 hDl HP HB1 HSo
  go_wp2
  go_ret
  exact HEnd.out
/-- The type at a key. -/
def tyK (E : List (ByteArray × Nat)) (X : Nat → Kp) (k : ByteArray) : Ty := (X ((lkS E k).getD 0)).t
/-- Kept types that are not too great. -/
def SmE (E : List (ByteArray × Nat)) (X : Nat → Kp) : Prop := (∀ p ∈ E, p.1.size ≤ 1000000 ∧ (X p.2).t.own.length ≤ 1000 ∧ (X p.2).t.all.length ≤ 1000 ∧ (X p.2).t.ch.length ≤ 1000) ∧ E.length ≤ 1000
theorem lkS_key {E : List (ByteArray × Nat)} {k : ByteArray} (h : k ∈ E.map (·.1)) : ∃ g, lkS E k = some g ∧ (k, g) ∈ E := by
  cases hl : lkS E k with
  | none =>
    obtain ⟨p, hp, rfl⟩ := List.mem_map.1 h
    exact absurd rfl (lkS_none.1 hl p hp)
  | some g => exact ⟨g, rfl, lkS_memB hl⟩
theorem ty_kept {base b0 : Nat} {w w' : World} {o : Value} {n : Nat} {xs : List Value} (ho : w.ownsRow base 35 8 o n xs) (hg : w.grownBy w' o.ownBlock) {t : Ty} {vo va vc : Value} (h : OwnTy b0 w t vo va vc) : OwnTy b0 w' t vo va vc := by
  have key : ∀ (j : Nat) (C : Array Value) (e : TypeId) (z : Nat × Nat), w.heap[j]? = some (Obj.cells C e z) → 35 ≠ e → w'.heap[j]? = w.heap[j]? := fun j C e z hj hne => hg.block j (Array.getElem?_eq_some_iff.1 hj).1 fun hb => by
    rcases ho.2 with ⟨rfl, -⟩ | ⟨g, cap, cur, rfl, -, hc, -⟩
    · cases hb
    · have hjg : j = g := by simpa [Value.ownBlock] using hb
      rw [hjg, hc] at hj
      exact hne (Obj.cells.inj (Option.some.inj hj)).2.1
  exact ⟨own_keep h.1 fun j C z hj => key j C _ z hj (by decide), own_keep h.2.1 fun j C z hj => key j C _ z hj (by decide), own_keep h.2.2 fun j C z hj => key j C _ z hj (by decide)⟩
/-- So many types are laid. -/
def RaI (D : List ByteArray) (f : ByteArray → Ty) (w : World) (k : Nat) (o : Value) (wr : World) : Prop := ∃ M : List LT, tys M = (D.take k).map f ∧ M.length = k ∧ wr.ownsRow w.heap.size 35 8 o k (tCells M) ∧ ∀ y ∈ M, OwnTy w.heap.size wr y.t y.vo y.va y.vc
theorem RaI.step {D : List ByteArray} {f : ByteArray → Ty} {w wr w2 w3 : World} {k : Nat} {o o' : Value} {M : List LT} {y : LT} (hk : k < D.length) (h0 : w.heap.size ≤ wr.heap.size)
    (h1 : tys M = (D.take k).map f) (h2 : M.length = k) (h3 : wr.ownsRow w.heap.size 35 8 o k (tCells M)) (h4 : ∀ y ∈ M, OwnTy w.heap.size wr y.t y.vo y.va y.vc)
    (hyt : y.t = f D[k]) (hyI : OwnTy wr.heap.size w2 y.t y.vo y.va y.vc) (hb2 : Below wr.heap.size wr w2)
    (hown : w3.ownsRow w.heap.size 35 8 o' (k + 1) (tCells M ++ enT y)) (hgrow : (w2.alloc (.cells (tyA y.t y.vo y.va y.vc) 35)).grownBy w3 o.ownBlock) :
    RaI D f w (k + 1) o' w3 := by
  have hal := al_b w2 (.cells (tyA y.t y.vo y.va y.vc) 35)
  have hrow : (w2.alloc (.cells (tyA y.t y.vo y.va y.vc) 35)).ownsRow w.heap.size 35 8 o k (tCells M) := own_belowE (own_belowE h3 hb2) hal
  refine ⟨M ++ [y], ?_, by simp [h2], ?_, fun z hz => ty_kept hrow hgrow ?_⟩
  · have e1 : tys (M ++ [y]) = tys M ++ [y.t] := by simp [tys]
    rw [e1, h1, hyt, List.take_succ_eq_append_getElem hk, List.map_append]
    rfl
  · have e2 : tCells (M ++ [y]) = tCells M ++ enT y := by rw [tCells_app]; congr 1
    rw [e2]
    exact hown
  · rcases List.mem_append.1 hz with hz | hz
    · exact (h4 z hz |>.below hb2).below hal
    · obtain rfl := List.mem_singleton.1 hz
      exact (hyI.below hal).le h0
/-- What All hands out. -/
def AlP (E : List (ByteArray × Nat)) (X : Nat → Kp) (w : World) (e : Ending) (w' : World) : Prop := ∃ (a : Option Addr) (c : Nat) (D : List ByteArray) (M : List LT), e = .returned (.slice a M.length c) ∧ SrtK E D ∧ tys M = D.map (tyK E X) ∧ IsTys w' (.slice a M.length c) M ∧ Below w.heap.size w w'
theorem info_tyS : (Tryz.prog.info? 35).map (fun i => (i.zero, i.size, i.bytes)) = some (some (.agg zTyA), 8, 128) := by kernel_rfl
theorem oneT_cellS (y : LT) : ∀ u ∈ enT y, u.oneCell' = true := fun u hu => by
  simp [enT] at hu
  rcases hu with rfl | rfl | rfl | rfl | rfl | rfl | rfl | rfl <;> rfl
set_option maxRecDepth 100000 in
set_option maxHeartbeats 4000000 in
theorem allS_any {base : Nat} {w : World} {s m : Nat} {E : List (ByteArray × Nat)} {X : Nat → Kp} (h : StV base w s m E X) (hE : SmE E X) (hT : UT w) :
    Calls Tryz.prog 16 #[stP s] w fun e w' => AlP E X w e w' := by
  obtain ⟨i0, hi0, hz0, hz1, hz2⟩ := info_parts info_tyS
  have HK : Hid (Calls Tryz.prog 44 #[.map (some m)] w fun e w' => e = .returned (.func (.func 71) #[] #[.pointer (some ⟨w.heap.size, 0, none⟩)]) ∧ w' = w.alloc (.cells #[.map (some m)] 63)) := keysM_any (some m) w
  obtain ⟨w1, hw1⟩ : ∃ w1, w1 = w.alloc (.cells #[.map (some m)] 63) := ⟨_, rfl⟩
  have B1 : Hid (Below w.heap.size w w1) := by show Below _ _ _; rw [hw1]; exact al_b _ _
  have hn1 : w1.heap[w.heap.size]? = some (.cells #[.map (some m)] 63 (0, 0)) := by rw [hw1]; exact new_at _ _
  have HSr : Hid (Calls Tryz.prog 43 #[.func (.func 71) #[] #[.pointer (some ⟨w.heap.size, 0, none⟩)], .func (.func 45) #[] #[]] w1 fun e w' =>
      ∃ (a : Option Addr) (c : Nat) (D : List ByteArray), e = .returned (.slice a D.length c) ∧ SrtK E D ∧ IsRow w' 1 (.slice a D.length c) D.length (sVals D) ∧ Below w1.heap.size w1 w') := sortedF_any (h.below B1.out).mp (fun p hp => (hE.1 p hp).1) hE.2 hn1 (Utf8Tabs_below hT B1.out)
  have HM : Hid (∀ W, Below w.heap.size w W → W.cell? ⟨s, 0, none⟩ = some (.map (some m)) ∧ ∀ k, (Instr.lookup 63 (.map (some m)) (.string k) false).run Tryz.prog W = .ok (ptS (lkS E k)) W) := fun W hb => ⟨(h.below hb).cell, fun k => (h.below hb).mp.look k⟩
  have HC : Hid (∀ k g, lkS E k = some g → ∀ W, Below w.heap.size w W → ∃ ao co aa ca ac cc, BxT g (X g).t (.slice ao (X g).t.own.length co) (.slice aa (X g).t.all.length ca) (.slice ac (X g).t.ch.length cc) W ∧ Calls Tryz.prog 36 #[tyV (X g).t (.slice ao (X g).t.own.length co) (.slice aa (X g).t.all.length ca) (.slice ac (X g).t.ch.length cc)] W fun e w' => CpT (X g).t W e w') := fun k g hl W hb => by
    obtain ⟨-, vo, va, vc, h0, ho⟩ := (h.below hb).kp _ (lkS_memB hl)
    dsimp only at h0 ho
    obtain ⟨-, s1, s2, s3⟩ := hE.1 _ (lkS_memB hl)
    obtain ⟨ao, co, rfl⟩ := ho.is.1.form
    obtain ⟨aa, ca, rfl⟩ := ho.is.2.1.form
    obtain ⟨ac, cc, rfl⟩ := ho.is.2.2.form
    have c : ∀ j, W.cell? ⟨g, j, none⟩ = (kpA (X g) (.slice ao (X g).t.own.length co) (.slice aa (X g).t.all.length ca) (.slice ac (X g).t.ch.length cc))[j]? := fun j => by rw [Lib.cell_of_heap h0]
    exact ⟨ao, co, aa, ca, ac, cc, ⟨⟨c 0, c 1, c 2, c 3⟩, c 4, c 5, c 6, c 7⟩, copyOf_any _ _ _ _ W ho.is s1 s2 s3⟩
  have HLen : Hid (E.length ≤ 1000) := hE.2
  obtain ⟨c0, -⟩ := HM.out w (Below.refl _ _)
  clear h hE hT hn1
  go_enter Tryz.func16, Tryz.ntmps16
  go_wp2_with fail
  refine HK.out.mono ?_
  rintro e w1' ⟨rfl, hw1'⟩
  obtain rfl : w1' = w1 := hw1'.trans hw1.symm
  clear hw1 hw1' HK c0
  go_wp2_with fail
  refine HSr.out.mono ?_
  rintro e w2 ⟨ar, cr, D, rfl, hSK, hr, hb2⟩
  have B2 : Hid (Below w.heap.size w w2) := B1.out.trans (hb2.mono B1.out.size)
  have HR : Hid (∀ W, Below w2.heap.size w2 W → IsRow W 1 (.slice ar D.length cr) D.length (sVals D)) := fun W hb => hr.below hb
  have HSK : Hid (SrtK E D) := hSK
  have hDl : D.length ≤ 1000 := by rw [hSK.1.length_eq, List.length_map]; exact HLen.out
  have HSt : Hid (RaI D (tyK E X) w2 0 (.slice none 0 0) w2) := ⟨[], by simp [tys], rfl, World.ownsRow_nil _ _ _ _, fun y hy => nomatch hy⟩
  clear hb2 hr hSK HSr HLen
  go_wp2_with fail
  go_loopw [2, 14] (fun o i wr => ∃ k : Nat, k ≤ D.length ∧ i = .int .i64 (k : Int) ∧ Hid (RaI D (tyK E X) w2 k o wr) ∧ Hid (Below w2.heap.size w2 wr)) (fun _ i _ => D.length - (intOf i).toNat)
  case atStart => exact ⟨0, Nat.zero_le _, rfl, HSt, Below.refl _ _⟩
  case round =>
    clear HSt
    obtain ⟨k, hk, rfl, HI, HB⟩ := hrel
    have hsz := HB.out.size
    have HBw : Hid (Below w.heap.size w wr) := B2.out.trans (HB.out.mono B2.out.size)
    by_cases hlk : k < D.length
    · have dk : decide ((k : Int) < D.length) = true := by simp; omega
      obtain ⟨b, off, har, -, hbl, hcap, hc⟩ := s_at (HR.out _ HB.out) (by omega)
      have y0 := hc k hlk
      have p1 : (0 : Int) ≤ (k : Int) := by omega
      have p2 : (k : Int) < (D.length : Int) := by omega
      obtain ⟨g, hg, -⟩ := lkS_key (HSK.out.1.mem_iff.1 (List.getElem_mem hlk))
      have hft : tyK E X D[k] = (X g).t := by unfold tyK; rw [hg]; rfl
      obtain ⟨cs, hlook⟩ := HM.out wr HBw.out
      have hlk2 := hlook D[k]
      rw [hg] at hlk2
      have hlk3 : (Instr.lookup 63 (.map (some m)) (.string D[k]) false).run Tryz.prog wr = .ok (.pointer (some ⟨g, 0, none⟩)) wr := hlk2
      obtain ⟨ao, co, aa, ca, ac, cc, hbx, hcp⟩ := HC.out _ g hg wr HBw.out
      obtain ⟨M, m1, m2, m3, m4⟩ := HI.out
      have HM3 : Hid (wr.ownsRow w2.heap.size 35 8 u2 k (tCells M)) := m3
      have HSp : Hid (∀ (y : LT) (w3 w4 : World) (o' : Value), y.t = (X g).t → OwnTy wr.heap.size w3 y.t y.vo y.va y.vc → Below wr.heap.size wr w3 → w4.ownsRow w2.heap.size 35 8 o' (k + 1) (tCells M ++ enT y) → (w3.alloc (.cells (tyA y.t y.vo y.va y.vc) 35)).grownBy w4 u2.ownBlock → RaI D (tyK E X) w2 (k + 1) o' w4) := fun y w3 w4 o' q1 q2 q3 q4 q5 => RaI.step hlk hsz m1 m2 m3 m4 (q1.trans hft.symm) q2 q3 q4 q5
      have HOl : Hid (∀ b, u2.ownBlock = some b → w2.heap.size ≤ b) := fun b hb => (m3.lt b hb).1
      have HCp : Hid (Calls Tryz.prog 36 #[tyV (X g).t (.slice ao (X g).t.own.length co) (.slice aa (X g).t.all.length ca) (.slice ac (X g).t.ch.length cc)] wr fun e w' => CpT (X g).t wr e w') := hcp
      obtain ⟨⟨g0, g1, g2, g3⟩, g4, g5, g6, g7⟩ := hbx
      clear hlook hlk2 hcp m1 m2 m3 m4 HI hft hc hg
      generalize (X g).t = t at *
      generalize D[k]'hlk = ky at *
      subst har
      go_wp2_with fail
      refine HCp.out.mono ?_
      rintro e w3 ⟨v1, v2, v3, rfl, ho, hb3⟩
      obtain ⟨x1, y1, rfl⟩ := (IsRow.own ho.1).form
      obtain ⟨x2, y2, rfl⟩ := (IsRow.own ho.2.1).form
      obtain ⟨x3, y3, rfl⟩ := (IsRow.own ho.2.2).form
      have HO3 : Hid (w3.ownsRow w2.heap.size 35 8 u2 k (tCells M)) := own_belowE HM3.out hb3
      have HS3 : Hid (∀ (w4 : World) (o' : Value), w4.ownsRow w2.heap.size 35 8 o' (k + 1) (tCells M ++ enT ⟨t, x1, y1, x2, y2, x3, y3⟩) → (w3.alloc (.cells (tyA t (.slice x1 t.own.length y1) (.slice x2 t.all.length y2) (.slice x3 t.ch.length y3)) 35)).grownBy w4 u2.ownBlock → RaI D (tyK E X) w2 (k + 1) o' w4) := fun w4 o' q4 q5 => HSp.out ⟨t, x1, y1, x2, y2, x3, y3⟩ w3 w4 o' rfl ho hb3 q4 q5
      have HB3 : Hid (Below w2.heap.size w2 w3) := HB.out.trans (hb3.mono hsz)
      have hsz3 := HB3.out.size
      clear ho hb3 HSp HCp y0 g0 g1 g2 g3 g4 g5 g6 g7 HM3 cs hlk3
      go_wp2_with (at_builtin; go_loud (refine wpList_append_lies _ rfl (.tmp 18) (.tmp 29) 48 rfl w2.heap.size 35 i0 _ 8 128 Tryz.underlying48 hi0 hz0 hz1 hz2 rfl (by decide) u2 k (tCells M) rfl (HO3.out.alloc _) ⟨w3.heap.size, 0, none⟩ 1 1 (enT ⟨t, x1, y1, x2, y2, x3, y3⟩) rfl rfl (World.news_of_block (cs := tyA t (.slice x1 t.own.length y1) (.slice x2 t.all.length y2) (.slice x3 t.ch.length y3)) (t := 35) (fr := (0, 0)) (heap_alloc_new w3 _)) (oneT_cellS _) (by omega) (by unfold maxLen; omega) (by omega) (by simp; omega) (w3.heap.size + 1) (by simp) ?_; intro gg cap w4 hown4 hgrow hat hlt4))
      have HI4 : Hid (RaI D (tyK E X) w2 (k + 1) (.slice (some ⟨gg, 0, none⟩) (k + 1) cap) w4) := HS3.out w4 _ hown4 hgrow
      have HB4 : Hid (Below w2.heap.size w2 w4) := (HB3.out.trans ((al_b w3 _).mono hsz3)).grown hgrow (by simp; omega) HOl.out
      clear hown4 hgrow hat hlt4 HS3 HO3 HOl
      go_wp2
      go_roundw
      case rel => exact ⟨k + 1, by omega, by simp, HI4, HB4⟩
      case measure => simp [intOf]; omega
    · have dk : decide ((k : Int) < D.length) = false := by simp; omega
      have hk' : k = D.length := by omega
      subst hk'
      obtain ⟨M, m1, m2, m3, m4⟩ := HI.out
      obtain ⟨ra, rc, rfl⟩ := (IsRow.own m3).form
      have HEnd : Hid (AlP E X w (.returned (.slice ra D.length rc)) wr) := by
        refine ⟨ra, rc, D, M, by rw [m2], HSK.out, by rw [m1, List.take_length], ⟨?_, fun y hy => (m4 y hy).is⟩, HBw.out⟩
        have := IsRow.own m3
        rw [m2]
        exact this
      clear m1 m2 m3 m4 HI HR HC HM
      go_wp2
      go_ret
      exact HEnd.out
end Go.Proofs.YthdbnlpbidkojaaGreatDoor
