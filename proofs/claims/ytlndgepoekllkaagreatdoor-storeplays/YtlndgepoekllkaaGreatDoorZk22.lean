/- A store, and what the document says that it keeps: plainly. -/
import Derived.Test.YtlndgepoekllkaaGreatDoorZk13
import Derived.Test.YtlndgepoekllkaaGreatDoorZk15
import Derived.Test.YtlndgepoekllkaaGreatDoorZk21
import Derived.Test.YtlndgepoekllkaaGreatDoorZk17
import Derived.Test.YtlndgepoekllkaaGreatDoorZk9
import Derived.Test.YtlndgepoekllkaaGreatDoorZk18
namespace Go.Proofs.YtlndgepoekllkaaGreatDoor
open Go.RowKit Go.ChangeMaps

/-- The key that a kept type stands at. -/
def fk (k : KR) : ByteArray := fldB k.y.t.n
theorem cmp_fld (a b : ByteArray) : cmpL (fldB a).data.toList (fldB b).data.toList = cmpL a.data.toList b.data.toList := by
  unfold fldB cmpL
  rw [str_data, str_data, foldL_idem, foldL_idem]
/-- A store's entries against what the document says that it keeps. -/
structure PlI (E : List (ByteArray × Nat)) (X : Nat → Kp) (M : List KR) : Prop where
  nk : (E.map (·.1)).Nodup
  nb : (E.map (·.2)).Nodup
  per : (M.map fk).Perm (E.map (·.1))
  srt : (M.map fk).Pairwise fun a b => cmpL a.data.toList b.data.toList < 0
  kat : ∀ (j : Nat) (h : j < M.length), ∃ g, lkS E (fk M[j]) = some g ∧ (X g).t = M[j].y.t ∧ (X g).s = M[j].s ∧ (X g).f = inW M[j].l ∧ NodesP M[j].l
  ok : ∀ k ∈ M, oneB k.y.t = true ∧ chkT k.y.t = true
theorem lk_none {E : List (ByteArray × Nat)} {k : ByteArray} : lkS E k = none ↔ k ∉ E.map (·.1) := by
  unfold lkS
  rw [Option.map_eq_none_iff, List.find?_eq_none]
  simp only [decide_eq_true_eq, List.mem_map, not_exists, not_and]
theorem lk_some {E : List (ByteArray × Nat)} {k : ByteArray} {g : Nat} (h : lkS E k = some g) : (k, g) ∈ E := by
  unfold lkS at h
  obtain ⟨p, hp, rfl⟩ := Option.map_eq_some_iff.1 h
  have h1 := List.mem_of_find?_eq_some hp
  have h2 := List.find?_some hp
  rw [decide_eq_true_eq] at h2
  rw [← h2]
  exact h1
theorem lk_of {E : List (ByteArray × Nat)} (hn : (E.map (·.1)).Nodup) {k : ByteArray} {g : Nat} (h : (k, g) ∈ E) : lkS E k = some g := by
  obtain ⟨g', h1, h2⟩ := lkS_key (List.mem_map.2 ⟨(k, g), h, rfl⟩)
  have := nd_inj hn h h2 rfl
  rw [h1, (Prod.mk.inj this).2]
/-- Two keys of one block are the same. -/
theorem lk_inj {E : List (ByteArray × Nat)} (hn : (E.map (·.2)).Nodup) {k k' : ByteArray} {g : Nat} (h : lkS E k = some g) (h' : lkS E k' = some g) : k = k' :=
  (Prod.mk.inj (nd_inj hn (lk_some h) (lk_some h') rfl)).1
theorem PlI.len {E : List (ByteArray × Nat)} {X : Nat → Kp} {M : List KR} (h : PlI E X M) : M.length = E.length := by
  have := h.per.length_eq
  simpa using this
theorem PlI.find {E : List (ByteArray × Nat)} {X : Nat → Kp} {M : List KR} (h : PlI E X M) (n : ByteArray) : (lkS E (fldB n) = none ∧ fndZ M n < 0) ∨ (∃ (i : Nat) (hi : i < M.length) (g : Nat), fndZ M n = (i : Int) ∧ lkS E (fldB n) = some g ∧ fk M[i] = fldB n ∧ (X g).t = M[i].y.t ∧ (X g).s = M[i].s ∧ (X g).f = inW M[i].l ∧ NodesP M[i].l) := by
  cases hf : fndR M n with
  | none =>
    left
    have h2 : fndZ M n = -1 := by unfold fndZ; rw [hf]
    refine ⟨lk_none.2 fun hm => ?_, by omega⟩
    obtain ⟨k, hk, e⟩ := List.mem_map.1 (h.per.mem_iff.2 hm)
    unfold fndR at hf
    rw [List.findIdx?_eq_none_iff] at hf
    have h3 := hf k hk
    rw [(fldB_same _ _).1 e] at h3
    cases h3
  | some i =>
    right
    have h2 : fndZ M n = (i : Int) := by unfold fndZ; rw [hf]
    unfold fndR at hf
    rw [List.findIdx?_eq_some_iff_getElem] at hf
    obtain ⟨hi, hs, -⟩ := hf
    have e : fk M[i] = fldB n := (fldB_same _ _).2 hs
    obtain ⟨g, g1, g2, g3, g4, g5⟩ := h.kat i hi
    rw [e] at g1
    exact ⟨i, hi, g, h2, g1, e, g2, g3, g4, g5⟩
theorem PlI.ne {E : List (ByteArray × Nat)} {X : Nat → Kp} {M : List KR} (h : PlI E X M) {i j : Nat} (hi : i < M.length) (hj : j < M.length) (hne : i ≠ j) : fk M[i] ≠ fk M[j] := fun e => by
  have hp := List.pairwise_iff_getElem.1 h.srt
  have g : ∀ (a : Nat) (ha : a < M.length), (M.map fk)[a]'(by rw [List.length_map]; exact ha) = fk M[a] := fun a ha => by rw [List.getElem_map]
  rcases Nat.lt_or_gt_of_ne hne with hlt | hlt
  · have := hp i j (by rw [List.length_map]; exact hi) (by rw [List.length_map]; exact hj) hlt
    rw [g i hi, g j hj, e, cmpL_irr] at this
    exact absurd this (by decide)
  · have := hp j i (by rw [List.length_map]; exact hj) (by rw [List.length_map]; exact hi) hlt
    rw [g i hi, g j hj, e, cmpL_irr] at this
    exact absurd this (by decide)
theorem set_map {M : List KR} {i : Nat} (hi : i < M.length) {k : KR} (e : fk k = fk M[i]) : (M.set i k).map fk = M.map fk := by
  rw [List.map_set, e]
  refine List.ext_getElem (by simp) fun j h1 h2 => ?_
  rw [List.getElem_set]
  split
  · rename_i h; subst h; rw [List.getElem_map]
  · rfl
theorem wthN_set {M : List KR} {i : Nat} {k : KR} : ∀ j, j ≤ M.length → wthN M (i : Int) k j = (true, (M.take j).set i k)
  | 0, _ => by simp [wthN]
  | j + 1, hj => by
    have ih := wthN_set (M := M) (i := i) (k := k) j (by omega)
    rw [wth_same (by omega) (Or.inl (by rw [ih])), ih, List.take_succ_eq_append_getElem (by omega)]
    refine Prod.ext rfl ?_
    show (M.take j).set i k ++ [if (j : Int) = (i : Int) then k else M[j]] = ((M.take j) ++ [M[j]]).set i k
    rw [List.set_append]
    have hl : (M.take j).length = j := by rw [List.length_take]; omega
    rw [hl]
    by_cases e : j = i
    · subst e
      rw [if_pos rfl, if_neg (Nat.lt_irrefl _), Nat.sub_self, List.set_eq_of_length_le (l := M.take j) (by rw [hl]; exact Nat.le_refl _)]
      rfl
    · by_cases hlt : i < j
      · rw [if_pos hlt, if_neg (by omega)]
      · rw [if_neg hlt, if_neg (by omega), List.set_eq_of_length_le (by rw [hl]; omega), List.set_eq_of_length_le (by simp; omega)]
theorem wthR_set {M : List KR} {i : Nat} {k : KR} : wthR M (i : Int) k = M.set i k := by
  unfold wthR
  rw [wthN_set _ (Nat.le_refl _), if_pos rfl, List.take_length]
theorem wthN_ins {M : List KR} {z : Int} {k : KR} (hz : z < 0) : ∀ j, j ≤ M.length → (wthN M z k j = (false, M.take j) ∧ ∀ a ∈ M.take j, ltK k a = false) ∨ (∃ A b B, M.take j = A ++ b :: B ∧ wthN M z k j = (true, A ++ k :: b :: B) ∧ (∀ a ∈ A, ltK k a = false) ∧ ltK k b = true)
  | 0, _ => by
    left
    refine ⟨?_, fun a ha => by simp at ha⟩
    simp [wthN]
    omega
  | j + 1, hj => by
    have hne : ¬ (j : Int) = z := by omega
    have hjl : j < M.length := by omega
    rcases wthN_ins (M := M) (k := k) hz j (by omega) with ⟨h1, h2⟩ | ⟨A, b, B, h1, h2, h3, h4⟩
    · cases hl : ltK k M[j] with
      | true =>
        right
        refine ⟨M.take j, M[j], [], List.take_succ_eq_append_getElem hjl, ?_, h2, hl⟩
        rw [wth_put hjl (by rw [h1]) hl, h1]
        simp
      | false =>
        left
        rw [wth_same hjl (Or.inr hl), h1, if_neg hne, List.take_succ_eq_append_getElem hjl]
        refine ⟨rfl, fun a ha => ?_⟩
        rcases List.mem_append.1 ha with ha | ha
        · exact h2 a ha
        · rw [List.mem_singleton.1 ha]; exact hl
    · right
      refine ⟨A, b, B ++ [M[j]], ?_, ?_, h3, h4⟩
      · rw [List.take_succ_eq_append_getElem hjl, h1]; simp
      · rw [wth_same hjl (Or.inl (by rw [h2])), h2, if_neg hne]
        simp
theorem wthR_ins {M : List KR} {z : Int} {k : KR} (hz : z < 0) : ∃ A B, M = A ++ B ∧ wthR M z k = A ++ k :: B ∧ (∀ a ∈ A, ltK k a = false) ∧ ∀ b, B.head? = some b → ltK k b = true := by
  rcases wthN_ins (M := M) (k := k) hz M.length (Nat.le_refl _) with ⟨h1, h2⟩ | ⟨A, b, B, h1, h2, h3, h4⟩
  · refine ⟨M, [], by simp, ?_, fun a ha => h2 a (by rw [List.take_length]; exact ha), fun b hb => by simp at hb⟩
    unfold wthR
    rw [h1, if_neg (by simp), List.take_length]
  · rw [List.take_length] at h1
    refine ⟨A, b :: B, h1, ?_, h3, fun b' hb => by simp at hb; rw [← hb]; exact h4⟩
    unfold wthR
    rw [h2, if_pos rfl]
theorem stS_new {E : List (ByteArray × Nat)} {k : ByteArray} {g : Nat} (h : lkS E k = none) : stS E k g = E ++ [(k, g)] := by
  unfold stS
  rw [if_pos h]
theorem upX_ne {X : Nat → Kp} {g b : Nat} {x : Kp} (h : b ≠ g) : upX X g x b = X b := by unfold upX; rw [if_neg h]
theorem upX_eq {X : Nat → Kp} {g : Nat} {x : Kp} : upX X g x g = x := by unfold upX; rw [if_pos rfl]
theorem lk_blk {E : List (ByteArray × Nat)} {k : ByteArray} {g : Nat} (h : lkS E k = some g) : g ∈ E.map (·.2) := List.mem_map.2 ⟨_, lk_some h, rfl⟩
/-- A type is put in that is new. -/
theorem PlI.put_new {E : List (ByteArray × Nat)} {X : Nat → Kp} {M : List KR} (h : PlI E X M) {o : LT} {g : Nat} (hg : g ∉ E.map (·.2)) (hk : lkS E (fldB o.t.n) = none) (hz : fndZ M o.t.n < 0) (h1 : oneB o.t = true) (h2 : chkT o.t = true) (nk' : ((stS E (fldB o.t.n) g).map (·.1)).Nodup) (nb' : ((stS E (fldB o.t.n) g).map (·.2)).Nodup) :
    PlI (stS E (fldB o.t.n) g) (upX X g ⟨o.t, false, zW⟩) (wthR M (fndZ M o.t.n) ⟨o, false, [], none, 0⟩) := by
  obtain ⟨A, B, hAB, hw, hA, hB⟩ := wthR_ins (M := M) (k := ⟨o, false, [], none, 0⟩) hz
  rw [hw]
  have hkn := lk_none.1 hk
  have hneq : ∀ a ∈ M, cmpL a.y.t.n.data.toList o.t.n.data.toList ≠ 0 := fun a ha e => by
    have e1 : fk a = fldB o.t.n := (fldB_same _ _).2 (sameL_iff.2 e)
    exact hkn (h.per.mem_iff.1 (List.mem_map.2 ⟨a, ha, e1⟩))
  have hs := h.srt
  rw [hAB, List.map_append, List.pairwise_append] at hs
  obtain ⟨s1, s2, s3⟩ := hs
  have hltA : ∀ a ∈ A, cmpL (fk a).data.toList (fldB o.t.n).data.toList < 0 := fun a ha => by
    have e1 := of_decide_eq_false (hA a ha)
    have e2 := hneq a (by rw [hAB]; simp [ha])
    have e3 := cmpL_anti a.y.t.n.data.toList o.t.n.data.toList
    unfold fk
    rw [cmp_fld]
    dsimp only at e1
    omega
  have hltB : ∀ b ∈ B, cmpL (fldB o.t.n).data.toList (fk b).data.toList < 0 := fun b hb => by
    cases B with
    | nil => simp at hb
    | cons b0 B' =>
      have e0 : cmpL (fldB o.t.n).data.toList (fk b0).data.toList < 0 := by
        have := of_decide_eq_true (hB b0 rfl)
        unfold fk
        rw [cmp_fld]
        exact this
      rcases List.mem_cons.1 hb with rfl | hb
      · exact e0
      · rw [List.map_cons, List.pairwise_cons] at s2
        exact cmpL_tr e0 (s2.1 _ (List.mem_map.2 ⟨b, hb, rfl⟩))
  have hlk := lkS_stS E (fldB o.t.n) g
  refine ⟨nk', nb', ?_, ?_, ?_, ?_⟩
  · rw [stS_new hk, List.map_append, List.map_append, List.map_cons]
    have e1 : (A.map fk ++ fk ⟨o, false, [], none, 0⟩ :: B.map fk).Perm (fk ⟨o, false, [], none, 0⟩ :: (A.map fk ++ B.map fk)) := List.perm_middle
    refine e1.trans ?_
    have e2 : (A.map fk ++ B.map fk).Perm (E.map (·.1)) := by rw [← List.map_append, ← hAB]; exact h.per
    refine (List.Perm.cons _ e2).trans ?_
    show (fldB o.t.n :: E.map (·.1)).Perm (E.map (·.1) ++ [fldB o.t.n])
    exact (List.perm_append_singleton _ _).symm
  · rw [List.map_append, List.map_cons, List.pairwise_append, List.pairwise_cons]
    refine ⟨s1, ⟨fun b hb => ?_, s2⟩, fun a ha b hb => ?_⟩
    · obtain ⟨x, hx, rfl⟩ := List.mem_map.1 hb
      exact hltB x hx
    · obtain ⟨x, hx, rfl⟩ := List.mem_map.1 ha
      rcases List.mem_cons.1 hb with rfl | hb
      · exact hltA x hx
      · exact s3 _ (List.mem_map.2 ⟨x, hx, rfl⟩) _ hb
  · have key : ∀ x ∈ A ++ (⟨o, false, [], none, 0⟩ : KR) :: B, ∃ g', lkS (stS E (fldB o.t.n) g) (fk x) = some g' ∧ (upX X g ⟨o.t, false, zW⟩ g').t = x.y.t ∧ (upX X g ⟨o.t, false, zW⟩ g').s = x.s ∧ (upX X g ⟨o.t, false, zW⟩ g').f = inW x.l ∧ NodesP x.l := fun x hx => by
      have hxx : x = ⟨o, false, [], none, 0⟩ ∨ x ∈ M := by
        rw [hAB]
        simp only [List.mem_append, List.mem_cons] at hx ⊢
        rcases hx with hx | rfl | hx
        · exact .inr (.inl hx)
        · exact .inl rfl
        · exact .inr (.inr hx)
      rcases hxx with rfl | hx
      · refine ⟨g, ?_, ?_, ?_, ?_, ?_⟩
        · rw [hlk]; exact if_pos rfl
        · rw [upX_eq]
        · rw [upX_eq]
        · rw [upX_eq, inW_nil]
        · exact fun k hk => absurd hk (by simp)
      · obtain ⟨j, hj, rfl⟩ := List.getElem_of_mem hx
        obtain ⟨g', g1, g2, g3, g4, g5⟩ := h.kat j hj
        have hne : g' ≠ g := fun e => hg (by rw [← e]; exact lk_blk g1)
        refine ⟨g', ?_, ?_, ?_, ?_, g5⟩
        · rw [hlk, if_neg fun e => ?_]
          · exact g1
          · rw [e, hk] at g1; cases g1
        · rw [upX_ne hne]; exact g2
        · rw [upX_ne hne]; exact g3
        · rw [upX_ne hne]; exact g4
    exact fun j hj => key _ (List.getElem_mem hj)
  · intro x hx
    simp only [List.mem_append, List.mem_cons] at hx
    rcases hx with hx | rfl | hx
    · exact h.ok x (by rw [hAB]; simp [hx])
    · exact ⟨h1, h2⟩
    · exact h.ok x (by rw [hAB]; simp [hx])
/-- What is kept at a name is changed, in the same block or in another one. -/
theorem PlI.upd {E E' : List (ByteArray × Nat)} {X : Nat → Kp} {M : List KR} (h : PlI E X M) {i : Nat} (hi : i < M.length) {k : KR} {g g' : Nat} (hk : fk k = fk M[i]) (_ : lkS E (fk M[i]) = some g) (hE : E'.map (·.1) = E.map (·.1)) (nb' : (E'.map (·.2)).Nodup) (hl : lkS E' (fk M[i]) = some g') (ho : ∀ (j : Nat) (hj : j < M.length), j ≠ i → lkS E' (fk M[j]) = lkS E (fk M[j]) ∧ lkS E (fk M[j]) ≠ some g')
    (x : Kp) (hx : x.t = k.y.t ∧ x.s = k.s ∧ x.f = inW k.l ∧ NodesP k.l) (h1 : oneB k.y.t = true ∧ chkT k.y.t = true) : PlI E' (upX X g' x) (M.set i k) := by
  refine ⟨by rw [hE]; exact h.nk, nb', ?_, ?_, fun j hj => ?_, fun y hy => ?_⟩
  · rw [set_map hi hk, hE]; exact h.per
  · rw [set_map hi hk]; exact h.srt
  · rw [List.length_set] at hj
    rw [List.getElem_set]
    by_cases e : i = j
    · subst e
      rw [if_pos rfl]
      refine ⟨g', by rw [hk]; exact hl, ?_, ?_, ?_, hx.2.2.2⟩
      · rw [upX_eq]; exact hx.1
      · rw [upX_eq]; exact hx.2.1
      · rw [upX_eq]; exact hx.2.2.1
    · rw [if_neg e]
      obtain ⟨a, g1, g2, g3, g4, g5⟩ := h.kat j hj
      obtain ⟨o1, o2⟩ := ho j hj (fun e' => e e'.symm)
      have hne : a ≠ g' := fun e' => o2 (by rw [g1, e'])
      refine ⟨a, by rw [o1]; exact g1, ?_, ?_, ?_, g5⟩
      · rw [upX_ne hne]; exact g2
      · rw [upX_ne hne]; exact g3
      · rw [upX_ne hne]; exact g4
  · rcases List.mem_or_eq_of_mem_set hy with hy | rfl
    · exact h.ok y hy
    · exact h1
/-- A type is put in over another one. -/
theorem PlI.put_over {E : List (ByteArray × Nat)} {X : Nat → Kp} {M : List KR} (h : PlI E X M) {o : LT} {g : Nat} (hg : g ∉ E.map (·.2)) {i : Nat} (hi : i < M.length) (e : fk M[i] = fldB o.t.n) (h1 : oneB o.t = true) (h2 : chkT o.t = true) (nb' : ((stS E (fldB o.t.n) g).map (·.2)).Nodup) :
    PlI (stS E (fldB o.t.n) g) (upX X g ⟨o.t, false, zW⟩) (wthR M (i : Int) ⟨o, false, [], none, 0⟩) := by
  rw [wthR_set]
  obtain ⟨g0, g1, -, -, -, -⟩ := h.kat i hi
  have hlk := lkS_stS E (fldB o.t.n) g
  have hne : lkS E (fldB o.t.n) ≠ none := by rw [← e, g1]; exact fun e => by cases e
  refine h.upd hi (g := g0) (g' := g) (by rw [e]; rfl) g1 (stS_keys _ _ _ hne) nb' ?_ ?_ ⟨o.t, false, zW⟩ ⟨rfl, rfl, inW_nil.symm, fun k hk => absurd hk (by simp)⟩ ⟨h1, h2⟩
  · rw [hlk, e]; exact if_pos rfl
  · intro j hj hji
    refine ⟨?_, fun e' => hg (lk_blk e')⟩
    rw [hlk, if_neg (by rw [← e]; exact h.ne hj hi hji)]
/-- What is kept is told another word. -/
theorem PlI.told {E : List (ByteArray × Nat)} {X : Nat → Kp} {M : List KR} (h : PlI E X M) {i : Nat} (hi : i < M.length) {g : Nat} (hg : lkS E (fk M[i]) = some g) {D : Bool} {l : List Int} (va : Option Addr) (vc : Nat) (hl : NodesP l) :
    PlI E (upX X g ⟨(X g).t, D, inW l⟩) (wthR M (i : Int) ⟨M[i].y, D, l, va, vc⟩) := by
  rw [wthR_set]
  obtain ⟨g0, g1, g2, -, -, -⟩ := h.kat i hi
  obtain rfl : g0 = g := Option.some.inj (g1.symm.trans hg)
  refine h.upd hi (k := ⟨M[i].y, D, l, va, vc⟩) (g := g0) (g' := g0) rfl g1 rfl h.nb g1 ?_ ⟨(X g0).t, D, inW l⟩ ⟨g2, rfl, rfl, hl⟩ (h.ok M[i] (List.getElem_mem hi))
  exact fun j hj hji => ⟨rfl, fun e => h.ne hj hi hji (lk_inj h.nb e g1)⟩
theorem PlI.loosen {E : List (ByteArray × Nat)} {X X' : Nat → Kp} {M : List KR} (h : PlI E X M) (hX : ∀ p ∈ E, X' p.2 = lsK (X p.2)) : PlI E X' (M.map lsR) := by
  have hm : (M.map lsR).map fk = M.map fk := by rw [List.map_map]; rfl
  refine ⟨h.nk, h.nb, by rw [hm]; exact h.per, by rw [hm]; exact h.srt, fun j hj => ?_, fun y hy => ?_⟩
  · rw [List.length_map] at hj
    rw [List.getElem_map]
    obtain ⟨g, g1, g2, -, -, -⟩ := h.kat j hj
    have e := hX _ (lk_some g1)
    refine ⟨g, g1, ?_, ?_, ?_, fun k hk => absurd hk (by simp [lsR])⟩
    · show (X' g).t = _; rw [e]; exact g2
    · show (X' g).s = _; rw [e]; rfl
    · show (X' g).f = _; rw [e]; exact inW_nil.symm
  · obtain ⟨k, hk, rfl⟩ := List.mem_map.1 hy
    exact h.ok k hk
theorem PlI.keys {E : List (ByteArray × Nat)} {X : Nat → Kp} {M : List KR} (h : PlI E X M) {D : List ByteArray} (hD : SrtK E D) : D = M.map fk := by
  refine List.Perm.eq_of_pairwise (le := fun a b => ¬ cmpL b.data.toList a.data.toList < 0) (fun a b ha hb h1 h2 => ?_) (show D.Pairwise (fun a b => ¬ cmpL b.data.toList a.data.toList < 0) from hD.2) (h.srt.imp fun {a b} hab => ?_) (hD.1.trans h.per.symm)
  · have fix : ∀ k, k ∈ M.map fk → ∃ u : KR, fk u = k := fun k hk => by
      obtain ⟨u, -, e⟩ := List.mem_map.1 hk
      exact ⟨u, e⟩
    obtain ⟨u, rfl⟩ := fix a (h.per.mem_iff.2 (hD.1.mem_iff.1 ha))
    obtain ⟨v, rfl⟩ := fix b hb
    have e0 : cmpL (fk u).data.toList (fk v).data.toList = 0 := by
      have an := cmpL_anti (fk u).data.toList (fk v).data.toList
      omega
    unfold fk at e0 ⊢
    rw [cmp_fld] at e0
    exact (fldB_same _ _).2 (sameL_iff.2 e0)
  · have an := cmpL_anti a.data.toList b.data.toList
    omega
theorem PlI.waits {E : List (ByteArray × Nat)} {X : Nat → Kp} {M : List KR} (h : PlI E X M) : (E.countP fun p => anyW (X p.2).f) = M.countP fun r => decide (r.l ≠ []) := by
  have e1 : (E.countP fun p => anyW (X p.2).f) = (E.map (·.1)).countP fun k => anyW (X ((lkS E k).getD 0)).f := by
    rw [List.countP_map]
    refine List.countP_congr fun p hp => ?_
    show anyW (X p.2).f = true ↔ anyW (X ((lkS E p.1).getD 0)).f = true
    rw [lk_of h.nk (k := p.1) (g := p.2) hp]
    rfl
  rw [e1, ← h.per.countP_eq, List.countP_map]
  refine List.countP_congr fun k hk => ?_
  obtain ⟨j, hj, rfl⟩ := List.getElem_of_mem hk
  obtain ⟨g, g1, -, -, g4, g5⟩ := h.kat j hj
  show anyW (X ((lkS E (fk M[j])).getD 0)).f = true ↔ decide (M[j].l ≠ []) = true
  rw [g1]
  show anyW (X g).f = true ↔ _
  rw [g4]
  have := anyW_inW g5
  by_cases e : M[j].l = []
  · rw [decide_eq_true e] at this
    simp [e] at this ⊢
    exact this
  · rw [decide_eq_false e] at this
    simp [e] at this ⊢
    exact this
theorem PlI.tyK {E : List (ByteArray × Nat)} {X : Nat → Kp} {M : List KR} (h : PlI E X M) : (M.map fk).map (tyK E X) = M.map fun k => k.y.t := by
  rw [List.map_map]
  refine List.map_congr_left fun k hk => ?_
  obtain ⟨j, hj, rfl⟩ := List.getElem_of_mem hk
  obtain ⟨g, g1, g2, -⟩ := h.kat j hj
  show (X ((lkS E (fk M[j])).getD 0)).t = _
  rw [g1]
  exact g2
theorem pl_nil (X : Nat → Kp) : PlI [] X [] := ⟨List.nodup_nil, List.nodup_nil, List.Perm.nil, List.Pairwise.nil, fun j hj => absurd hj (by simp), fun k hk => absurd hk (by simp)⟩
end Go.Proofs.YtlndgepoekllkaaGreatDoor
/- The reference's Begin where it refuses: its walk. -/
namespace Go.Proofs.YtlndgepoekllkaaGreatDoor
open Go.RowKit Go.ChangeMaps

/-- A row of what the reference keeps lies where it lay. -/
theorem below3 {w w' : World} {g : Nat} (h : Below w.heap.size w w') (hg : w.heap.size ≤ g) (u0 u1 u2 : Value) : Below w.heap.size w (((w'.setCell ⟨g, 0, none⟩ u0).setCell ⟨g, 1, none⟩ u1).setCell ⟨g, 2, none⟩ u2) :=
  ((h.setCell (p := ⟨g, 0, none⟩) hg u0).setCell (p := ⟨g, 1, none⟩) hg u1).setCell (p := ⟨g, 2, none⟩) hg u2
set_option maxRecDepth 100000 in
set_option maxHeartbeats 4000000 in
theorem begin17_bad (v u : Value) (M : List KR) (n : ByteArray) (l : List Int) (w : World) (hr : IsRow w 10 v M.length (kCells M)) (hl : M.length ≤ 1000) (hN : ∀ k ∈ M, k.y.t.n.size ≤ 1000000) (hn : n.size ≤ 1000000) (hu : IsRow w 1 u l.length (iCells l)) (hul : l.length ≤ 140737488355328) (hP : nodesB l = false) :
    Calls Tryz.prog 21 #[.agg #[v], .string n, u] w fun e w' => e = .returned (.agg #[v, .bool false, .int .i64 1]) ∧ Below w.heap.size w w' := by
  obtain ⟨a0, c0, rfl⟩ := hr.form
  obtain ⟨a1, c1, rfl⟩ := hu.form
  have HNo : Hid (∀ W, Below w.heap.size w W → Calls Tryz.prog 51 #[.slice a1 l.length c1] W fun e w' => e = .returned (.bool false) ∧ Below W.heap.size W w') := fun W hb => by
    have := refNodesG_any _ l W (hu.below hb) hul
    rw [hP] at this
    exact this
  have HFi : Hid (∀ W, Below w.heap.size w W → Calls Tryz.prog 32 #[.agg #[.slice a0 M.length c0], .string n] W fun e w' => e = .returned (.int .i64 (fndZ M n)) ∧ Below W.heap.size W w') := fun W hb => find17_any _ M n W (hr.below hb) hl hN hn
  clear hr hN hn hu hul hP
  generalize fndZ M n = Z at *
  obtain ⟨w1, hw1⟩ : ∃ w1, w1 = w.alloc (.cells #[.slice a0 M.length c0] 27) := ⟨_, rfl⟩
  have B1 : Hid (Below w.heap.size w w1) := by show Below _ _ _; rw [hw1]; exact al_b _ _
  have hn1 : w1.heap[w.heap.size]? = some (.cells #[.slice a0 M.length c0] 27 (0, 0)) := by rw [hw1]; exact new_at _ _
  have C1 : Hid (∀ W, Below w1.heap.size w1 W → W.heap[w.heap.size]? = some (.cells #[.slice a0 M.length c0] 27 (0, 0))) := fun W h => (h.block _ (Array.getElem?_eq_some_iff.1 hn1).1).trans hn1
  clear hn1
  obtain ⟨w2, hw2⟩ : ∃ w2, w2 = w1.alloc (.cells #[.slice none 0 0, .bool false, .int .i64 0] 73) := ⟨_, rfl⟩
  have B2 : Hid (Below w1.heap.size w1 w2) := by show Below _ _ _; rw [hw2]; exact al_b _ _
  have hn2 : w2.heap[(w.heap.size + 1)]? = some (.cells #[.slice none 0 0, .bool false, .int .i64 0] 73 (0, 0)) := by rw [hw2]; rw [show w.heap.size + 1 = w1.heap.size by (rw [hw1]; simp)]; exact new_at _ _
  have C2 : Hid (∀ W, Below w2.heap.size w2 W → W.heap[(w.heap.size + 1)]? = some (.cells #[.slice none 0 0, .bool false, .int .i64 0] 73 (0, 0))) := fun W h => (h.block _ (Array.getElem?_eq_some_iff.1 hn2).1).trans hn2
  clear hn2
  have HBw0 : Hid (Below w.heap.size w w2) := B1.out.trans (B2.out.mono B1.out.size)
  have HCp : Hid (∀ W, Below w2.heap.size w2 W → W.heap[w.heap.size]? = some (.cells #[.slice a0 M.length c0] 27 (0, 0))) := fun W hb => C1.out W (B2.out.trans (hb.mono B2.out.size))
  go_enter Tryz.func21, Tryz.ntmps21
  go_wp2_with fail
  rw [← hw1, ← hw2]
  clear hw1 hw2
  refine (HNo.out _ HBw0.out).mono ?_
  rintro e w5 ⟨rfl, hb⟩
  have B5 : Hid (Below w2.heap.size w2 w5) := hb
  clear hb
  have hp5 := HCp.out _ B5.out
  have cb : w5.cell? ⟨w.heap.size, 0, none⟩ = some (.slice a0 M.length c0) := by rw [Lib.cell_of_heap hp5]; rfl
  have H5 : Hid (Below w.heap.size w w5) := HBw0.out.trans (B5.out.mono HBw0.out.size)
  clear hp5
  have hq := C2.out _ B5.out
  have c0_ : w5.cell? ⟨w.heap.size + 1, 0, none⟩ = some (.slice none 0 0) := by rw [Lib.cell_of_heap hq]; rfl
  have c1_ : w5.cell? ⟨w.heap.size + 1, 1, none⟩ = some (.bool false) := by rw [Lib.cell_of_heap hq]; rfl
  have c2_ : w5.cell? ⟨w.heap.size + 1, 2, none⟩ = some (.int .i64 0) := by rw [Lib.cell_of_heap hq]; rfl
  have fz : ∀ j, w5.frozen? ⟨w.heap.size + 1, j, none⟩ = false := fun j => Lib.frozen_of_heap hq j
  have HE : Hid (∀ u0 u1 u2, Below w.heap.size w (((w5.setCell ⟨w.heap.size + 1, 0, none⟩ u0).setCell ⟨w.heap.size + 1, 1, none⟩ u1).setCell ⟨w.heap.size + 1, 2, none⟩ u2)) := fun u0 u1 u2 => below3 H5.out (Nat.le_add_right _ 1) u0 u1 u2
  clear hq HNo HFi
  go_wp2_with fail
  try simp only [Exit.inBlock, Exit.then]
  refine bodyPost_ret (v := .agg #[.slice a0 M.length c0, .bool false, .int .i64 1]) ?_ rfl ⟨rfl, HE.out _ _ _⟩
  rw [results_c1 rfl]; go_simp
  first | done | exact ⟨rfl, rfl, rfl⟩
set_option maxRecDepth 100000 in
set_option maxHeartbeats 4000000 in
theorem begin17_none (v u : Value) (M : List KR) (n : ByteArray) (l : List Int) (w : World) (hr : IsRow w 10 v M.length (kCells M)) (hl : M.length ≤ 1000) (hN : ∀ k ∈ M, k.y.t.n.size ≤ 1000000) (hn : n.size ≤ 1000000) (hu : IsRow w 1 u l.length (iCells l)) (hul : l.length ≤ 140737488355328) (hP : nodesB l = true) (hF : fndZ M n < 0) :
    Calls Tryz.prog 21 #[.agg #[v], .string n, u] w fun e w' => e = .returned (.agg #[v, .bool false, .int .i64 4]) ∧ Below w.heap.size w w' := by
  obtain ⟨a0, c0, rfl⟩ := hr.form
  obtain ⟨a1, c1, rfl⟩ := hu.form
  have HNo : Hid (∀ W, Below w.heap.size w W → Calls Tryz.prog 51 #[.slice a1 l.length c1] W fun e w' => e = .returned (.bool true) ∧ Below W.heap.size W w') := fun W hb => by
    have := refNodesG_any _ l W (hu.below hb) hul
    rw [hP] at this
    exact this
  have HFi : Hid (∀ W, Below w.heap.size w W → Calls Tryz.prog 32 #[.agg #[.slice a0 M.length c0], .string n] W fun e w' => e = .returned (.int .i64 (fndZ M n)) ∧ Below W.heap.size W w') := fun W hb => find17_any _ M n W (hr.below hb) hl hN hn
  clear hr hN hn hu hul hP
  generalize fndZ M n = Z at *
  obtain ⟨w1, hw1⟩ : ∃ w1, w1 = w.alloc (.cells #[.slice a0 M.length c0] 27) := ⟨_, rfl⟩
  have B1 : Hid (Below w.heap.size w w1) := by show Below _ _ _; rw [hw1]; exact al_b _ _
  have hn1 : w1.heap[w.heap.size]? = some (.cells #[.slice a0 M.length c0] 27 (0, 0)) := by rw [hw1]; exact new_at _ _
  have C1 : Hid (∀ W, Below w1.heap.size w1 W → W.heap[w.heap.size]? = some (.cells #[.slice a0 M.length c0] 27 (0, 0))) := fun W h => (h.block _ (Array.getElem?_eq_some_iff.1 hn1).1).trans hn1
  clear hn1
  obtain ⟨w2, hw2⟩ : ∃ w2, w2 = w1.alloc (.cells #[.slice none 0 0, .bool false, .int .i64 0] 73) := ⟨_, rfl⟩
  have B2 : Hid (Below w1.heap.size w1 w2) := by show Below _ _ _; rw [hw2]; exact al_b _ _
  have hn2 : w2.heap[(w.heap.size + 1)]? = some (.cells #[.slice none 0 0, .bool false, .int .i64 0] 73 (0, 0)) := by rw [hw2]; rw [show w.heap.size + 1 = w1.heap.size by (rw [hw1]; simp)]; exact new_at _ _
  have C2 : Hid (∀ W, Below w2.heap.size w2 W → W.heap[(w.heap.size + 1)]? = some (.cells #[.slice none 0 0, .bool false, .int .i64 0] 73 (0, 0))) := fun W h => (h.block _ (Array.getElem?_eq_some_iff.1 hn2).1).trans hn2
  clear hn2
  have HBw0 : Hid (Below w.heap.size w w2) := B1.out.trans (B2.out.mono B1.out.size)
  have HCp : Hid (∀ W, Below w2.heap.size w2 W → W.heap[w.heap.size]? = some (.cells #[.slice a0 M.length c0] 27 (0, 0))) := fun W hb => C1.out W (B2.out.trans (hb.mono B2.out.size))
  go_enter Tryz.func21, Tryz.ntmps21
  go_wp2_with fail
  rw [← hw1, ← hw2]
  clear hw1 hw2
  refine (HNo.out _ HBw0.out).mono ?_
  rintro e w5 ⟨rfl, hb⟩
  have B5 : Hid (Below w2.heap.size w2 w5) := hb
  clear hb
  have hp5 := HCp.out _ B5.out
  have cb : w5.cell? ⟨w.heap.size, 0, none⟩ = some (.slice a0 M.length c0) := by rw [Lib.cell_of_heap hp5]; rfl
  have H5 : Hid (Below w.heap.size w w5) := HBw0.out.trans (B5.out.mono HBw0.out.size)
  clear hp5
  go_wp2_with fail
  refine (HFi.out _ H5.out).mono ?_
  rintro e w6 ⟨rfl, hb⟩
  have B6 : Hid (Below w2.heap.size w2 w6) := B5.out.trans (hb.mono B5.out.size)
  have H6 : Hid (Below w.heap.size w w6) := H5.out.trans (hb.mono H5.out.size)
  clear hb cb
  have hp6 := HCp.out _ B6.out
  have cb : w6.cell? ⟨w.heap.size, 0, none⟩ = some (.slice a0 M.length c0) := by rw [Lib.cell_of_heap hp6]; rfl
  have dz : decide (Z < 0) = true := decide_eq_true hF
  clear hp6
  have hq := C2.out _ B6.out
  have c0_ : w6.cell? ⟨w.heap.size + 1, 0, none⟩ = some (.slice none 0 0) := by rw [Lib.cell_of_heap hq]; rfl
  have c1_ : w6.cell? ⟨w.heap.size + 1, 1, none⟩ = some (.bool false) := by rw [Lib.cell_of_heap hq]; rfl
  have c2_ : w6.cell? ⟨w.heap.size + 1, 2, none⟩ = some (.int .i64 0) := by rw [Lib.cell_of_heap hq]; rfl
  have fz : ∀ j, w6.frozen? ⟨w.heap.size + 1, j, none⟩ = false := fun j => Lib.frozen_of_heap hq j
  have HE : Hid (∀ u0 u1 u2, Below w.heap.size w (((w6.setCell ⟨w.heap.size + 1, 0, none⟩ u0).setCell ⟨w.heap.size + 1, 1, none⟩ u1).setCell ⟨w.heap.size + 1, 2, none⟩ u2)) := fun u0 u1 u2 => below3 H6.out (Nat.le_add_right _ 1) u0 u1 u2
  clear hq HNo HFi
  go_wp2_with fail
  try simp only [Exit.inBlock, Exit.then]
  refine bodyPost_ret (v := .agg #[.slice a0 M.length c0, .bool false, .int .i64 4]) ?_ rfl ⟨rfl, HE.out _ _ _⟩
  rw [results_c1 rfl]; go_simp
  first | done | exact ⟨rfl, rfl, rfl⟩
end Go.Proofs.YtlndgepoekllkaaGreatDoor
