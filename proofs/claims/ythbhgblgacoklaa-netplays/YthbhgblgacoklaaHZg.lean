/- The net's rows and the reference's list: plain. -/
import Derived.Test.YthbhgblgacoklaaHZe
import Derived.Test.YthbhgblgacoklaaHY
namespace Go.Proofs.Ythbhgblgacoklaa
open Go.RowKit

/-- The packets of a list that are of one row. -/
def bag (L : List Pk) (c : Nat) : List Pk := L.filter fun p => rix p.f p.t == c
structure Rel (R : Nat → List Pk) (A : Nat → Bool) (L : List Pk) (B : List (Int × Int)) : Prop where
  ck : ∀ p ∈ L, chkP p = true
  rw : ∀ c, c < 256 → R c = bag L c
  ap : ∀ f t, hopB f t = true → A (rix f t) = cutA B f t
theorem bag_app (X Y : List Pk) (c : Nat) : bag (X ++ Y) c = bag X c ++ bag Y c := by simp [bag]
theorem bag_yes {x : Pk} {c : Nat} (Y : List Pk) (h : rix x.f x.t = c) : bag (x :: Y) c = x :: bag Y c := by simp [bag, h]
theorem bag_no {x : Pk} {c : Nat} (Y : List Pk) (h : rix x.f x.t ≠ c) : bag (x :: Y) c = bag Y c := by simp [bag, h]
theorem hop_eq {f t f' t' : Int} (h : hopB f t = true) (h' : hopB f' t' = true) (e : rix f t = rix f' t') : f = f' ∧ t = t' := by
  obtain ⟨-, a, b⟩ := rix_lt h
  obtain ⟨-, a', b'⟩ := rix_lt h'
  rw [e] at a b
  exact ⟨a.symm.trans a', b.symm.trans b'⟩
theorem Rel.new : Rel noR noA [] [] := ⟨fun p hp => by simp at hp, fun c _ => rfl, fun f t _ => rfl⟩
theorem bag_step (n : Nat) : ∀ L : List Pk, (L.filter fun p => decide (rix p.f p.t < n + 1)).length = (L.filter fun p => decide (rix p.f p.t < n)).length + (bag L n).length
  | [] => rfl
  | x :: L => by
    have ih := bag_step n L
    rcases Nat.lt_trichotomy (rix x.f x.t) n with h | h | h
    · rw [bag_no _ (by omega), List.filter_cons_of_pos (by simp; omega), List.filter_cons_of_pos (by simp; omega)]
      simp only [List.length_cons]; omega
    · rw [bag_yes _ h, List.filter_cons_of_pos (by simp; omega), List.filter_cons_of_neg (by simp; omega)]
      simp only [List.length_cons]; omega
    · rw [bag_no _ (by omega), List.filter_cons_of_neg (by simp; omega), List.filter_cons_of_neg (by simp; omega)]
      omega
theorem bag_cnt {R : Nat → List Pk} {L : List Pk} (h : ∀ c, c < 256 → R c = bag L c) : ∀ n, n ≤ 256 → cntN R n = (L.filter fun p => decide (rix p.f p.t < n)).length
  | 0, _ => by
    have e : (L.filter fun p => decide (rix p.f p.t < 0)) = [] := List.filter_eq_nil_iff.2 (fun p _ => by simp)
    rw [e]; rfl
  | n + 1, hn => by
    show cntN R n + (R n).length = _
    rw [bag_cnt h n (by omega), h n (by omega), bag_step]
theorem Rel.cnt {R : Nat → List Pk} {A : Nat → Bool} {L : List Pk} {B : List (Int × Int)} (h : Rel R A L B) : cntN R 256 = L.length := by
  rw [bag_cnt h.rw 256 (Nat.le_refl _), List.filter_eq_self.2 (fun p hp => by simpa using (rix_lt (chk_hop (h.ck p hp))).1)]
theorem Rel.wf {R : Nat → List Pk} {A : Nat → Bool} {L : List Pk} {B : List (Int × Int)} (h : Rel R A L B) : WFr R := by
  intro c hc hne
  rw [h.rw c hc] at hne
  obtain ⟨p, hp⟩ := List.exists_mem_of_ne_nil _ hne
  obtain ⟨h1, h2⟩ := List.mem_filter.1 hp
  have h3 := chk_hop (h.ck p h1)
  obtain ⟨-, a, b⟩ := rix_lt h3
  have h4 : rix p.f p.t = c := by simpa using h2
  rw [h4] at a b
  rw [a, b]; exact h3
/-- Places of a hop's packets. -/
theorem plc_bag {L : List Pk} {f t : Int} (hh : hopB f t = true) (hk : ∀ p ∈ L, chkP p = true) : ∀ k, k ≤ L.length → (plc L f t k).length = (bag (L.take k) (rix f t)).length ∧ ∀ i a, (plc L f t k)[i]? = some a → a < k ∧ rix (L.getD a zP).f (L.getD a zP).t = rix f t ∧ (bag (L.take a) (rix f t)).length = i
  | 0, _ => ⟨by simp [plc, bag], fun i a h => by simp [plc] at h⟩
  | k + 1, hkl => by
    obtain ⟨i1, i2⟩ := plc_bag hh hk k (by omega)
    have hkk : k < L.length := by omega
    have e : L.take (k + 1) = L.take k ++ [L[k]] := (List.take_append_getElem hkk).symm
    by_cases hm : L[k].f = f ∧ L[k].t = t
    · rw [plc_yes hkk hm.1 hm.2, e, bag_app, bag_yes _ (by rw [hm.1, hm.2])]
      refine ⟨by simp [i1, bag], fun i a h => ?_⟩
      rw [List.getElem?_append] at h
      split at h
      · obtain ⟨a1, a2, a3⟩ := i2 i a h
        exact ⟨by omega, a2, a3⟩
      · rename_i hi
        have : i - (plc L f t k).length = 0 := by
          rcases Nat.eq_zero_or_pos (i - (plc L f t k).length) with h0 | h0
          · exact h0
          · rw [List.getElem?_eq_none (by simp; omega)] at h; cases h
        rw [this] at h
        obtain rfl : k = a := by simpa using h
        refine ⟨by omega, by rw [List.getD_eq_getElem?_getD, List.getElem?_eq_getElem hkk]; simp [hm.1, hm.2], by omega⟩
    · rw [plc_no hkk hm, e, bag_app, bag_no _ (fun h => hm (hop_eq (chk_hop (hk _ (List.getElem_mem hkk))) hh h))]
      refine ⟨by simp [i1, bag], fun i a h => ?_⟩
      obtain ⟨a1, a2, a3⟩ := i2 i a h
      exact ⟨by omega, a2, a3⟩
theorem flt_cut {L : List Pk} {a : Nat} (ha : a < L.length) : ∀ k, k ≤ L.length → flt L (fun j => !((j : Int) == (a : Int))) k = if k ≤ a then L.take k else L.take a ++ (L.take k).drop (a + 1)
  | 0, _ => by simp [flt]
  | k + 1, hk => by
    have ih := flt_cut ha k (by omega)
    have hkk : k < L.length := by omega
    have e : L.take (k + 1) = L.take k ++ [L[k]] := (List.take_append_getElem hkk).symm
    by_cases h : k = a
    · subst h
      rw [flt_no (by simp), ih, if_pos (Nat.le_refl _), if_neg (by omega), List.drop_eq_nil_of_le (by simp; omega)]
      simp
    · rw [flt_yes hkk (by simp; omega), ih]
      by_cases h2 : k ≤ a
      · rw [if_pos h2, if_pos (by omega), e]
      · rw [if_neg h2, if_neg (by omega), e, List.drop_append_of_le_length (by simp; omega), List.append_assoc]
theorem flt_out {L : List Pk} {a : Nat} (ha : a < L.length) : flt L (fun j => !((j : Int) == (a : Int))) L.length = L.take a ++ L.drop (a + 1) := by
  rw [flt_cut ha _ (Nat.le_refl _), if_neg (by omega), List.take_length]
theorem flt_clr (L : List Pk) (n : Int) : ∀ k, k ≤ L.length → flt L (clP L n) k = (L.take k).filter fun p => !(p.f == n) && !(p.t == n)
  | 0, _ => by simp [flt]
  | k + 1, hk => by
    have ih := flt_clr L n k (by omega)
    have hkk : k < L.length := by omega
    have e : L.take (k + 1) = L.take k ++ [L[k]] := (List.take_append_getElem hkk).symm
    rw [e, List.filter_append, ← ih]
    cases h : (!(L[k].f == n) && !(L[k].t == n)) with
    | true => rw [flt_yes hkk (by rw [clP_at hkk]; exact h), List.filter_cons_of_pos (by exact h)]; rfl
    | false => rw [flt_no (by rw [clP_at hkk]; exact h), List.filter_cons_of_neg (by rw [h]; simp)]; simp
/-- The place of a hop's i-th packet. -/
def atI (L : List Pk) (f t i : Int) : Nat := ((plc L f t L.length)[i.toNat]?).getD 0
theorem Rel.there {R : Nat → List Pk} {A : Nat → Bool} {L : List Pk} {B : List (Int × Int)} (h : Rel R A L B) (f t i : Int) : thI L f t i = lookI R f t i := by
  unfold thI lookI
  split
  · rename_i hh
    have := (plc_bag hh h.ck L.length (Nat.le_refl _)).1
    rw [h.rw _ (rix_lt hh).1, this, List.take_length]
  · rfl
theorem Rel.cut {R : Nat → List Pk} {A : Nat → Bool} {L : List Pk} {B : List (Int × Int)} (h : Rel R A L B) {f t i : Int} (hl : lookI R f t i = 0) :
    atI L f t i < L.length ∧ (plc L f t L.length)[i.toNat]? = some (atI L f t i) ∧ (R (rix f t))[i.toNat]?.getD zP = L.getD (atI L f t i) zP ∧ Rel (up R (rix f t) (cutP (R (rix f t)) i.toNat)) A (flt L (fun j => !((j : Int) == (atI L f t i : Int))) L.length) B := by
  obtain ⟨hh, n, rfl, hn⟩ := look_ok hl
  have hb := (rix_lt hh).1
  obtain ⟨p1, p2⟩ := plc_bag hh h.ck L.length (Nat.le_refl _)
  have hn2 : n < (plc L f t L.length).length := by rw [p1, List.take_length, ← h.rw _ hb]; exact hn
  have e1 : (plc L f t L.length)[n]? = some (plc L f t L.length)[n] := List.getElem?_eq_getElem hn2
  have e2 : atI L f t (n : Int) = (plc L f t L.length)[n] := by unfold atI; simp [e1]
  obtain ⟨q1, q2, q3⟩ := p2 n _ e1
  rw [e2]
  generalize (plc L f t L.length)[n] = a at *
  have eL : L = L.take a ++ L[a] :: L.drop (a + 1) := by rw [← List.drop_eq_getElem_cons q1, List.take_append_drop]
  have ex : L.getD a zP = L[a] := by rw [List.getD_eq_getElem?_getD, List.getElem?_eq_getElem q1]; rfl
  rw [ex] at q2
  have eR : R (rix f t) = bag (L.take a) (rix f t) ++ L[a] :: bag (L.drop (a + 1)) (rix f t) := by
    rw [h.rw _ hb, ← bag_yes _ q2, ← bag_app, ← eL]
  refine ⟨q1, by simpa using e1, ?_, ?_⟩
  · rw [ex, eR]
    simp [← q3]
  · rw [flt_out q1]
    refine ⟨fun p hp => h.ck p ?_, fun c hc => ?_, h.ap⟩
    · rcases List.mem_append.1 hp with hp | hp
      · exact List.mem_of_mem_take hp
      · exact List.mem_of_mem_drop hp
    · by_cases e : c = rix f t
      · subst e
        rw [up_same, eR, bag_app]
        simp [cutP, ← q3]
      · rw [up_other _ _ e, h.rw c hc, bag_app]
        conv => lhs; rw [eL]
        rw [bag_app, bag_no _ (fun h => e (h.symm.trans q2))]
theorem Rel.add {R : Nat → List Pk} {A : Nat → Bool} {L : List Pk} {B : List (Int × Int)} (h : Rel R A L B) {p : Pk} (hp : chkP p = true) : Rel (up R (rix p.f p.t) (R (rix p.f p.t) ++ [p])) A (L ++ [p]) B := by
  refine ⟨fun q hq => ?_, fun c hc => ?_, h.ap⟩
  · rcases List.mem_append.1 hq with hq | hq
    · exact h.ck q hq
    · obtain rfl := List.mem_singleton.1 hq; exact hp
  · rw [bag_app]
    by_cases e : c = rix p.f p.t
    · subst e; rw [up_same, bag_yes _ rfl, h.rw _ hc]; rfl
    · rw [up_other _ _ e, bag_no _ (Ne.symm e), h.rw c hc]; simp [bag]
theorem Rel.send {R : Nat → List Pk} {A : Nat → Bool} {L : List Pk} {B : List (Int × Int)} (h : Rel R A L B) (p : Pk) : (sndL L p).2 = sendE R p ∧ Rel (sendR R p) A (sndL L p).1 B := by
  have hc := h.cnt
  unfold sndL sendE sendR
  cases hp : chkP p with
  | false => simpa using h
  | true =>
    by_cases h4 : 400 ≤ L.length
    · simp only [if_true, if_pos h4, if_neg (show ¬ cntN R 256 < 400 by omega)]
      rw [if_neg (by omega)]
      exact ⟨trivial, h⟩
    · simp only [if_true, if_neg h4, if_pos (show cntN R 256 < 400 by omega)]
      rw [if_pos ⟨trivial, by omega⟩]
      exact ⟨trivial, h.add hp⟩
/-- What the reference's Lose, Take, Twice leave and answer. -/
def losL (L : List Pk) (f t i : Int) : List Pk := if thI L f t i = 0 then flt L (fun j => !((j : Int) == (atI L f t i : Int))) L.length else L
def tkE (L : List Pk) (B : List (Int × Int)) (f t i : Int) : Int := if thI L f t i = 0 then (if cutA B f t = true then 12 else 0) else thI L f t i
def tkL (L : List Pk) (B : List (Int × Int)) (f t i : Int) : List Pk := if tkE L B f t i = 0 then flt L (fun j => !((j : Int) == (atI L f t i : Int))) L.length else L
def tkP (L : List Pk) (B : List (Int × Int)) (f t i : Int) : Pk := if tkE L B f t i = 0 then L.getD (atI L f t i) zP else zP
def twL (L : List Pk) (f t i : Int) : List Pk × Int := if thI L f t i = 0 then sndL L (L.getD (atI L f t i) zP) else (L, thI L f t i)
theorem Rel.lose {R : Nat → List Pk} {A : Nat → Bool} {L : List Pk} {B : List (Int × Int)} (h : Rel R A L B) (f t i : Int) : Rel (loseR R f t i) A (losL L f t i) B := by
  unfold loseR losL
  rw [h.there]
  by_cases e : lookI R f t i = 0
  · rw [if_pos e, if_pos e]; exact (h.cut e).2.2.2
  · rw [if_neg e, if_neg e]; exact h
theorem Rel.tkE {R : Nat → List Pk} {A : Nat → Bool} {L : List Pk} {B : List (Int × Int)} (h : Rel R A L B) (f t i : Int) : tkE L B f t i = takeE R A f t i := by
  unfold Go.Proofs.Ythbhgblgacoklaa.tkE takeE
  rw [h.there]
  by_cases e : lookI R f t i = 0
  · rw [if_pos e, if_pos e, h.ap f t (look_ok e).1]
  · rw [if_neg e, if_neg e]
theorem take_look {R : Nat → List Pk} {A : Nat → Bool} {f t i : Int} (h : takeE R A f t i = 0) : lookI R f t i = 0 := by
  unfold takeE at h
  by_cases e : lookI R f t i = 0
  · exact e
  · rw [if_neg e] at h; exact h
theorem Rel.take {R : Nat → List Pk} {A : Nat → Bool} {L : List Pk} {B : List (Int × Int)} (h : Rel R A L B) (f t i : Int) : tkP L B f t i = takeP R A f t i ∧ Rel (takeR R A f t i) A (tkL L B f t i) B := by
  unfold takeR tkL tkP takeP
  rw [h.tkE]
  by_cases e : takeE R A f t i = 0
  · obtain ⟨-, -, c1, c2⟩ := h.cut (take_look e)
    rw [if_pos e, if_pos e, if_pos e, if_pos e]; exact ⟨c1.symm, c2⟩
  · rw [if_neg e, if_neg e, if_neg e, if_neg e]; exact ⟨rfl, h⟩
theorem Rel.twice {R : Nat → List Pk} {A : Nat → Bool} {L : List Pk} {B : List (Int × Int)} (h : Rel R A L B) (f t i : Int) : (twL L f t i).2 = twiceE R f t i ∧ Rel (twiceR R f t i) A (twL L f t i).1 B := by
  unfold twL twiceR
  have hE : twiceE R f t i = if lookI R f t i = 0 then (if cntN R 256 < 400 then 0 else 6) else lookI R f t i := rfl
  rw [h.there]
  by_cases e : lookI R f t i = 0
  · obtain ⟨c0, cp, c1, -⟩ := h.cut e
    rw [if_pos e] at hE
    rw [if_pos e, c1]
    have ex : L.getD (atI L f t i) zP = L[atI L f t i] := by rw [List.getD_eq_getElem?_getD, List.getElem?_eq_getElem c0]; rfl
    have hk : chkP (L.getD (atI L f t i) zP) = true := by rw [ex]; exact h.ck _ (List.getElem_mem _)
    obtain ⟨hh, n, rfl, hn⟩ := look_ok e
    obtain ⟨-, q2, -⟩ := (plc_bag hh h.ck L.length (Nat.le_refl _)).2 _ _ cp
    obtain ⟨s1, s2⟩ := h.send (L.getD (atI L f t (n : Int)) zP)
    have hs : sendE R (L.getD (atI L f t (n : Int)) zP) = twiceE R f t (n : Int) := by rw [hE]; unfold sendE; rw [if_pos hk]
    refine ⟨s1.trans hs, ?_⟩
    unfold sendR at s2
    rw [q2] at s2
    by_cases h4 : cntN R 256 < 400
    · rw [if_pos ⟨hk, h4⟩] at s2
      rw [if_pos (by rw [hE, if_pos h4])]
      exact s2
    · rw [if_neg (fun x => h4 x.2)] at s2
      rw [if_neg (by rw [hE, if_neg h4]; decide)]
      exact s2
  · rw [if_neg e] at hE
    rw [if_neg e, if_neg (by rw [hE]; exact e), hE]
    exact ⟨rfl, h⟩
theorem eqH_iff {f t f' t' : Int} : eqH (f, t) f' t' = true ↔ (f = f' ∧ t = t') ∨ (f = t' ∧ t = f') := by simp [eqH]
theorem Rel.part {R : Nat → List Pk} {A : Nat → Bool} {L : List Pk} {B : List (Int × Int)} (h : Rel R A L B) (f t : Int) (on : Bool) : (prtR B f t on).2 = apartE f t ∧ Rel R (apartA A f t on) L (prtR B f t on).1 := by
  unfold prtR apartE apartA
  cases hh : hopB f t with
  | false => exact ⟨rfl, h⟩
  | true =>
    refine ⟨rfl, h.ck, h.rw, fun f' t' h' => ?_⟩
    have hh2 : hopB t f = true := by
      simp only [hopB, Bool.and_eq_true, Bool.not_eq_true', decide_eq_false_iff_not] at hh ⊢
      exact ⟨hh.2.1, hh.1, fun e => hh.2.2 e.symm⟩
    simp only [if_true]
    show _ = cutA (stA B f t B.length ++ if on = true then [(f, t)] else []) f' t'
    have ec : cutA (stA B f t B.length ++ if on = true then [(f, t)] else []) f' t' = (cutA (stA B f t B.length) f' t' || (on && eqH (f, t) f' t')) := by
      unfold cutA
      rw [List.any_append]
      cases on <;> simp
    rw [ec]
    by_cases e1 : eqH (f, t) f' t' = true
    · have e0 : cutA (stA B f t B.length) f' t' = false := by
        unfold cutA stA
        rw [List.any_eq_false]
        intro x hx
        have h2 := (List.mem_filter.1 hx).2
        rw [Bool.not_eq_true', ← Bool.not_eq_true] at h2
        intro h3
        apply h2
        obtain ⟨x1, x2⟩ := x
        rw [eqH_iff] at e1 h3 ⊢
        omega
      rw [e0, e1, Bool.and_true, Bool.false_or]
      rw [eqH_iff] at e1
      rcases e1 with ⟨rfl, rfl⟩ | ⟨rfl, rfl⟩
      · by_cases e : rix f t = rix t f
        · rw [← e, up_same]
        · rw [up_other _ _ e, up_same]
      · rw [up_same]
    · have e2 : eqH (f, t) f' t' = false := by simpa using e1
      rw [e2, Bool.and_false, Bool.or_false]
      have n1 : rix f' t' ≠ rix t f := fun e => e1 (eqH_iff.2 (.inr (by have := hop_eq h' hh2 e; omega)))
      have n2 : rix f' t' ≠ rix f t := fun e => e1 (eqH_iff.2 (.inl (by have := hop_eq h' hh e; omega)))
      rw [up_other _ _ n1, up_other _ _ n2, h.ap f' t' h']
      unfold cutA stA
      rw [List.take_length, Bool.eq_iff_iff, List.any_eq_true, List.any_eq_true]
      constructor
      · rintro ⟨⟨x1, x2⟩, hx, hy⟩
        refine ⟨(x1, x2), List.mem_filter.2 ⟨hx, ?_⟩, hy⟩
        rw [Bool.not_eq_true', ← Bool.not_eq_true]
        intro hz
        rw [eqH_iff] at hy hz e1
        omega
      · rintro ⟨x, hx, hy⟩
        exact ⟨x, (List.mem_filter.1 hx).1, hy⟩
theorem Rel.clear {R : Nat → List Pk} {A : Nat → Bool} {L : List Pk} {B : List (Int × Int)} (h : Rel R A L B) (i : Int) : Rel (clrR R i) A (flt L (clP L i) L.length) B := by
  rw [flt_clr L i _ (Nat.le_refl _), List.take_length]
  refine ⟨fun p hp => h.ck p (List.mem_filter.1 hp).1, fun c hc => ?_, h.ap⟩
  have key : bag (L.filter fun p => !(p.f == i) && !(p.t == i)) c = (bag L c).filter fun p => !(p.f == i) && !(p.t == i) := by
    unfold bag
    rw [List.filter_filter, List.filter_filter]
    congr 1
    funext p
    exact Bool.and_comm _ _
  rw [key]
  have hm : ∀ p ∈ bag L c, chkP p = true ∧ rix p.f p.t = c := fun p hp => ⟨h.ck p (List.mem_filter.1 hp).1, by simpa using (List.mem_filter.1 hp).2⟩
  unfold clrR
  cases hn : nodeB i with
  | false =>
    rw [if_neg (by simp), h.rw c hc, List.filter_eq_self.2]
    intro p hp
    have hq := chk_hop (hm p hp).1
    simp only [hopB, Bool.and_eq_true] at hq
    have n1 : p.f ≠ i := fun e => by rw [e, hn] at hq; exact absurd hq.1 (by simp)
    have n2 : p.t ≠ i := fun e => by rw [e, hn] at hq; exact absurd hq.2.1 (by simp)
    simp [n1, n2]
  | true =>
    rw [if_pos rfl]
    have hn2 : 1 ≤ i ∧ i ≤ 15 := by simpa [nodeB] using hn
    show (if _ then [] else R c) = _
    by_cases hcl : (c / 16 = i.toNat ∧ c % 16 < 16) ∨ (c % 16 = i.toNat ∧ c / 16 < 16)
    · rw [if_pos hcl, List.filter_eq_nil_iff.2]
      intro p hp
      obtain ⟨q1, q2⟩ := hm p hp
      obtain ⟨-, a, b⟩ := rix_lt (chk_hop q1)
      rw [q2] at a b
      have : p.f = i ∨ p.t = i := by omega
      rcases this with e | e <;> simp [e]
    · rw [if_neg hcl, h.rw c hc, List.filter_eq_self.2]
      intro p hp
      obtain ⟨q1, q2⟩ := hm p hp
      obtain ⟨-, a, b⟩ := rix_lt (chk_hop q1)
      rw [q2] at a b
      have : p.f ≠ i ∧ p.t ≠ i := by omega
      simp [this.1, this.2]
end Go.Proofs.Ythbhgblgacoklaa
