/- Bytes and runes cut at points; what a name's parts are: plain, of no program. -/
import Derived.Test.YtfbnlkgopncejaaGreatDoorNM
import Derived.Lib.SplitLaws
namespace Go.Proofs.YtfbnlkgopncejaaGreatDoor
open Go.Lib
set_option maxRecDepth 100000

/-- Put a sign ahead of the first piece. -/
def onto {α : Type} (b : α) : List (List α) → List (List α)
  | [] => [[b]]
  | p :: ps => (b :: p) :: ps
def cutB : List UInt8 → List (List UInt8)
  | [] => [[]]
  | b :: l => if b = 46 then [] :: cutB l else onto b (cutB l)
def cutR : List Nat → List (List Nat)
  | [] => [[]]
  | c :: l => if c = 46 then [] :: cutR l else onto c (cutR l)
theorem cutB_ne : ∀ l, cutB l ≠ []
  | [] => by simp [cutB]
  | b :: l => by
    unfold cutB
    split
    · simp
    · cases cutB l <;> simp [onto]
theorem cutR_ne : ∀ l, cutR l ≠ []
  | [] => by simp [cutR]
  | b :: l => by
    unfold cutR
    split
    · simp
    · cases cutR l <;> simp [onto]

theorem split_cut : ∀ l : List UInt8, splitK [46] 0 (count l [46]) l = cutB l
  | [] => by rw [count_one]; rfl
  | b :: l => by
    have ih := split_cut l
    by_cases h : b = 46
    · subst h
      rw [count_cons_eq, Nat.add_comm, splitK, show index (46 :: l) [46] = 0 by rw [index]; simp [List.isPrefixOf]]
      simp [cutB, ih]
    · rw [count_cons_ne b 46 l h]
      have hp : ([46] : List UInt8).isPrefixOf (b :: l) = false := by simp [List.isPrefixOf, Ne.symm h]
      have hix : index (b :: l) [46] = if index l [46] == -1 then -1 else index l [46] + 1 := by rw [index, hp]; simp
      rw [show cutB (b :: l) = onto b (cutB l) by rw [cutB, if_neg h], ← ih]
      generalize count l [46] = k
      cases k with
      | zero => rfl
      | succ k =>
        unfold splitK
        by_cases hm : index l [46] = -1
        · rw [hix, if_pos (beq_iff_eq.2 hm)]
          simp [hm, onto]
        · have hge := index_ge l [46]
          obtain ⟨j, hj⟩ : ∃ j : Nat, index l [46] = j := ⟨(index l [46]).toNat, by omega⟩
          have hne : ¬ (index l [46] == -1) = true := fun e => hm (beq_iff_eq.1 e)
          have hne2 : ¬ (((j : Int) + 1) == -1) = true := fun e => by have := beq_iff_eq.1 e; omega
          have hne3 : ¬ ((j : Int) == -1) = true := fun e => by have := beq_iff_eq.1 e; omega
          rw [hix, if_neg hne, hj, if_neg hne2, if_neg hne3]
          have e1 : ((j : Int) + 1).toNat = j + 1 := by omega
          rw [e1]
          simp [onto]

theorem ofNat_ne {n : Nat} (h : n < 256) (h2 : n ≠ 46) : (46 : UInt8) ≠ UInt8.ofNat n := by
  intro e
  have := congrArg UInt8.toNat e
  rw [toNat_of h] at this
  exact h2 this.symm
theorem enc_no {c : Nat} (hs : scal c) (h : c ≠ 46) : (46 : UInt8) ∉ enc c := by
  by_cases h1 : c < 128
  · rw [enc1 h1]
    simp only [List.mem_cons, List.not_mem_nil, or_false]
    exact ofNat_ne (by omega) h
  by_cases h2 : c < 2048
  · rw [enc2 (by omega) h2]
    simp only [List.mem_cons, List.not_mem_nil, or_false, not_or]
    exact ⟨ofNat_ne (by omega) (by omega), ofNat_ne (by omega) (by omega)⟩
  by_cases h3 : c < 65536
  · rw [enc3 (by omega) h3 hs]
    simp only [List.mem_cons, List.not_mem_nil, or_false, not_or]
    exact ⟨ofNat_ne (by omega) (by omega), ofNat_ne (by omega) (by omega), ofNat_ne (by omega) (by omega)⟩
  · rw [enc4 (by omega) hs]
    unfold scal at hs
    simp only [List.mem_cons, List.not_mem_nil, or_false, not_or]
    exact ⟨ofNat_ne (by omega) (by omega), ofNat_ne (by omega) (by omega), ofNat_ne (by omega) (by omega), ofNat_ne (by omega) (by omega)⟩
theorem enc46 : enc 46 = [46] := by decide +kernel
theorem cutB_app : ∀ (x l : List UInt8), (46 : UInt8) ∉ x → ∀ h t, cutB l = h :: t → cutB (x ++ l) = (x ++ h) :: t
  | [], l, _, h, t, e => by simpa using e
  | b :: x, l, hn, h, t, e => by
    have hb : b ≠ 46 := fun e => hn (by simp [e])
    have ih := cutB_app x l (fun m => hn (by simp [m])) h t e
    rw [List.cons_append, cutB, if_neg hb, ih]
    rfl
theorem cut_enc : ∀ cs : List Nat, (∀ c ∈ cs, scal c) → cutB (cs.flatMap enc) = (cutR cs).map (·.flatMap enc)
  | [], _ => rfl
  | c :: cs, hs => by
    have ih := cut_enc cs (fun x hx => hs x (List.mem_cons_of_mem _ hx))
    rw [List.flatMap_cons]
    by_cases h : c = 46
    · subst h
      rw [enc46]
      show cutB (46 :: cs.flatMap enc) = _
      rw [cutB, if_pos rfl, ih, cutR, if_pos rfl]
      rfl
    · rw [cutR, if_neg h]
      cases hc : cutR cs with
      | nil => exact absurd hc (cutR_ne cs)
      | cons q qs =>
        rw [hc] at ih
        rw [cutB_app (enc c) _ (enc_no (hs c (by simp)) h) (q.flatMap enc) (qs.map (·.flatMap enc)) ih]
        simp [onto]

/-! ### parts -/
def okp : Bool → List Nat → Bool
  | f, [] => !f
  | f, c :: q => if beginsN c then okp false q else if f then false else if c ≠ 45 ∧ ¬ (48 ≤ c ∧ c ≤ 57) then false else okp f q
def allok (f : Bool) : List (List Nat) → Bool
  | [] => false
  | q :: qs => okp f q && qs.all (okp true)
theorem begins46 : beginsN 46 = false := by decide
theorem chk_cut : ∀ (cs : List Nat) (p r : Nat) (f : Bool), chk p r f cs = if allok f (cutR cs) = true then (if 5 < p + (cutR cs).length - 1 ∨ 40 < r + cs.length then 2 else 0) else 3
  | [], p, r, f => by
    cases f
    · simp [chk, cutR, allok, okp]
    · simp [chk, cutR, allok, okp]
  | c :: cs, p, r, f => by
    have hl : 0 < (cutR cs).length := List.length_pos_iff.2 (cutR_ne cs)
    by_cases h : c = 46
    · subst h
      rw [cutR, if_pos rfl]
      simp only [chk, begins46, if_true, Bool.false_eq_true, if_false]
      cases f
      · have e : allok false ([] :: cutR cs) = allok true (cutR cs) := by
          cases hc : cutR cs with
          | nil => exact absurd hc (cutR_ne cs)
          | cons q qs => simp [allok, okp]
        rw [chk_cut cs (p + 1) (r + 1) true, e]
        have e2 : p + 1 + (cutR cs).length - 1 = p + ([] :: cutR cs).length - 1 := by simp only [List.length_cons]; omega
        have e3 : r + 1 + cs.length = r + (46 :: cs).length := by simp only [List.length_cons]; omega
        rw [e2, e3]
        simp
      · simp [allok, okp]
    · rw [cutR, if_neg h]
      cases hc : cutR cs with
      | nil => exact absurd hc (cutR_ne cs)
      | cons q qs =>
        have ih1 := fun f => chk_cut cs p (r + 1) f
        rw [hc] at ih1
        have e3 : r + 1 + cs.length = r + (c :: cs).length := by simp only [List.length_cons]; omega
        have e4 : (onto c (q :: qs)).length = (q :: qs).length := rfl
        rw [e4, ← e3]
        have go : ∀ g, allok f (onto c (q :: qs)) = allok g (q :: qs) → chk p r f (c :: cs) = chk p (r + 1) g cs → chk p r f (c :: cs) = if allok f (onto c (q :: qs)) = true then (if 5 < p + (q :: qs).length - 1 ∨ 40 < r + 1 + cs.length then 2 else 0) else 3 := by
          intro g h1 h2
          rw [h2, ih1 g, h1]
        have no : allok f (onto c (q :: qs)) = false → chk p r f (c :: cs) = 3 → chk p r f (c :: cs) = if allok f (onto c (q :: qs)) = true then (if 5 < p + (q :: qs).length - 1 ∨ 40 < r + 1 + cs.length then 2 else 0) else 3 := by
          intro h1 h2
          rw [h2, h1]
          simp
        by_cases hb : beginsN c = true
        · exact go false (by simp [allok, onto, okp, hb]) (by simp [chk, hb])
        · cases f
          · by_cases hg : c ≠ 45 ∧ ¬ (48 ≤ c ∧ c ≤ 57)
            · refine no ?_ ?_
              · simp only [allok, onto, okp, hb, if_pos hg]; simp
              · simp only [chk, hb, h, if_pos hg]; simp
            · refine go false ?_ ?_
              · simp only [allok, onto, okp, hb, if_neg hg]; simp
              · simp only [chk, hb, h, if_neg hg]; simp
          · exact no (by simp [allok, onto, okp, hb]) (by simp [chk, hb])
end Go.Proofs.YtfbnlkgopncejaaGreatDoor
