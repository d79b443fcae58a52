/- The reference's Sort: plain, and its mathematics. -/
import Derived.Test.YtfbnlkgopncejaaGreatDoorSnT
import Derived.Test.YtfbnlkgopncejaaGreatDoorET
namespace Go.Proofs.YtfbnlkgopncejaaGreatDoor
open Go.RowKit

/-- One step of putting a field in. -/
def stp (x : Fd) (s : List Fd × Bool) (y : Fd) : List Fd × Bool := if s.2 = false ∧ cmpL x.n.data.toList y.n.data.toList < 0 then (s.1 ++ [x] ++ [y], true) else (s.1 ++ [y], s.2)
def insS (x : Fd) (o : List Fd) : List Fd × Bool := o.foldl (stp x) ([], false)
def finS (x : Fd) (s : List Fd × Bool) : List Fd := if s.2 = true then s.1 else s.1 ++ [x]
def insR (x : Fd) : List Fd → List Fd
  | [] => [x]
  | y :: o => if cmpL x.n.data.toList y.n.data.toList < 0 then x :: y :: o else y :: insR x o
def hasS (x : Fd) (o : List Fd) : Bool := o.any fun y => sameL y.n.data.toList x.n.data.toList
/-- What is sorted so far, and what is left. -/
def rsrt : List Fd → List Fd → Option (List Fd)
  | o, [] => some o
  | o, x :: l => if hasS x o = true then none else rsrt (finS x (insS x o)) l
theorem fold_true (x : Fd) : ∀ (o acc : List Fd), o.foldl (stp x) (acc, true) = (acc ++ o, true)
  | [], acc => by simp
  | y :: o, acc => by
    rw [List.foldl_cons]
    have e : stp x (acc, true) y = (acc ++ [y], true) := by unfold stp; rw [if_neg (by simp)]
    rw [e, fold_true x o]
    simp
theorem fold_fin (x : Fd) : ∀ (o acc : List Fd), finS x (o.foldl (stp x) (acc, false)) = acc ++ insR x o
  | [], acc => by simp [finS, insR]
  | y :: o, acc => by
    rw [List.foldl_cons, insR]
    by_cases h : cmpL x.n.data.toList y.n.data.toList < 0
    · have e : stp x (acc, false) y = (acc ++ [x] ++ [y], true) := by unfold stp; rw [if_pos ⟨rfl, h⟩]
      rw [e, fold_true, if_pos h]
      simp [finS]
    · have e : stp x (acc, false) y = (acc ++ [y], false) := by unfold stp; rw [if_neg (fun hh => h hh.2)]
      rw [e, fold_fin x o, if_neg h]
      simp
theorem ins_eq (x : Fd) (o : List Fd) : finS x (insS x o) = insR x o := by
  unfold insS
  rw [fold_fin]
  rfl
theorem insR_perm (x : Fd) : ∀ o : List Fd, (insR x o).Perm (x :: o)
  | [] => List.Perm.refl _
  | y :: o => by
    rw [insR]
    split
    · exact List.Perm.refl _
    · exact ((insR_perm x o).cons y).trans (List.Perm.swap x y o)
theorem insR_sorted (x : Fd) : ∀ o : List Fd, o.Pairwise ltF → (∀ y ∈ o, neF y x) → (insR x o).Pairwise ltF
  | [], _, _ => by simp [insR]
  | y :: o, h, hn => by
    rw [insR]
    rw [List.pairwise_cons] at h
    split
    · rename_i hc
      have hxy : ltF x y := cmpL_lt.1 hc
      rw [List.pairwise_cons, List.pairwise_cons]
      refine ⟨fun z hz => ?_, h⟩
      rcases List.mem_cons.1 hz with rfl | hz
      · exact hxy
      · exact ltF_trans hxy (h.1 z hz)
    · rename_i hc
      rw [List.pairwise_cons]
      refine ⟨fun z hz => ?_, insR_sorted x o h.2 (fun z hz => hn z (by simp [hz]))⟩
      rcases List.mem_cons.1 ((insR_perm x o).mem_iff.1 hz) with rfl | hz
      · exact ltF_of hc (hn y (by simp))
      · exact h.1 z hz
theorem has_iff {x : Fd} {o : List Fd} : hasS x o = false ↔ ∀ y ∈ o, neF y x := by
  unfold hasS
  rw [List.any_eq_false]
  constructor
  · intro h y hy
    have := h y hy
    unfold neF
    simpa using this
  · intro h y hy
    have := h y hy
    unfold neF at this
    rw [this]
    simp
theorem rsrt_some : ∀ (l o R : List Fd), o.Pairwise ltF → rsrt o l = some R → R.Perm (o ++ l) ∧ R.Pairwise ltF
  | [], o, R, ho, h => by
    obtain rfl := Option.some.inj h
    exact ⟨by simp, ho⟩
  | x :: l, o, R, ho, h => by
    rw [rsrt] at h
    split at h
    · cases h
    · rename_i hs
      rw [ins_eq] at h
      have hn := has_iff.1 (by simpa using hs)
      obtain ⟨p, s⟩ := rsrt_some l _ R (insR_sorted x o ho hn) h
      refine ⟨p.trans ?_, s⟩
      exact ((insR_perm x o).append_right l).trans (List.perm_middle.symm)
theorem rsrt_none : ∀ (l o : List Fd), o.Pairwise ltF → rsrt o l = none → ¬ (o ++ l).Pairwise neF
  | [], o, ho, h => by cases h
  | x :: l, o, ho, h => by
    rw [rsrt] at h
    intro hp
    split at h
    · rename_i hs
      have hh : hasS x o = false := has_iff.2 fun y hy => by
        rw [List.pairwise_append] at hp
        exact hp.2.2 y hy x (by simp)
      rw [hh] at hs
      cases hs
    · rename_i hs
      rw [ins_eq] at h
      have hn := has_iff.1 (by simpa using hs)
      refine rsrt_none l _ (insR_sorted x o ho hn) h ?_
      have hq : (insR x o ++ l).Perm (o ++ x :: l) := ((insR_perm x o).append_right l).trans (List.perm_middle.symm)
      exact (hq.pairwise_iff neF_symm).2 hp
/-- What the reference answers is what the program answers. -/
theorem srt_same {l D : List Fd} (h24 : l.length ≤ 24) (hm : ∀ x ∈ l, mayF x = true) (hp : D.Perm l) (hs : D.Pairwise leF) : rsrt [] l = if chkF D = true then some D else none := by
  cases h : rsrt [] l with
  | some R =>
    obtain ⟨p, s⟩ := rsrt_some l [] R List.Pairwise.nil h
    rw [List.nil_append] at p
    have hne : D.Pairwise neF := ((hp.trans p.symm).pairwise_iff neF_symm).2 (s.imp ltF_ne)
    have hlt : D.Pairwise ltF := (hs.and hne).imp fun ⟨h1, h2⟩ => ltF_of h1 h2
    have hc : chkF D = true := chk_of (by rw [hp.length_eq]; exact h24) (fun x hx => hm x (hp.mem_iff.1 hx)) hlt
    have e : D = R := List.Perm.eq_of_pairwise (le := ltF) (fun x y _ _ h1 h2 => absurd (ltF_trans h1 h2) (ltF_irr x)) hlt s (hp.trans p.symm)
    rw [if_pos hc, e]
  | none =>
    have hn := rsrt_none l [] List.Pairwise.nil h
    rw [List.nil_append] at hn
    by_cases hc : chkF D = true
    · exact absurd ((hp.pairwise_iff neF_symm).1 ((chk_sorted hc).imp ltF_ne)) hn
    · rw [if_neg hc]
theorem stp_len (x : Fd) : ∀ (o : List Fd) (s : List Fd × Bool), (o.foldl (stp x) s).1.length ≤ s.1.length + 2 * o.length
  | [], s => by simp
  | y :: o, s => by
    rw [List.foldl_cons]
    have h := stp_len x o (stp x s y)
    have h2 : (stp x s y).1.length ≤ s.1.length + 2 := by unfold stp; split <;> simp
    rw [List.length_cons]
    omega
theorem stp_take {x : Fd} {o : List Fd} {j : Nat} (hj : j < o.length) : insS x (o.take (j + 1)) = stp x (insS x (o.take j)) o[j] := by
  unfold insS
  rw [List.take_succ_eq_append_getElem hj, List.foldl_append]
  rfl
theorem insS_len (x : Fd) (o : List Fd) : (insS x o).1.length ≤ 2 * o.length := by
  have := stp_len x o ([], false)
  unfold insS
  simpa using this
theorem ins_len (x : Fd) (o : List Fd) : (finS x (insS x o)).length = o.length + 1 := by rw [ins_eq, (insR_perm x o).length_eq]; rfl
theorem ins_mem {x : Fd} {o : List Fd} {p : Fd → Prop} (h1 : p x) (h2 : ∀ y ∈ o, p y) : ∀ y ∈ finS x (insS x o), p y := by
  rw [ins_eq]
  intro y hy
  rcases List.mem_cons.1 ((insR_perm x o).mem_iff.1 hy) with rfl | hy
  · exact h1
  · exact h2 y hy
end Go.Proofs.YtfbnlkgopncejaaGreatDoor
