/- Views, plainly: which may be, who is up, what becomes of them. -/
import Derived.Test.YtpepdcbhimjddaaDoorJA
namespace Go.Proofs.YtpepdcbhimjddaaDoor

/-- A member. -/
structure Mb where
  nd : Int
  lf : Int
  up : Bool
deriving Inhabited, DecidableEq
def enM (m : Mb) : List Value := [.int .i64 m.nd, .int .i64 m.lf, .bool m.up]
abbrev mCells (l : List Mb) : List Value := l.flatMap enM
abbrev nds (l : List Mb) : List Int := l.map Mb.nd
def cntB (n : Int) : Bool := decide (1 ≤ n) && decide (n ≤ 1099511627775)
theorem cntB_iff {n : Int} : cntB n = true ↔ 1 ≤ n ∧ n ≤ 1099511627775 := by simp [cntB]
/-- May a view be? -/
def VwP (ep : Int) (l : List Mb) : Prop := cntB ep = true ∧ l ≠ [] ∧ (∀ m ∈ l, cntB m.lf = true) ∧ NodesP (nds l)
open Classical in
noncomputable def vB (ep : Int) (l : List Mb) : Bool := decide (VwP ep l)
open Classical in
theorem vB_true {ep : Int} {l : List Mb} (h : VwP ep l) : vB ep l = true := by unfold vB; exact decide_eq_true h
open Classical in
theorem vB_false {ep : Int} {l : List Mb} (h : ¬ VwP ep l) : vB ep l = false := by unfold vB; exact decide_eq_false h
theorem nodes_len {l : List Int} (h : NodesP l) : l.length ≤ 15 := by
  rw [← rgL_len h, rgL_of h]
  exact List.length_filter_le _ _
theorem VwP.len {ep : Int} {l : List Mb} (h : VwP ep l) : l.length ≤ 15 := by
  have := nodes_len h.2.2.2
  simpa [nds] using this
theorem VwP.pos {ep : Int} {l : List Mb} (h : VwP ep l) : 0 < l.length := List.length_pos_iff.2 h.2.1
/-- Who is up. -/
def upN (l : List Mb) : List Int := (l.filter Mb.up).map Mb.nd
noncomputable def lvL (ep : Int) (l : List Mb) : List Int := if vB ep l = true then upN l else []
/-- The first view of nodes. -/
def fsM (l : List Int) : List Mb := l.map fun n => ⟨n, 1, true⟩
/-- The error where a member turns. -/
def eOf (ep : Int) (up : Bool) (m : Mb) : Int := if m.up = up ∧ up = true then 5 else if m.up = up then 12 else if ep = 1099511627775 ∨ up = true ∧ m.lf = 1099511627775 then 13 else 0
/-- What a member becomes. -/
def tM (ep : Int) (up : Bool) (node : Int) (m : Mb) : Mb := if m.nd = node then ⟨m.nd, if up = true ∧ eOf ep up m = 0 then m.lf + 1 else m.lf, up⟩ else m
/-- The reference's error, member by member. -/
def eL (ep : Int) (up : Bool) (node : Int) (l : List Mb) : Int := l.foldl (fun e m => if m.nd = node then eOf ep up m else e) 4
noncomputable def tE (ep : Int) (up : Bool) (node : Int) (l : List Mb) : Int := if vB ep l = true then eL ep up node l else 1
noncomputable def tEp (ep : Int) (up : Bool) (node : Int) (l : List Mb) : Int := if tE ep up node l = 0 then ep + 1 else 0
noncomputable def tLs (ep : Int) (up : Bool) (node : Int) (l : List Mb) : List Mb := if tE ep up node l = 0 then l.map (tM ep up node) else []
theorem eL_snoc (ep : Int) (up : Bool) (node : Int) (l : List Mb) (m : Mb) : eL ep up node (l ++ [m]) = if m.nd = node then eOf ep up m else eL ep up node l := by
  simp [eL]
theorem fold_no (ep : Int) (up : Bool) (node : Int) : ∀ (l : List Mb) (c : Int), (∀ m ∈ l, m.nd ≠ node) → l.foldl (fun e m => if m.nd = node then eOf ep up m else e) c = c
  | [], _, _ => rfl
  | m :: l, c, h => by
    rw [List.foldl_cons, if_neg (h m (by simp))]
    exact fold_no ep up node l c fun x hx => h x (List.mem_cons_of_mem _ hx)
theorem eL_none {ep : Int} {up : Bool} {node : Int} {l : List Mb} (h : ∀ m ∈ l, m.nd ≠ node) : eL ep up node l = 4 := fold_no ep up node l 4 h
theorem nds_nodup {l : List Mb} (h : NodesP (nds l)) : ∀ (i j : Nat) (hi : i < l.length) (hj : j < l.length), l[i].nd = l[j].nd → i = j := by
  intro i j hi hj e
  have hn := nodes_nodup h
  rw [List.nodup_iff_pairwise_ne, List.pairwise_iff_getElem] at hn
  apply Classical.byContradiction
  intro hne
  rcases Nat.lt_or_gt_of_ne hne with h1 | h1
  · exact hn i j (by simpa [nds] using hi) (by simpa [nds] using hj) h1 (by simpa [nds] using e)
  · exact hn j i (by simpa [nds] using hj) (by simpa [nds] using hi) h1 (by simpa [nds] using e.symm)
theorem eL_at {ep : Int} {up : Bool} {node : Int} {l : List Mb} (h : NodesP (nds l)) (k : Nat) (hk : k < l.length) (e : l[k].nd = node) : eL ep up node l = eOf ep up l[k] := by
  have hs : l = l.take k ++ l[k] :: l.drop (k + 1) := by rw [List.getElem_cons_drop, List.take_append_drop]
  have : eL ep up node (l.take k ++ l[k] :: l.drop (k + 1)) = eOf ep up l[k] := by
    unfold eL
    rw [List.foldl_append, List.foldl_cons, if_pos e]
    refine fold_no ep up node _ _ fun m hm e2 => ?_
    obtain ⟨j, hj, rfl⟩ := List.mem_iff_getElem.1 hm
    rw [List.getElem_drop] at e2
    have := nds_nodup h (k + 1 + j) k (by simp at hj; omega) hk (e2.trans e.symm)
    omega
  rw [← hs] at this
  exact this
theorem set_map {ep : Int} {up : Bool} {node : Int} {l : List Mb} (h : NodesP (nds l)) (k : Nat) (hk : k < l.length) (e : l[k].nd = node) : l.set k (tM ep up node l[k]) = l.map (tM ep up node) := by
  apply List.ext_getElem
  · simp
  · intro i h1 h2
    rw [List.getElem_map, List.getElem_set]
    split
    · rename_i hi; subst hi; rfl
    · rename_i hi
      have hil : i < l.length := by simpa using h2
      have hne : ¬ l[i].nd = node := fun e2 => hi (nds_nodup h k i hk (by simpa using h2) (e.trans e2.symm))
      exact (show tM ep up node l[i] = l[i] by unfold tM; exact if_neg hne).symm
theorem tM_at {ep : Int} {up : Bool} {node : Int} {m : Mb} (e : m.nd = node) (h0 : eOf ep up m = 0) : tM ep up node m = ⟨m.nd, if up = true then m.lf + 1 else m.lf, up⟩ := by
  unfold tM
  rw [if_pos e]
  cases up <;> simp [h0]
/-- Who is gone. -/
noncomputable def gnL (ea : Int) (a : List Mb) (eb : Int) (b : List Mb) : List Int := if vB ea a = true ∧ vB eb b = true then (a.filter fun m => m.up && !decide (m ∈ b)).map Mb.nd else []
/-- A member's life. -/
noncomputable def lfL (ep : Int) (l : List Mb) (node : Int) : Int := if vB ep l = true then (match l.find? (fun m => m.nd == node) with | some m => m.lf | none => 0) else 0
/-- A member's cells. -/
theorem mCells_get : ∀ (l : List Mb) (i : Nat) (hi : i < l.length) (j : Nat), j < 3 → (mCells l)[i * 3 + j]? = (enM l[i])[j]?
  | d :: l, 0, _, j, hj => by
    rw [show mCells (d :: l) = enM d ++ mCells l from rfl, List.getElem?_append_left (by simp [enM]; omega)]
    simp
  | d :: l, i + 1, hi, j, hj => by
    rw [show mCells (d :: l) = enM d ++ mCells l from rfl, List.getElem?_append_right (by simp [enM]; omega)]
    rw [show (i + 1) * 3 + j - (enM d).length = i * 3 + j by simp [enM]; omega]
    exact mCells_get l i (by simpa using hi) j hj
theorem mCells_len (l : List Mb) : (mCells l).length = l.length * 3 := by
  induction l with
  | nil => rfl
  | cons x l ih => rw [show mCells (x :: l) = enM x ++ mCells l from rfl, List.length_append, ih]; simp [enM]; omega
theorem mCells_snoc (l : List Mb) (m : Mb) : mCells (l ++ [m]) = mCells l ++ enM m := by simp [mCells]
end Go.Proofs.YtpepdcbhimjddaaDoor
