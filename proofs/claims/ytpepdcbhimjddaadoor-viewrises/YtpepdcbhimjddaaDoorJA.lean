/- Nodes, their points, the ring, a key's heirs: plain, of no program. -/
import Derived.Test.YtpepdcbhimjddaaDoorNM
import Derived.Lib.SlBy
namespace Go.Proofs.YtpepdcbhimjddaaDoor
open Go.Lib
set_option maxRecDepth 100000

/-- The digits of a node's number. -/
def nt (n : Nat) : List UInt8 := if n < 10 then [UInt8.ofNat (48 + n)] else [49, UInt8.ofNat (38 + n)]
/-- A node's point. -/
def pt (n : Nat) : Nat := hashL (110 :: 111 :: 100 :: 101 :: 32 :: nt n)
/-- All nodes, by their points. -/
def R15 : List Nat := [12, 13, 10, 11, 14, 15, 7, 6, 5, 4, 3, 2, 1, 9, 8]
theorem R15_sorted : R15.Pairwise (fun a b => pt a < pt b) := by decide +kernel
theorem R15_nodup : R15.Nodup := by decide
theorem pt_lt (n : Nat) : pt n < 18446744073709551616 := by
  unfold pt hashL
  generalize 110 :: 111 :: 100 :: 101 :: 32 :: nt n = l
  have : ∀ (l : List UInt8) (h : Nat), h < 18446744073709551616 → l.foldl (fun h b => ((h ^^^ b.toNat) * 1099511628211) % 18446744073709551616) h < 18446744073709551616 := by
    intro l
    induction l with
    | nil => intro h hh; exact hh
    | cons b l ih => intro h _; exact ih _ (Nat.mod_lt _ (by decide))
  exact this l _ (by decide)
theorem R15_mem {n : Nat} : n ∈ R15 ↔ 1 ≤ n ∧ n ≤ 15 := by
  constructor
  · intro h
    have : ∀ m ∈ R15, 1 ≤ m ∧ m ≤ 15 := by decide
    exact this n h
  · intro h
    have : ∀ m : Fin 16, 1 ≤ m.val → m.val ∈ R15 := by decide
    exact this ⟨n, by omega⟩ h.1
/-- May numbers be nodes? -/
def NodesP (l : List Int) : Prop := ∀ (k : Nat) (h : k < l.length), 1 ≤ l[k] ∧ l[k] ≤ 15 ∧ ∀ (j : Nat) (e : j + 1 = k), l[j]'(by omega) < l[k]
open Classical in
noncomputable def nodesB (l : List Int) : Bool := decide (NodesP l)
open Classical in
theorem nodesB_true {l : List Int} (h : NodesP l) : nodesB l = true := by unfold nodesB; exact decide_eq_true h
open Classical in
theorem nodesB_false {l : List Int} (h : ¬ NodesP l) : nodesB l = false := by unfold nodesB; exact decide_eq_false h
/-- A node where it stands. -/
def st (n : Nat) : Int × Int := ((n : Int), (pt n : Int))
/-- The ring of nodes. -/
noncomputable def rgL (l : List Int) : List Nat := if nodesB l = true then R15.filter (fun (n : Nat) => decide ((n : Int) ∈ l)) else []
theorem rgL_of {l : List Int} (h : NodesP l) : rgL l = R15.filter (fun (n : Nat) => decide ((n : Int) ∈ l)) := if_pos (nodesB_true h)
theorem rgL_not {l : List Int} (h : ¬ NodesP l) : rgL l = [] := if_neg (by rw [nodesB_false h]; decide)
theorem rgL_sorted (l : List Int) : (rgL l).Pairwise (fun a b => pt a < pt b) := by
  unfold rgL
  split
  · exact R15_sorted.filter _
  · exact .nil
theorem rgL_nodup (l : List Int) : (rgL l).Nodup := by
  unfold rgL
  split
  · exact R15_nodup.filter _
  · exact .nil
theorem rgL_node {l : List Int} {n : Nat} (h : n ∈ rgL l) : 1 ≤ n ∧ n ≤ 15 := by
  unfold rgL at h
  split at h
  · exact R15_mem.1 (List.mem_filter.1 h).1
  · cases h
theorem nodes_rise {l : List Int} (h : NodesP l) : ∀ (k i : Nat) (hk : k < l.length) (hi : i < k), l[i]'(by omega) < l[k]
  | 0, _, _, hi => absurd hi (Nat.not_lt_zero _)
  | k + 1, i, hk, hi => by
    have h1 := (h (k + 1) hk).2.2 k rfl
    by_cases e : i = k
    · subst e; exact h1
    · have := nodes_rise h k i (by omega) (by omega)
      omega
theorem nodes_nodup {l : List Int} (h : NodesP l) : l.Nodup := by
  rw [List.nodup_iff_pairwise_ne, List.pairwise_iff_getElem]
  intro i j hi hj hij e
  have := nodes_rise h j i hj hij
  omega
theorem nodes_mem {l : List Int} (h : NodesP l) {x : Int} (hx : x ∈ l) : 1 ≤ x ∧ x ≤ 15 := by
  obtain ⟨k, hk, rfl⟩ := List.mem_iff_getElem.1 hx
  exact ⟨(h k hk).1, (h k hk).2.1⟩
theorem rgL_mem {l : List Int} (h : NodesP l) {x : Int} : x ∈ (rgL l).map (fun (n : Nat) => (n : Int)) ↔ x ∈ l := by
  rw [rgL_of h]
  constructor
  · intro hx
    obtain ⟨n, hn, rfl⟩ := List.mem_map.1 hx
    simpa using (List.mem_filter.1 hn).2
  · intro hx
    have := nodes_mem h hx
    refine List.mem_map.2 ⟨x.toNat, List.mem_filter.2 ⟨R15_mem.2 (by omega), ?_⟩, by omega⟩
    rw [show ((x.toNat : Nat) : Int) = x by omega]
    simpa using hx
theorem map_cast_nodup {r : List Nat} (h : r.Nodup) : (r.map (fun (n : Nat) => (n : Int))).Nodup := by
  rw [List.nodup_iff_pairwise_ne] at *
  rw [List.pairwise_map]
  exact h.imp fun hne e => hne (by omega)
theorem rgL_perm {l : List Int} (h : NodesP l) : ((rgL l).map (fun (n : Nat) => (n : Int))).Perm l :=
  (List.perm_ext_iff_of_nodup (map_cast_nodup (rgL_nodup l)) (nodes_nodup h)).2 fun _ => rgL_mem h
theorem rgL_len {l : List Int} (h : NodesP l) : (rgL l).length = l.length := by
  have := (rgL_perm h).length_eq
  simpa using this
/-- How two that stand on the ring stand to one another. -/
def cfS (x y : Int × Int) : Int := if x.2 < y.2 then -1 else if y.2 < x.2 then 1 else if x.1 < y.1 then -1 else if y.1 < x.1 then 1 else 0
/-- What is sorted by the points is the ring. -/
theorem sorted_ring {l : List Int} (h : NodesP l) {D : List (Int × Int)} (hp : D.Perm (l.map fun x => (x, (pt x.toNat : Int)))) (hs : D.Pairwise fun a b => ¬ cfS b a < 0) : D = (rgL l).map st := by
  have hp2 : D.Perm ((rgL l).map st) := by
    refine hp.trans ?_
    have := ((rgL_perm h).symm).map (fun x : Int => (x, (pt x.toNat : Int)))
    rw [List.map_map] at this
    exact this
  refine List.Perm.eq_of_pairwise (le := fun a b => ¬ cfS b a < 0) ?_ hs ?_ hp2
  · intro a b _ _ h1 h2
    obtain ⟨a1, a2⟩ := a
    obtain ⟨b1, b2⟩ := b
    unfold cfS at h1 h2
    simp only at h1 h2
    rw [Prod.mk.injEq]
    split at h1 <;> split at h2 <;> simp_all <;> omega
  · rw [List.pairwise_map]
    refine (rgL_sorted l).imp ?_
    intro a b hab
    unfold cfS st
    simp only
    rw [if_neg (by omega), if_pos (by omega)]
    decide
/-- A key's heirs. -/
def hsL (key : Nat) (r : List Nat) : List Nat := r.filter (fun n => decide (key ≤ pt n)) ++ r.filter (fun n => decide (pt n < key))
/-- The place of a key's owner. -/
def owI (key : Nat) (r : List Nat) : Nat := if r.any (fun n => decide (key ≤ pt n)) = true then (r.filter (fun n => decide (pt n < key))).length else 0
theorem ring_split (key : Nat) : ∀ (r : List Nat), r.Pairwise (fun a b => pt a < pt b) → r = r.filter (fun n => decide (pt n < key)) ++ r.filter (fun n => decide (key ≤ pt n))
  | [], _ => rfl
  | a :: r, h => by
    have ih := ring_split key r (List.Pairwise.of_cons h)
    have ha : ∀ b ∈ r, pt a < pt b := fun b hb => List.rel_of_pairwise_cons h hb
    by_cases hk : pt a < key
    · rw [List.filter_cons_of_pos (by simpa using hk), List.filter_cons_of_neg (by simp; omega), List.cons_append, ← ih]
    · have e1 : r.filter (fun n => decide (pt n < key)) = [] := by
        rw [List.filter_eq_nil_iff]
        intro b hb
        have := ha b hb
        simp
        omega
      rw [List.filter_cons_of_neg (by simpa using hk), List.filter_cons_of_pos (by simp; omega), e1, List.nil_append]
      rw [e1, List.nil_append] at ih
      rw [← ih]
theorem hsL_len (key : Nat) (r : List Nat) (h : r.Pairwise (fun a b => pt a < pt b)) : (hsL key r).length = r.length := by
  have := congrArg List.length (ring_split key r h)
  unfold hsL
  rw [List.length_append] at *
  omega
theorem any_of {key : Nat} {r : List Nat} : r.any (fun n => decide (key ≤ pt n)) = true ↔ r.filter (fun n => decide (key ≤ pt n)) ≠ [] := by
  rw [List.any_eq_true, Ne, List.filter_eq_nil_iff]
  constructor
  · rintro ⟨x, hx, h⟩ hn
    exact hn x hx h
  · intro hn
    apply Classical.byContradiction
    intro hh
    exact hn fun a ha hk => hh ⟨a, ha, hk⟩
theorem owI_lt (key : Nat) (r : List Nat) (h : r.Pairwise (fun a b => pt a < pt b)) (h0 : 0 < r.length) : owI key r < r.length := by
  unfold owI
  split
  · rename_i ha
    have h1 := List.length_pos_iff.2 (any_of.1 ha)
    have := congrArg List.length (ring_split key r h)
    rw [List.length_append] at this
    omega
  · exact h0
/-- From the owner on, round the ring, the heirs stand. -/
theorem heir_at (key : Nat) (r : List Nat) (h : r.Pairwise (fun a b => pt a < pt b)) (i : Nat) (hi : i < r.length) : r[(owI key r + i) % r.length]? = (hsL key r)[i]? := by
  have hsp := ring_split key r h
  unfold owI hsL
  generalize hA : r.filter (fun n => decide (pt n < key)) = A at *
  generalize hB : r.filter (fun n => decide (key ≤ pt n)) = B at *
  have hl : r.length = A.length + B.length := by rw [hsp, List.length_append]
  split
  · by_cases hb : i < B.length
    · rw [Nat.mod_eq_of_lt (by omega), List.getElem?_append_left hb]
      conv => lhs; rw [hsp]
      rw [List.getElem?_append_right (by omega)]
      congr 1
      omega
    · have e : (A.length + i) % r.length = i - B.length := by
        rw [Nat.mod_eq_sub_mod (by omega), Nat.mod_eq_of_lt (by omega)]
        omega
      rw [e, List.getElem?_append_right (by omega)]
      conv => lhs; rw [hsp]
      rw [List.getElem?_append_left (by omega)]
  · rename_i ha
    have hB0 : B = [] := by
      apply Classical.byContradiction
      intro hn
      exact ha (any_of.2 (by rw [hB]; exact hn))
    subst hB0
    rw [Nat.zero_add, Nat.mod_eq_of_lt hi, List.nil_append]
    conv => lhs; rw [hsp]
    rw [List.append_nil]
theorem owner_at (key : Nat) (r : List Nat) (h : r.Pairwise (fun a b => pt a < pt b)) (h0 : 0 < r.length) : r[owI key r]? = (hsL key r)[0]? := by
  have := heir_at key r h 0 h0
  rwa [Nat.add_zero, Nat.mod_eq_of_lt (owI_lt key r h h0)] at this
theorem hsL_perm (key : Nat) (r : List Nat) (h : r.Pairwise (fun a b => pt a < pt b)) : (hsL key r).Perm r := by
  have := ring_split key r h
  conv => rhs; rw [this]
  unfold hsL
  exact List.perm_append_comm
/-- What slices.IndexFunc finds. -/
theorem idx_owner (key : Nat) (r : List Nat) (h : r.Pairwise (fun a b => pt a < pt b)) : max (idxBy (fun _ (y : Int × Int) => decide ((key : Int) ≤ y.2)) (r.map st) default) 0 = (owI key r : Int) := by
  have hsp := ring_split key r h
  unfold owI
  generalize hA : r.filter (fun n => decide (pt n < key)) = A at *
  generalize hB : r.filter (fun n => decide (key ≤ pt n)) = B at *
  have hAm : ∀ a ∈ A, pt a < key := fun a ha => by
    rw [← hA] at ha
    simpa using (List.mem_filter.1 ha).2
  have hBm : ∀ a ∈ B, key ≤ pt a := fun a ha => by
    rw [← hB] at ha
    simpa using (List.mem_filter.1 ha).2
  have gen : ∀ (A : List Nat) (i : Nat), (∀ a ∈ A, pt a < key) → idxByFrom (fun _ (y : Int × Int) => decide ((key : Int) ≤ y.2)) default ((A ++ B).map st) i = if B = [] then -1 else ((i + A.length : Nat) : Int) := by
    intro A
    induction A with
    | nil =>
      intro i _
      cases B with
      | nil => rfl
      | cons b B =>
        have := hBm b (by simp)
        rw [List.nil_append, List.map_cons, idxByFrom, if_pos (by simp [st]; omega), if_neg (by simp)]
        simp
    | cons a A ih =>
      intro i hh
      have := hh a (by simp)
      rw [List.cons_append, List.map_cons, idxByFrom, if_neg (by simp [st]; omega), ih (i + 1) (fun b hb => hh b (List.mem_cons_of_mem _ hb))]
      split
      · rfl
      · rw [List.length_cons]; congr 1; omega
  unfold idxBy
  conv => lhs; rw [hsp]
  rw [gen A 0 hAm]
  by_cases hB0 : B = []
  · rw [if_pos hB0, if_neg (fun ha => any_of.1 ha (hB.trans hB0))]
    rfl
  · rw [if_neg hB0, if_pos (any_of.2 (fun e => hB0 (hB.symm.trans e)))]
    omega
end Go.Proofs.YtpepdcbhimjddaaDoor
