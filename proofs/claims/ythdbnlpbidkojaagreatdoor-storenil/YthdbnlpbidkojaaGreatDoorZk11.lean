/- Nodes, their points, the ring, a key's heirs: plain, of no program. -/
import Derived.Test.YthdbnlpbidkojaaGreatDoorZk0
import Derived.Lib.SlBy
import Derived.Test.YthdbnlpbidkojaaGreatDoorZk1
import Derived.RegionTactic
import Derived.Deep.RegionHeld3
import Derived.Test.YthdbnlpbidkojaaGreatDoorZk10
import Derived.Maps.OwnSet
namespace Go.Proofs.YthdbnlpbidkojaaGreatDoor
open Go.Lib
set_option maxRecDepth 100000

/-- The digits of a node's number. -/
def nt (n : Nat) : List UInt8 := if n < 10 then [UInt8.ofNat (48 + n)] else [49, UInt8.ofNat (38 + n)]
/-- A node's point. -/
def pt (n : Nat) : Nat := hashL (110 :: 111 :: 100 :: 101 :: 32 :: nt n)
/-- All nodes, by their points. -/
def R15 : List Nat := [12, 13, 10, 11, 14, 15, 7, 6, 5, 4, 3, 2, 1, 9, 8]
theorem R15_sorted : R15.Pairwise (fun a b => pt a < pt b) := by decide +kernel
theorem R15_nodup : R15.Nodup := by decide
theorem pt_lt (n : Nat) : pt n < 18446744073709551616 := by
  unfold pt hashL
  generalize 110 :: 111 :: 100 :: 101 :: 32 :: nt n = l
  have : ∀ (l : List UInt8) (h : Nat), h < 18446744073709551616 → l.foldl (fun h b => ((h ^^^ b.toNat) * 1099511628211) % 18446744073709551616) h < 18446744073709551616 := by
    intro l
    induction l with
    | nil => intro h hh; exact hh
    | cons b l ih => intro h _; exact ih _ (Nat.mod_lt _ (by decide))
  exact this l _ (by decide)
theorem R15_mem {n : Nat} : n ∈ R15 ↔ 1 ≤ n ∧ n ≤ 15 := by
  constructor
  · intro h
    have : ∀ m ∈ R15, 1 ≤ m ∧ m ≤ 15 := by decide
    exact this n h
  · intro h
    have : ∀ m : Fin 16, 1 ≤ m.val → m.val ∈ R15 := by decide
    exact this ⟨n, by omega⟩ h.1
/-- May numbers be nodes? -/
def NodesP (l : List Int) : Prop := ∀ (k : Nat) (h : k < l.length), 1 ≤ l[k] ∧ l[k] ≤ 15 ∧ ∀ (j : Nat) (e : j + 1 = k), l[j]'(by omega) < l[k]
open Classical in
noncomputable def nodesB (l : List Int) : Bool := decide (NodesP l)
open Classical in
theorem nodesB_true {l : List Int} (h : NodesP l) : nodesB l = true := by unfold nodesB; exact decide_eq_true h
open Classical in
theorem nodesB_false {l : List Int} (h : ¬ NodesP l) : nodesB l = false := by unfold nodesB; exact decide_eq_false h
/-- A node where it stands. -/
def st (n : Nat) : Int × Int := ((n : Int), (pt n : Int))
/-- The ring of nodes. -/
noncomputable def rgL (l : List Int) : List Nat := if nodesB l = true then R15.filter (fun (n : Nat) => decide ((n : Int) ∈ l)) else []
theorem rgL_of {l : List Int} (h : NodesP l) : rgL l = R15.filter (fun (n : Nat) => decide ((n : Int) ∈ l)) := if_pos (nodesB_true h)
theorem rgL_not {l : List Int} (h : ¬ NodesP l) : rgL l = [] := if_neg (by rw [nodesB_false h]; decide)
theorem rgL_sorted (l : List Int) : (rgL l).Pairwise (fun a b => pt a < pt b) := by
  unfold rgL
  split
  · exact R15_sorted.filter _
  · exact .nil
theorem rgL_nodup (l : List Int) : (rgL l).Nodup := by
  unfold rgL
  split
  · exact R15_nodup.filter _
  · exact .nil
theorem rgL_node {l : List Int} {n : Nat} (h : n ∈ rgL l) : 1 ≤ n ∧ n ≤ 15 := by
  unfold rgL at h
  split at h
  · exact R15_mem.1 (List.mem_filter.1 h).1
  · cases h
theorem nodes_rise {l : List Int} (h : NodesP l) : ∀ (k i : Nat) (hk : k < l.length) (hi : i < k), l[i]'(by omega) < l[k]
  | 0, _, _, hi => absurd hi (Nat.not_lt_zero _)
  | k + 1, i, hk, hi => by
    have h1 := (h (k + 1) hk).2.2 k rfl
    by_cases e : i = k
    · subst e; exact h1
    · have := nodes_rise h k i (by omega) (by omega)
      omega
theorem nodes_nodup {l : List Int} (h : NodesP l) : l.Nodup := by
  rw [List.nodup_iff_pairwise_ne, List.pairwise_iff_getElem]
  intro i j hi hj hij e
  have := nodes_rise h j i hj hij
  omega
theorem nodes_mem {l : List Int} (h : NodesP l) {x : Int} (hx : x ∈ l) : 1 ≤ x ∧ x ≤ 15 := by
  obtain ⟨k, hk, rfl⟩ := List.mem_iff_getElem.1 hx
  exact ⟨(h k hk).1, (h k hk).2.1⟩
theorem rgL_mem {l : List Int} (h : NodesP l) {x : Int} : x ∈ (rgL l).map (fun (n : Nat) => (n : Int)) ↔ x ∈ l := by
  rw [rgL_of h]
  constructor
  · intro hx
    obtain ⟨n, hn, rfl⟩ := List.mem_map.1 hx
    simpa using (List.mem_filter.1 hn).2
  · intro hx
    have := nodes_mem h hx
    refine List.mem_map.2 ⟨x.toNat, List.mem_filter.2 ⟨R15_mem.2 (by omega), ?_⟩, by omega⟩
    rw [show ((x.toNat : Nat) : Int) = x by omega]
    simpa using hx
theorem map_cast_nodup {r : List Nat} (h : r.Nodup) : (r.map (fun (n : Nat) => (n : Int))).Nodup := by
  rw [List.nodup_iff_pairwise_ne] at *
  rw [List.pairwise_map]
  exact h.imp fun hne e => hne (by omega)
theorem rgL_perm {l : List Int} (h : NodesP l) : ((rgL l).map (fun (n : Nat) => (n : Int))).Perm l :=
  (List.perm_ext_iff_of_nodup (map_cast_nodup (rgL_nodup l)) (nodes_nodup h)).2 fun _ => rgL_mem h
theorem rgL_len {l : List Int} (h : NodesP l) : (rgL l).length = l.length := by
  have := (rgL_perm h).length_eq
  simpa using this
/-- How two that stand on the ring stand to one another. -/
def cfS (x y : Int × Int) : Int := if x.2 < y.2 then -1 else if y.2 < x.2 then 1 else if x.1 < y.1 then -1 else if y.1 < x.1 then 1 else 0
/-- What is sorted by the points is the ring. -/
theorem sorted_ring {l : List Int} (h : NodesP l) {D : List (Int × Int)} (hp : D.Perm (l.map fun x => (x, (pt x.toNat : Int)))) (hs : D.Pairwise fun a b => ¬ cfS b a < 0) : D = (rgL l).map st := by
  have hp2 : D.Perm ((rgL l).map st) := by
    refine hp.trans ?_
    have := ((rgL_perm h).symm).map (fun x : Int => (x, (pt x.toNat : Int)))
    rw [List.map_map] at this
    exact this
  refine List.Perm.eq_of_pairwise (le := fun a b => ¬ cfS b a < 0) ?_ hs ?_ hp2
  · intro a b _ _ h1 h2
    obtain ⟨a1, a2⟩ := a
    obtain ⟨b1, b2⟩ := b
    unfold cfS at h1 h2
    simp only at h1 h2
    rw [Prod.mk.injEq]
    split at h1 <;> split at h2 <;> simp_all <;> omega
  · rw [List.pairwise_map]
    refine (rgL_sorted l).imp ?_
    intro a b hab
    unfold cfS st
    simp only
    rw [if_neg (by omega), if_pos (by omega)]
    decide
/-- A key's heirs. -/
def hsL (key : Nat) (r : List Nat) : List Nat := r.filter (fun n => decide (key ≤ pt n)) ++ r.filter (fun n => decide (pt n < key))
/-- The place of a key's owner. -/
def owI (key : Nat) (r : List Nat) : Nat := if r.any (fun n => decide (key ≤ pt n)) = true then (r.filter (fun n => decide (pt n < key))).length else 0
theorem ring_split (key : Nat) : ∀ (r : List Nat), r.Pairwise (fun a b => pt a < pt b) → r = r.filter (fun n => decide (pt n < key)) ++ r.filter (fun n => decide (key ≤ pt n))
  | [], _ => rfl
  | a :: r, h => by
    have ih := ring_split key r (List.Pairwise.of_cons h)
    have ha : ∀ b ∈ r, pt a < pt b := fun b hb => List.rel_of_pairwise_cons h hb
    by_cases hk : pt a < key
    · rw [List.filter_cons_of_pos (by simpa using hk), List.filter_cons_of_neg (by simp; omega), List.cons_append, ← ih]
    · have e1 : r.filter (fun n => decide (pt n < key)) = [] := by
        rw [List.filter_eq_nil_iff]
        intro b hb
        have := ha b hb
        simp
        omega
      rw [List.filter_cons_of_neg (by simpa using hk), List.filter_cons_of_pos (by simp; omega), e1, List.nil_append]
      rw [e1, List.nil_append] at ih
      rw [← ih]
theorem hsL_len (key : Nat) (r : List Nat) (h : r.Pairwise (fun a b => pt a < pt b)) : (hsL key r).length = r.length := by
  have := congrArg List.length (ring_split key r h)
  unfold hsL
  rw [List.length_append] at *
  omega
theorem any_of {key : Nat} {r : List Nat} : r.any (fun n => decide (key ≤ pt n)) = true ↔ r.filter (fun n => decide (key ≤ pt n)) ≠ [] := by
  rw [List.any_eq_true, Ne, List.filter_eq_nil_iff]
  constructor
  · rintro ⟨x, hx, h⟩ hn
    exact hn x hx h
  · intro hn
    apply Classical.byContradiction
    intro hh
    exact hn fun a ha hk => hh ⟨a, ha, hk⟩
theorem owI_lt (key : Nat) (r : List Nat) (h : r.Pairwise (fun a b => pt a < pt b)) (h0 : 0 < r.length) : owI key r < r.length := by
  unfold owI
  split
  · rename_i ha
    have h1 := List.length_pos_iff.2 (any_of.1 ha)
    have := congrArg List.length (ring_split key r h)
    rw [List.length_append] at this
    omega
  · exact h0
/-- From the owner on, round the ring, the heirs stand. -/
theorem heir_at (key : Nat) (r : List Nat) (h : r.Pairwise (fun a b => pt a < pt b)) (i : Nat) (hi : i < r.length) : r[(owI key r + i) % r.length]? = (hsL key r)[i]? := by
  have hsp := ring_split key r h
  unfold owI hsL
  generalize hA : r.filter (fun n => decide (pt n < key)) = A at *
  generalize hB : r.filter (fun n => decide (key ≤ pt n)) = B at *
  have hl : r.length = A.length + B.length := by rw [hsp, List.length_append]
  split
  · by_cases hb : i < B.length
    · rw [Nat.mod_eq_of_lt (by omega), List.getElem?_append_left hb]
      conv => lhs; rw [hsp]
      rw [List.getElem?_append_right (by omega)]
      congr 1
      omega
    · have e : (A.length + i) % r.length = i - B.length := by
        rw [Nat.mod_eq_sub_mod (by omega), Nat.mod_eq_of_lt (by omega)]
        omega
      rw [e, List.getElem?_append_right (by omega)]
      conv => lhs; rw [hsp]
      rw [List.getElem?_append_left (by omega)]
  · rename_i ha
    have hB0 : B = [] := by
      apply Classical.byContradiction
      intro hn
      exact ha (any_of.2 (by rw [hB]; exact hn))
    subst hB0
    rw [Nat.zero_add, Nat.mod_eq_of_lt hi, List.nil_append]
    conv => lhs; rw [hsp]
    rw [List.append_nil]
theorem owner_at (key : Nat) (r : List Nat) (h : r.Pairwise (fun a b => pt a < pt b)) (h0 : 0 < r.length) : r[owI key r]? = (hsL key r)[0]? := by
  have := heir_at key r h 0 h0
  rwa [Nat.add_zero, Nat.mod_eq_of_lt (owI_lt key r h h0)] at this
theorem hsL_perm (key : Nat) (r : List Nat) (h : r.Pairwise (fun a b => pt a < pt b)) : (hsL key r).Perm r := by
  have := ring_split key r h
  conv => rhs; rw [this]
  unfold hsL
  exact List.perm_append_comm
/-- What slices.IndexFunc finds. -/
theorem idx_owner (key : Nat) (r : List Nat) (h : r.Pairwise (fun a b => pt a < pt b)) : max (idxBy (fun _ (y : Int × Int) => decide ((key : Int) ≤ y.2)) (r.map st) default) 0 = (owI key r : Int) := by
  have hsp := ring_split key r h
  unfold owI
  generalize hA : r.filter (fun n => decide (pt n < key)) = A at *
  generalize hB : r.filter (fun n => decide (key ≤ pt n)) = B at *
  have hAm : ∀ a ∈ A, pt a < key := fun a ha => by
    rw [← hA] at ha
    simpa using (List.mem_filter.1 ha).2
  have hBm : ∀ a ∈ B, key ≤ pt a := fun a ha => by
    rw [← hB] at ha
    simpa using (List.mem_filter.1 ha).2
  have gen : ∀ (A : List Nat) (i : Nat), (∀ a ∈ A, pt a < key) → idxByFrom (fun _ (y : Int × Int) => decide ((key : Int) ≤ y.2)) default ((A ++ B).map st) i = if B = [] then -1 else ((i + A.length : Nat) : Int) := by
    intro A
    induction A with
    | nil =>
      intro i _
      cases B with
      | nil => rfl
      | cons b B =>
        have := hBm b (by simp)
        rw [List.nil_append, List.map_cons, idxByFrom, if_pos (by simp [st]; omega), if_neg (by simp)]
        simp
    | cons a A ih =>
      intro i hh
      have := hh a (by simp)
      rw [List.cons_append, List.map_cons, idxByFrom, if_neg (by simp [st]; omega), ih (i + 1) (fun b hb => hh b (List.mem_cons_of_mem _ hb))]
      split
      · rfl
      · rw [List.length_cons]; congr 1; omega
  unfold idxBy
  conv => lhs; rw [hsp]
  rw [gen A 0 hAm]
  by_cases hB0 : B = []
  · rw [if_pos hB0, if_neg (fun ha => any_of.1 ha (hB.trans hB0))]
    rfl
  · rw [if_neg hB0, if_pos (any_of.2 (fun e => hB0 (hB.symm.trans e)))]
    omega
end Go.Proofs.YthdbnlpbidkojaaGreatDoor
/- ring.isNode, Nodes: walks. -/
namespace Go.Proofs.YthdbnlpbidkojaaGreatDoor
open Go.RowKit

def isN (x : Int) : Bool := decide (1 ≤ x) && decide (x ≤ 15)
theorem isN_of {x : Int} (h1 : 1 ≤ x) (h2 : x ≤ 15) : isN x = true := by simp [isN, h1, h2]
theorem isN_get {x : Int} (h : isN x = true) : 1 ≤ x ∧ x ≤ 15 := by simpa [isN] using h
theorem isNode_any (x : Int) (w : World) : Calls Tryz.prog 84 #[.int .i64 x] w fun e w' => e = .returned (.bool (isN x)) ∧ w' = w := by
  by_cases h1 : 1 ≤ x
  · have d1 : decide (1 ≤ x) = true := by simpa using h1
    by_cases h2 : x ≤ 15
    · have d2 : decide (x ≤ 15) = true := by simpa using h2
      rw [isN_of h1 h2]
      go_enter Tryz.func84, Tryz.ntmps84
      go_wp2
      go_ret
      exact ⟨rfl, rfl⟩
    · have d2 : decide (x ≤ 15) = false := by simpa using h2
      have e : isN x = false := by simp [isN, h2]
      rw [e]
      go_enter Tryz.func84, Tryz.ntmps84
      go_wp2
      go_ret
      exact ⟨rfl, rfl⟩
  · have d1 : decide (1 ≤ x) = false := by simpa using h1
    have e : isN x = false := by simp [isN, h1]
    rw [e]
    go_enter Tryz.func84, Tryz.ntmps84
    go_wp2
    go_ret
    exact ⟨rfl, rfl⟩
/-- The ints of a row. -/
def iCells (l : List Int) : List Value := l.map (Value.int .i64)
theorem iCells_at {w : World} {a : Option Addr} {cap n : Nat} {l : List Int} (h : IsRow w 1 (.slice a n cap) l.length (iCells l)) (h0 : 0 < l.length) :
    ∃ b off, a = some ⟨b, off, none⟩ ∧ n = l.length ∧ b < w.heap.size ∧ l.length ≤ cap ∧ ∀ (k : Nat) (hk : k < l.length), w.cell? ⟨b, off + k, none⟩ = some (.int .i64 l[k]) := by
  obtain ⟨b, off, cap', hv, hlt, q1, q2, hc⟩ := h.open (by omega)
  simp only [Value.slice.injEq] at hv
  exact ⟨b, off, hv.1, hv.2.1, hlt, by omega, fun k hk => hc k _ (by simp [iCells, hk])⟩
/-- May the number at a place be there? -/
def okAt (l : List Int) (k : Nat) (h : k < l.length) : Prop := 1 ≤ l[k] ∧ l[k] ≤ 15 ∧ ∀ (j : Nat) (e : j + 1 = k), l[j]'(by omega) < l[k]
set_option maxRecDepth 100000 in
set_option maxHeartbeats 1000000 in
theorem nodes_any (v : Value) (l : List Int) (w : World) (hr : IsRow w 1 v l.length (iCells l)) (hl : l.length ≤ 1000000) :
    Calls Tryz.prog 53 #[v] w fun e w' => e = .returned (.bool (nodesB l)) ∧ w' = w := by
  obtain ⟨a0, cap0, rfl⟩ := hr.form
  have HR : Hid (IsRow w 1 (.slice a0 l.length cap0) l.length (iCells l)) := hr
  clear hr
  go_enter Tryz.func53, Tryz.ntmps53
  go_wp2_with fail
  go_loopw [2, 7] (fun r i wr => r = .bool false ∧ ∃ k : Nat, k ≤ l.length ∧ i = .int .i64 (k : Int) ∧ Hid (∀ (j : Nat) (h : j < l.length), j < k → okAt l j h) ∧ w = wr) (fun _ i _ => l.length - (intOf i).toNat)
  case atStart => exact ⟨rfl, 0, Nat.zero_le _, rfl, fun j h hj => absurd hj (Nat.not_lt_zero _), rfl⟩
  case round =>
    obtain ⟨rfl, k, hk, rfl, HO, rfl⟩ := hrel
    by_cases hlk : k < l.length
    · have dk : decide ((k : Int) < l.length) = true := by simp; omega
      obtain ⟨b, off, rfl, -, hlt, hcap, hc⟩ := iCells_at HR.out (by omega)
      have ck := hc k hlk
      by_cases hok : okAt l k hlk
      · have HO2 : Hid (∀ (j : Nat) (h : j < l.length), j < k + 1 → okAt l j h) := fun j h hj => by
          by_cases e : j = k
          · subst e; exact hok
          · exact HO.out j h (by omega)
        have hi : isN l[k] = true := isN_of hok.1 hok.2.1
        have HI : Hid (∀ w, Calls Tryz.prog 84 #[.int .i64 l[k]] w fun e w' => e = .returned (.bool true) ∧ w' = w) := fun w => by have := isNode_any l[k] w; rw [hi] at this; exact this
        cases k with
        | zero =>
          simp only [Nat.add_zero] at ck
          generalize l[0]'hlk = x at *
          clear hok hi hc HO
          go_wp2_with fail
          refine (HI.out _).mono ?_
          rintro e w' ⟨rfl, hw⟩
          subst hw
          go_wp2
          go_roundw
          case rel => exact ⟨rfl, 0 + 1, by omega, by simp, HO2, trivial⟩
          case measure => simp [intOf]; omega
        | succ j =>
          have cj := hc j (by omega)
          have hlt2 := hok.2.2 j rfl
          generalize l[j + 1]'hlk = x at *
          generalize l[j]'(by omega) = y at *
          have d2 : decide (x ≤ y) = false := by simp; omega
          clear hok hi hc HO
          go_wp2_with fail
          refine (HI.out _).mono ?_
          rintro e w' ⟨rfl, hw⟩
          subst hw
          go_wp2
          go_roundw
          case rel => exact ⟨rfl, j + 1 + 1, by omega, by simp, HO2, trivial⟩
          case measure => simp [intOf]; omega
      · have hno : nodesB l = false := nodesB_false fun h => hok (h k hlk)
        have HN : Hid (nodesB l = false) := hno
        clear hno
        cases hi : isN l[k]
        · have HI : Hid (∀ w, Calls Tryz.prog 84 #[.int .i64 l[k]] w fun e w' => e = .returned (.bool false) ∧ w' = w) := fun w => by have := isNode_any l[k] w; rw [hi] at this; exact this
          generalize l[k]'hlk = x at *
          clear hok hi hc HO
          go_wp2_with fail
          refine (HI.out _).mono ?_
          rintro e w' ⟨rfl, hw⟩
          subst hw
          go_wp2
          go_ret
          exact ⟨by rw [HN.out]; rfl, rfl⟩
        · have HI : Hid (∀ w, Calls Tryz.prog 84 #[.int .i64 l[k]] w fun e w' => e = .returned (.bool true) ∧ w' = w) := fun w => by have := isNode_any l[k] w; rw [hi] at this; exact this
          obtain ⟨i1, i2⟩ := isN_get hi
          cases k with
          | zero => exact absurd ⟨i1, i2, fun j e => absurd e (by omega)⟩ hok
          | succ j =>
            have cj := hc j (by omega)
            have hle : ¬ l[j]'(by omega) < l[j + 1]'hlk := fun hh => hok ⟨i1, i2, fun j' e => by
              have : j' = j := by omega
              subst this
              exact hh⟩
            generalize l[j + 1]'hlk = x at *
            generalize l[j]'(by omega) = y at *
            have d2 : decide (x ≤ y) = true := by simp; omega
            clear hok hi hc HO
            go_wp2_with fail
            refine (HI.out _).mono ?_
            rintro e w' ⟨rfl, hw⟩
            subst hw
            go_wp2
            go_ret
            exact ⟨by rw [HN.out]; rfl, rfl⟩
    · have hk' : k = l.length := by omega
      subst hk'
      have dk : decide ((l.length : Int) < l.length) = false := by simp
      have hyes : nodesB l = true := nodesB_true fun k h => HO.out k h h
      clear HO
      go_wp2
      go_ret
      exact ⟨by rw [hyes]; rfl, rfl⟩
end Go.Proofs.YthdbnlpbidkojaaGreatDoor
/- Acts of a store that came in. -/
namespace Go.Proofs.YthdbnlpbidkojaaGreatDoor
open Go.ChangeShapes Go.WideShapes Go.ChangeAt Go.WideMaps Go.WideElems Go.RowKit Go.Deep

/-- An act: its kind, a type, a name, nodes, a maker, a node. -/
structure Ac where
  kd : Int
  z : LT
  n : ByteArray
  lp : Option Addr
  lc : Nat
  l : List Int
  a : Int
  b : Int
  c : Int
  i : Int
def enAc (x : Ac) : List Value := [.int .i64 x.kd, .string x.z.t.n, .string x.z.t.p, x.z.vo, x.z.va, x.z.vc, .int .i64 x.z.t.nd, .int .i64 x.z.t.lf, .int .i64 x.z.t.sq, .string x.n, .slice x.lp x.l.length x.lc, .int .i64 x.a, .int .i64 x.b, .int .i64 x.c, .int .i64 x.i]
abbrev acA (x : Ac) : Array Value := #[.int .i64 x.kd, .string x.z.t.n, .string x.z.t.p, x.z.vo, x.z.va, x.z.vc, .int .i64 x.z.t.nd, .int .i64 x.z.t.lf, .int .i64 x.z.t.sq, .string x.n, .slice x.lp x.l.length x.lc, .int .i64 x.a, .int .i64 x.b, .int .i64 x.c, .int .i64 x.i]
abbrev acV (x : Ac) : Value := .agg (acA x)
/-- What holds of an act that came in. -/
def OkAc (w : World) (x : Ac) : Prop := (IsTy w x.z.t x.z.vo x.z.va x.z.vc ∧ InT x.z.t) ∧ IsRow w 1 (.slice x.lp x.l.length x.lc) x.l.length (iCells x.l) ∧ x.l.length ≤ 140737488355328
theorem cAc : Tryz.prog.cellsOf 38 = 15 := by kernel_rfl
theorem cSlI : Tryz.prog.cellsOf 36 = 1 := by kernel_rfl
theorem listS15 {α : Type} {l : List α} (h : l.length = 15) : ∃ c0 c1 c2 c3 c4 c5 c6 c7 c8 c9 c10 c11 c12 c13 c14, l = [c0, c1, c2, c3, c4, c5, c6, c7, c8, c9, c10, c11, c12, c13, c14] := by
  match l, h with
  | [c0, c1, c2, c3, c4, c5, c6, c7, c8, c9, c10, c11, c12, c13, c14], _ => exact ⟨c0, c1, c2, c3, c4, c5, c6, c7, c8, c9, c10, c11, c12, c13, c14, rfl⟩
theorem open_intsS {H : Type} {enc : TypeId × Value → H} {w : World} {fuel : Nat} {v : Value} {x : DataW H × List MemPlace} (h : DataW.trod enc Tryz.prog w 0 (fun _ => true) true fuel 36 [v] = some x) (hz : ∀ n ∈ x.1.weights Tryz.prog 36, n ≤ reachBytes) :
    ∃ l : List Int, IsRow w 1 v l.length (iCells l) ∧ l.length ≤ 140737488355328 := by
  obtain ⟨l, h1, h2⟩ := open_rows (fun s => [Value.int .i64 s]) 1 8 Tryz.underlying36 cI (by kernel_rfl) (fun _ => rfl) (by omega) (by omega)
    (fun fuel cs y hy => by
      obtain ⟨s, e0, -, -⟩ := DataW.trod_int Tryz.underlying3 hy
      exact ⟨s, e0⟩) h hz
  have e : l.flatMap (fun s => [Value.int .i64 s]) = iCells l := by
    clear h1 h2
    induction l with
    | nil => rfl
    | cons a r ih => rw [List.flatMap_cons, ih]; rfl
  rw [e] at h1
  exact ⟨l, h1, h2⟩
set_option maxRecDepth 100000 in
theorem open_acc {H : Type} {enc : TypeId × Value → H} {W : World} (fuel : Nat) (cs : List Value) (x : DataW H × List MemPlace) (h : DataW.trod enc Tryz.prog W 0 (fun _ => true) true fuel 38 cs = some x) (hz : ∀ n ∈ x.1.weights Tryz.prog 38, n ≤ reachBytes) :
    ∃ z : Ac, cs = enAc z ∧ OkAc W z := by
  obtain ⟨xs, n, _, rfl, hl, hlen, hf⟩ := DataW.trod_struct Tryz.underlying38 h
  rw [cAc] at hl
  obtain ⟨c0, c1, c2, c3, c4, c5, c6, c7, c8, c9, c10, c11, c12, c13, c14, rfl⟩ := listS15 hl
  obtain ⟨y0, y1, y2, y3, y4, y5, rfl⟩ := listT6 (l := xs) hlen
  have i0 := hf 0 _ rfl
  have i1 := hf 1 _ rfl
  have i2 := hf 2 _ rfl
  have i3 := hf 3 _ rfl
  have i4 := hf 4 _ rfl
  have i5 := hf 5 _ rfl
  simp [cID, cS, cI, cTy, cSlI] at i0 i1 i2 i3 i4 i5
  obtain ⟨kd, e0, -, -⟩ := DataW.trod_int Tryz.underlying3 i0
  obtain ⟨z, e1, hz1⟩ := open_ty _ _ _ i1 (fun m hm => hz m (by
    simp only [DataW.weights, Tryz.underlying38, List.map_cons, List.map_nil, DataW.weightsEach, List.mem_append]
    exact .inr (.inl hm)))
  obtain ⟨nm, e2, -, -⟩ := DataW.trod_string Tryz.underlying9 i2
  obtain ⟨l, hr, hb⟩ := open_intsS i3 (fun m hm => hz m (by
    simp only [DataW.weights, Tryz.underlying38, List.map_cons, List.map_nil, DataW.weightsEach, List.mem_append]
    exact .inr (.inr (.inr (.inl hm)))))
  obtain ⟨a, b, c, e4⟩ := open_id _ _ _ i4
  obtain ⟨i, e5, -, -⟩ := DataW.trod_int Tryz.underlying3 i5
  simp [enT] at e0 e1 e2 e4 e5
  obtain ⟨rfl, rfl, rfl⟩ := e4
  obtain ⟨rfl, rfl, rfl, rfl, rfl, rfl, rfl, rfl⟩ := e1
  subst e0 e2 e5
  obtain ⟨lp, lc, rfl⟩ := hr.form
  exact ⟨⟨kd, z, nm, lp, lc, l, a, b, c, i⟩, rfl, hz1, hr, hb⟩
instance : Inhabited Ac := ⟨⟨0, default, ⟨#[]⟩, none, 0, [], 0, 0, 0, 0⟩⟩
def acCells (l : List Ac) : List Value := l.flatMap enAc
set_option maxRecDepth 100000 in
theorem open_acs {H : Type} {enc : TypeId × Value → H} {w : World} {fuel : Nat} {v : Value} {x : DataW H × List MemPlace} (h : DataW.trod enc Tryz.prog w 0 (fun _ => true) true fuel 22 [v] = some x) (hz : ∀ n ∈ x.1.weights Tryz.prog 22, n ≤ reachBytes) :
    ∃ L : List Ac, IsRow w 15 v L.length (acCells L) ∧ L.length ≤ 140737488355328 ∧ ∀ z ∈ L, OkAc w z :=
  open_rowsP enAc 15 208 Tryz.underlying22 cAc (by kernel_rfl) (fun _ => rfl) (by omega) (by omega) (fun z => OkAc w z) open_acc h hz
set_option maxRecDepth 100000 in
theorem open_ac1 {H : Type} {enc : TypeId × Value → H} {W : World} {b1 : Nat} {v : Value} {d : DataW H} {p : List MemPlace} (hv : Value.okWide Tryz.prog W .any b1 38 v) (h : DataW.Trod enc Tryz.prog W 0 (fun _ => true) true 38 v d p) (hz : ∀ n ∈ d.weights Tryz.prog 38, n ≤ reachBytes) :
    ∃ x : Ac, v = acV x ∧ OkAc W x := by
  obtain ⟨cs, rfl, hsz⟩ := okWide_struct Tryz.underlying38 hv
  obtain ⟨fuel, hf⟩ := h
  obtain ⟨x, e, ho⟩ := open_acc fuel _ (d, p) hf hz
  refine ⟨x, ?_, ho⟩
  have : cs = acA x := by
    have e' : (Value.agg cs).cells.toList = cs.toList := rfl
    rw [e'] at e
    cases cs
    simpa [enAc] using e
  rw [this]
theorem ac_at {w : World} {a : Option Addr} {cap : Nat} {L : List Ac} (h : IsRow w 15 (.slice a L.length cap) L.length (acCells L)) (h0 : 0 < L.length) :
    ∃ b off, a = some ⟨b, off, none⟩ ∧ b < w.heap.size ∧ ∀ (k : Nat) (hk : k < L.length) (j : Nat) (u : Value), (enAc L[k])[j]? = some u → w.cell? ⟨b, off + k * 15 + j, none⟩ = some u := by
  obtain ⟨b, off, cap', hv, hlt, q1, q2, hc⟩ := h.open (by omega)
  simp only [Value.slice.injEq] at hv
  refine ⟨b, off, hv.1, hlt, fun k hk j u hu => ?_⟩
  have hj : j < 15 := (List.getElem?_eq_some_iff.1 hu).1
  have := hc (k * 15 + j) u (by rw [acCells, flatG_get enAc 15 (fun _ => rfl) L k hk j hj]; exact hu)
  rwa [← Nat.add_assoc] at this
end Go.Proofs.YthdbnlpbidkojaaGreatDoor
/- store.copyOf: its walk, as forest.copied's. -/
namespace Go.Proofs.YthdbnlpbidkojaaGreatDoor
open Go.RowKit Go.ChangeMaps

set_option maxRecDepth 100000 in
set_option maxHeartbeats 4000000 in
theorem copyOf_any (t : Ty) (vo va vc : Value) (w : World) (hr : IsTy w t vo va vc) (h1 : t.own.length ≤ 1000) (h2 : t.all.length ≤ 1000) (h3 : t.ch.length ≤ 1000) :
    Calls Tryz.prog 36 #[tyV t vo va vc] w fun e w' => CpT t w e w' := by
  obtain ⟨r1, r2, r3⟩ := hr
  obtain ⟨ao, co, rfl⟩ := r1.form
  obtain ⟨aa, ca, rfl⟩ := r2.form
  obtain ⟨ac, cc, rfl⟩ := r3.form
  obtain ⟨W0, hW0⟩ : ∃ W0, W0 = (w.alloc (.cells (tyA t (.slice ao t.own.length co) (.slice aa t.all.length ca) (.slice ac t.ch.length cc)) 35)).alloc (.cells zTyA 35) := ⟨_, rfl⟩
  have hA : Below w.heap.size w W0 := by rw [hW0]; exact (al_b w _).trans ((al_b _ _).mono (by simp))
  have hz : W0.heap.size = w.heap.size + 2 := by rw [hW0]; simp
  have hn0 : W0.heap[w.heap.size]? = some (.cells (tyA t (.slice ao t.own.length co) (.slice aa t.all.length ca) (.slice ac t.ch.length cc)) 35 (0, 0)) := by
    rw [hW0]
    show ((w.heap.push _).push _)[w.heap.size]? = _
    rw [Array.getElem?_push, if_neg (by simp), Array.getElem?_push, if_pos rfl]
  have hn1 : W0.heap[w.heap.size + 1]? = some (.cells zTyA 35 (0, 0)) := by
    rw [hW0]
    show ((w.heap.push _).push _)[w.heap.size + 1]? = _
    rw [Array.getElem?_push, if_pos (by simp)]
  have HX : Hid (∀ W, Below W0.heap.size W0 W → BxT w.heap.size t (.slice ao t.own.length co) (.slice aa t.all.length ca) (.slice ac t.ch.length cc) W) := fun W h => BxT.of ((h.block _ (by omega)).trans hn0)
  have HZ : Hid (∀ W, Below W0.heap.size W0 W → BxT (w.heap.size + 1) ⟨⟨#[]⟩, ⟨#[]⟩, [], [], [], 0, 0, 0⟩ (.slice none 0 0) (.slice none 0 0) (.slice none 0 0) W) := fun W h => BxT.of ((h.block _ (by omega)).trans hn1)
  have HF0 : Hid (∀ W, Below W0.heap.size W0 W → ∀ j, W.frozen? ⟨w.heap.size, j, none⟩ = false) := fun W h j => Lib.frozen_of_heap ((h.block _ (by omega)).trans hn0) j
  have HF1 : Hid (∀ W, Below W0.heap.size W0 W → ∀ j, W.frozen? ⟨w.heap.size + 1, j, none⟩ = false) := fun W h j => Lib.frozen_of_heap ((h.block _ (by omega)).trans hn1) j
  have HBw : Hid (∀ W, Below W0.heap.size W0 W → Below w.heap.size w W) := fun W h => hA.trans (h.mono hA.size)
  have HC1 : Hid (∀ W, Below W0.heap.size W0 W → Calls Tryz.prog 57 #[.slice ao t.own.length co] W fun e w' => ∃ x y, e = .returned (.slice x t.own.length y) ∧ Hid (w'.ownsRow W0.heap.size 95 3 (.slice x t.own.length y) t.own.length (fCells t.own)) ∧ Below W0.heap.size W0 w' ∧ Below W.heap.size W w') := fun W h => (cloneF_any _ t.own W (r1.below (HBw.out W h)) h1).mono fun e w' ⟨v, he, ho, hb⟩ => by
    obtain ⟨x, y, rfl⟩ := (IsRow.own ho).form
    exact ⟨x, y, he, own_leT ho h.size, h.trans (hb.mono h.size), hb⟩
  have HC2 : Hid (∀ W, Below W0.heap.size W0 W → Calls Tryz.prog 57 #[.slice aa t.all.length ca] W fun e w' => ∃ x y, e = .returned (.slice x t.all.length y) ∧ Hid (w'.ownsRow W0.heap.size 95 3 (.slice x t.all.length y) t.all.length (fCells t.all)) ∧ Below W0.heap.size W0 w' ∧ Below W.heap.size W w') := fun W h => (cloneF_any _ t.all W (r2.below (HBw.out W h)) h2).mono fun e w' ⟨v, he, ho, hb⟩ => by
    obtain ⟨x, y, rfl⟩ := (IsRow.own ho).form
    exact ⟨x, y, he, own_leT ho h.size, h.trans (hb.mono h.size), hb⟩
  have HC3 : Hid (∀ W, Below W0.heap.size W0 W → Calls Tryz.prog 67 #[.slice ac t.ch.length cc] W fun e w' => ∃ x y, e = .returned (.slice x t.ch.length y) ∧ Hid (w'.ownsRow W0.heap.size 9 1 (.slice x t.ch.length y) t.ch.length (sVals t.ch)) ∧ Below W0.heap.size W0 w' ∧ Below W.heap.size W w') := fun W h => (cloneS_any _ t.ch W (r3.below (HBw.out W h)) h3).mono fun e w' ⟨v, he, ho, hb⟩ => by
    obtain ⟨x, y, rfl⟩ := (IsRow.own ho).form
    exact ⟨x, y, he, own_leT ho h.size, h.trans (hb.mono h.size), hb⟩
  have HFin : Hid (∀ w1 w2 w3 x1 y1 x2 y2 x3 y3, Hid (w1.ownsRow W0.heap.size 95 3 (.slice x1 t.own.length y1) t.own.length (fCells t.own)) → Hid (w2.ownsRow W0.heap.size 95 3 (.slice x2 t.all.length y2) t.all.length (fCells t.all)) → Hid (w3.ownsRow W0.heap.size 9 1 (.slice x3 t.ch.length y3) t.ch.length (sVals t.ch)) → Below w1.heap.size w1 w2 → Below w2.heap.size w2 w3 → Below W0.heap.size W0 w3 → CtT w t (((w3.setCell ⟨w.heap.size, 2, none⟩ (.slice x1 t.own.length y1)).setCell ⟨w.heap.size, 3, none⟩ (.slice x2 t.all.length y2)).setCell ⟨w.heap.size, 4, none⟩ (.slice x3 t.ch.length y3))) := fun w1 w2 w3 x1 y1 x2 y2 x3 y3 o1 o2 o3 hb2 hb3 hb => by
    have p1 := own_belowE (own_belowE o1.out hb2) hb3
    have p2 := own_belowE o2.out hb3
    have p3 := o3.out
    rw [hz] at p1 p2 p3
    have oT : OwnTy (w.heap.size + 2) w3 t (.slice x1 t.own.length y1) (.slice x2 t.all.length y2) (.slice x3 t.ch.length y3) := ⟨p1, p2, p3⟩
    refine ⟨x1, y1, x2, y2, x3, y3, ((oT.set (g := w.heap.size) (by omega) 2 _).set (g := w.heap.size) (by omega) 3 _).set (g := w.heap.size) (by omega) 4 _, (((HBw.out _ hb).setCell (Nat.le_refl _) _).setCell (Nat.le_refl _) _).setCell (Nat.le_refl _) _, (HX.out _ hb).set _ _ _, fun j => ?_, (((HZ.out _ hb).far (by omega) 2 _).far (by omega) 3 _).far (by omega) 4 _⟩
    rw [World.frozen?_setCell, World.frozen?_setCell, World.frozen?_setCell]
    exact HF1.out _ hb j
  have HBd : Hid (Below W0.heap.size W0 W0.drew) := (Below.refl _ _).drew
  obtain ⟨⟨a0, a1, a2, a3⟩, a4, a5, a6, a7⟩ := HX.out _ (Below.refl _ _)
  clear r1 r2 r3 hA hn0 hn1 h1 h2 h3
  go_enter Tryz.func36, Tryz.ntmps36
  go_wp2_with fail
  rw [← hW0]
  clear hW0
  go_cut [] (fun wx => CtT w t wx)
  case first =>
    go_region_with (first
      | (go_at_call 57; (with_reducible refine Calls.mono (HC1.out W0.drew HBd.out) ?_); rintro e w1 ⟨x1, y1, rfl, HO1, hb1, -⟩; obtain ⟨⟨-, -, -, b3⟩, b4, -, -, -⟩ := HX.out _ hb1)
      | (go_at_call 57; (with_reducible refine Calls.mono (HC2.out _ hb1) ?_); rintro e w2 ⟨x2, y2, rfl, HO2, hb2, hc2⟩; obtain ⟨-, b4', -, -, -⟩ := HX.out _ hb2)
      | (go_at_call 67; (with_reducible refine Calls.mono (HC3.out _ hb2) ?_); rintro e w3 ⟨x3, y3, rfl, HO3, hb3, hc3⟩; obtain ⟨⟨k0, k1, k2, k3⟩, k4, k5, k6, k7⟩ := HX.out _ hb3; have kf := HF0.out _ hb3))
    all_goals (try go_wp2_with fail)
    all_goals go_meet
    all_goals exact HFin.out _ _ _ _ _ _ _ _ _ HO1 HO2 HO3 hc2 hc3 hb3
  case rest =>
    obtain ⟨x1, y1, x2, y2, x3, y3, HO, HB, HT, HF, HZ0⟩ := hcut
    obtain ⟨⟨c0, c1, c2, c3⟩, c4, c5, c6, c7⟩ := HT.out
    obtain ⟨⟨e0, e1, e2, e3⟩, e4, e5, e6, e7⟩ := HZ0.out
    have f0 := HF.out
    clear HX HZ HF0 HF1 HBw HC1 HC2 HC3 HFin HBd a0 a1 a2 a3 a4 a5 a6 a7 HT HZ0 HF hz
    have HEnd : Hid (∀ u0 u1 u2 u3 u4 u5 u6 u7, CpT t w (.returned (tyV t (.slice x1 t.own.length y1) (.slice x2 t.all.length y2) (.slice x3 t.ch.length y3))) ((((((((wc.setCell ⟨w.heap.size + 1, 0, none⟩ u0).setCell ⟨w.heap.size + 1, 1, none⟩ u1).setCell ⟨w.heap.size + 1, 2, none⟩ u2).setCell ⟨w.heap.size + 1, 3, none⟩ u3).setCell ⟨w.heap.size + 1, 4, none⟩ u4).setCell ⟨w.heap.size + 1, 5, none⟩ u5).setCell ⟨w.heap.size + 1, 6, none⟩ u6).setCell ⟨w.heap.size + 1, 7, none⟩ u7)) := fun u0 u1 u2 u3 u4 u5 u6 u7 =>
      ⟨_, _, _, rfl, (((((((((HO.out.set (g := w.heap.size + 1) (by omega) 0 u0).set (g := w.heap.size + 1) (by omega) 1 u1).set (g := w.heap.size + 1) (by omega) 2 u2).set (g := w.heap.size + 1) (by omega) 3 u3).set (g := w.heap.size + 1) (by omega) 4 u4).set (g := w.heap.size + 1) (by omega) 5 u5).set (g := w.heap.size + 1) (by omega) 6 u6).set (g := w.heap.size + 1) (by omega) 7 u7).le (by omega)), (((((((HB.out.setCell (p := ⟨w.heap.size + 1, 0, none⟩) (Nat.le_add_right _ 1) u0).setCell (p := ⟨w.heap.size + 1, 1, none⟩) (Nat.le_add_right _ 1) u1).setCell (p := ⟨w.heap.size + 1, 2, none⟩) (Nat.le_add_right _ 1) u2).setCell (p := ⟨w.heap.size + 1, 3, none⟩) (Nat.le_add_right _ 1) u3).setCell (p := ⟨w.heap.size + 1, 4, none⟩) (Nat.le_add_right _ 1) u4).setCell (p := ⟨w.heap.size + 1, 5, none⟩) (Nat.le_add_right _ 1) u5).setCell (p := ⟨w.heap.size + 1, 6, none⟩) (Nat.le_add_right _ 1) u6).setCell (p := ⟨w.heap.size + 1, 7, none⟩) (Nat.le_add_right _ 1) u7⟩
    go_wp2_with fail
    try simp only [Exit.inBlock, Exit.then]
    refine bodyPost_ret (v := tyV t (.slice x1 t.own.length y1) (.slice x2 t.all.length y2) (.slice x3 t.ch.length y3)) ?_ rfl (HEnd.out _ _ _ _ _ _ _ _)
    rw [results_c1 rfl]; go_simp
end Go.Proofs.YthdbnlpbidkojaaGreatDoor
/- A store's map, from folded names to what is kept, as it lies in memory. -/
namespace Go.Proofs.YthdbnlpbidkojaaGreatDoor
open Go.RowKit Go.ChangeMaps

theorem ba_beq (a b : ByteArray) : (a == b) = decide (a = b) := by
  obtain ⟨x⟩ := a
  obtain ⟨y⟩ := b
  show (x == y) = _
  rw [Bool.eq_iff_iff]
  simp
abbrev ptS (o : Option Nat) : Value := .pointer (o.map fun g => ⟨g, 0, none⟩)
abbrev kS (p : ByteArray × Nat) : Value × Value := (.string p.1, ptS (some p.2))
/-- The block that is kept at a key. -/
def lkS (E : List (ByteArray × Nat)) (k : ByteArray) : Option Nat := (E.find? fun p => decide (p.1 = k)).map (·.2)
/-- The entries with one of them set. -/
def stS (E : List (ByteArray × Nat)) (k : ByteArray) (g : Nat) : List (ByteArray × Nat) := if lkS E k = none then E ++ [(k, g)] else E.map fun p => if p.1 = k then (k, g) else p
/-- A map's block holds these entries, in this order; no key twice. -/
def MapS (w : World) (m : Nat) (E : List (ByteArray × Nat)) : Prop := (∃ es clock, w.heap[m]? = some (.map es clock) ∧ es.toList.map (fun e => (e.key, e.val)) = E.map kS ∧ MapKept.Stamped es clock) ∧ (E.map (·.1)).Nodup
theorem MapS.keep {w w' : World} {m : Nat} {E : List (ByteArray × Nat)} (h : MapS w m E) (hk : w'.heap[m]? = w.heap[m]?) : MapS w' m E := by
  obtain ⟨⟨es, c, hb, r⟩, hn⟩ := h
  exact ⟨⟨es, c, hk.trans hb, r⟩, hn⟩
theorem MapS.lt {w : World} {m : Nat} {E : List (ByteArray × Nat)} (h : MapS w m E) : m < w.heap.size := by
  obtain ⟨⟨es, c, hb, r⟩, hn⟩ := h
  exact (Array.getElem?_eq_some_iff.1 hb).1
theorem MapS.new {w : World} {m : Nat} (h : w.heap[m]? = some (.map #[] 0)) : MapS w m [] := ⟨⟨_, _, h, rfl, MapKept.stamped_empty 0⟩, List.nodup_nil⟩
theorem lkS_none {E : List (ByteArray × Nat)} {k : ByteArray} : lkS E k = none ↔ ∀ p ∈ E, p.1 ≠ k := by
  unfold lkS
  rw [Option.map_eq_none_iff, List.find?_eq_none]
  exact ⟨fun h p hp e => h p hp (by simp [e]), fun h p hp e => h p hp (by simpa using e)⟩
theorem lkS_at : ∀ {E : List (ByteArray × Nat)} {j : Nat} {k : ByteArray} {g : Nat}, E[j]? = some (k, g) → (E.map (·.1)).Nodup → lkS E k = some g
  | [], j, k, g, h, _ => by simp at h
  | p :: E, 0, k, g, h, _ => by
    simp at h
    subst h
    simp [lkS]
  | p :: E, j + 1, k, g, h, hn => by
    have h' : E[j]? = some (k, g) := by simpa using h
    rw [List.map_cons, List.nodup_cons] at hn
    have hp : p.1 ≠ k := fun e => hn.1 (by rw [e]; exact List.mem_map.2 ⟨(k, g), List.mem_of_getElem? h', rfl⟩)
    have hb : decide (p.1 = k) = false := by simp [hp]
    have := lkS_at h' hn.2
    unfold lkS at this ⊢
    rw [List.find?_cons, hb]
    exact this
theorem find_strS (k : ByteArray) : ∀ (l : List MapEntry) (E : List (ByteArray × Nat)) (i : Nat), l.map (fun e => (e.key, e.val)) = E.map kS →
    (lkS E k = none ∧ Instr.findNow .string (.string k) l i = some none) ∨
    ∃ j g, E[j]? = some (k, g) ∧ Instr.findNow .string (.string k) l i = some (some (i + j, ptS (some g))) ∧ j < l.length
  | [], E, i, h => by
    cases E with
    | nil => exact .inl ⟨rfl, rfl⟩
    | cons p E => simp at h
  | e :: l, E, i, h => by
    cases E with
    | nil => simp at h
    | cons p E =>
      rw [List.map_cons, List.map_cons, List.cons.injEq] at h
      obtain ⟨h1, h2⟩ := h
      obtain ⟨hk, hv⟩ := Prod.mk.inj h1
      by_cases hp : p.1 = k
      · refine .inr ⟨0, p.2, by simp [← hp], ?_, by simp⟩
        unfold Instr.findNow
        rw [hk, hv]
        simp [Instr.sameNow, hp, ba_beq]
      · have hb : decide (p.1 = k) = false := by simp [hp]
        have hn : ∀ l', Instr.findNow .string (.string k) (e :: l') i = Instr.findNow .string (.string k) l' (i + 1) := fun l' => by
          show (match Instr.sameNow .string (.string k) e.key with | some true => _ | some false => _ | none => _) = _
          rw [hk]
          have : (k == p.1) = false := by rw [ba_beq]; exact decide_eq_false fun e => hp e.symm
          simp [Instr.sameNow, this]
        rcases find_strS k l E (i + 1) h2 with ⟨a1, a2⟩ | ⟨j, g, a1, a2, a3⟩
        · refine .inl ⟨?_, by rw [hn]; exact a2⟩
          unfold lkS at a1 ⊢
          rw [List.find?_cons, hb]
          exact a1
        · exact .inr ⟨j + 1, g, by simpa using a1, by rw [hn, a2, show i + 1 + j = i + (j + 1) by omega], by simpa using a3⟩
theorem und_mapS : Tryz.prog.underlying 63 = some (.map 9 86) := Tryz.underlying63
theorem und_strS : Tryz.prog.underlying 9 = some .string := Tryz.underlying9
/-- v := m[k]. -/
theorem MapS.look {w : World} {m : Nat} {E : List (ByteArray × Nat)} (h : MapS w m E) (k : ByteArray) :
    (Instr.lookup 63 (.map (some m)) (.string k) false).run Tryz.prog w = .ok (ptS (lkS E k)) w := by
  obtain ⟨⟨es, c, hb, hr, hst⟩, hn⟩ := h
  have hc := fun e n => MapKept.run_checkKey (P := Tryz.prog) (w := w) (k := .string k) und_strS trivial e n
  rcases find_strS k es.toList E 0 hr with ⟨a1, a2⟩ | ⟨j, g, a1, a2, -⟩
  · rw [a1]
    simp [Instr.lookup, run_underlying und_mapS, MapKept.run_getObj_map hb, hc, MapKept.run_findKey und_strS a2, Result.andThen]
  · rw [lkS_at a1 hn]
    simp [Instr.lookup, run_underlying und_mapS, MapKept.run_getObj_map hb, hc, MapKept.run_findKey und_strS a2, Result.andThen]
theorem MapS.len {w : World} {m : Nat} {E : List (ByteArray × Nat)} (h : MapS w m E) (ty : TypeId) : (Builtin.len_ #[63] ty #[.map (some m)]).run Tryz.prog w = .ok (.int .i64 E.length) w := by
  obtain ⟨⟨es, c, hb, hr, hst⟩, hn⟩ := h
  have hl : es.size = E.length := by
    have := congrArg List.length hr
    simpa using this
  simp [Builtin.len_, run_underlying und_mapS, MapKept.run_getObj_map hb, Result.andThen, hl, goInt]
theorem stS_keys (E : List (ByteArray × Nat)) (k : ByteArray) (g : Nat) (h : lkS E k ≠ none) : (stS E k g).map (·.1) = E.map (·.1) := by
  unfold stS
  rw [if_neg h, List.map_map]
  refine List.map_congr_left fun p _ => ?_
  show (if p.1 = k then (k, g) else p).1 = p.1
  split
  · next e => exact e.symm
  · rfl
theorem stS_nodup {E : List (ByteArray × Nat)} (k : ByteArray) (g : Nat) (hn : (E.map (·.1)).Nodup) : ((stS E k g).map (·.1)).Nodup := by
  by_cases h : lkS E k = none
  · unfold stS
    rw [if_pos h, List.map_append, List.nodup_append]
    refine ⟨hn, by simp, ?_⟩
    intro a ha b hb e
    obtain ⟨p, hp, rfl⟩ := List.mem_map.1 ha
    simp at hb
    exact lkS_none.1 h p hp (e.trans hb)
  · rw [stS_keys E k g h]
    exact hn
/-- m[k] = v. -/
theorem MapS.put {w : World} {m : Nat} {E : List (ByteArray × Nat)} (h : MapS w m E) (k : ByteArray) (g : Nat) :
    ∃ w', (Instr.mapUpdate 63 (.map (some m)) (.string k) (ptS (some g))).run Tryz.prog w = .ok () w' ∧ MapS w' m (stS E k g) ∧ w.grownBy w' (some m) := by
  obtain ⟨⟨es, c, hb, hr, hst⟩, hn⟩ := h
  have hc := fun e n => MapKept.run_checkKey (P := Tryz.prog) (w := w) (k := .string k) und_strS trivial e n
  rcases find_strS k es.toList E 0 hr with ⟨a1, a2⟩ | ⟨j, g0, a1, a2, a3⟩
  · refine ⟨setBlock w m (.map (es.push ⟨.string k, ptS (some g), c⟩) (c + 1)), ?_, ⟨⟨_, _, heap_setBlock_same hb _, ?_, MapKept.stamped_push hst fun x hx e => ?_⟩, stS_nodup k g hn⟩, ⟨rfl, rfl, rfl, by simp [setBlock], fun i _ hi => heap_setBlock_other hb _ (fun e => hi (by rw [e]))⟩⟩
    · simp [Instr.mapUpdate, run_underlying und_mapS, MapKept.run_getObj_map hb, hc, MapKept.run_findKey und_strS a2, MapKept.run_setObj_map _ hb, Result.andThen, setBlock]
    · unfold stS
      rw [if_pos a1, Array.toList_push, List.map_append, hr, List.map_append]; rfl
    · have hm : (x.key, x.val) ∈ E.map kS := by rw [← hr]; exact List.mem_map.2 ⟨x, hx, rfl⟩
      obtain ⟨p, hp, hq⟩ := List.mem_map.1 hm
      have h1 : Value.string p.1 = x.key := (Prod.mk.inj hq).1
      rw [e] at h1
      exact lkS_none.1 a1 p hp (Value.string.inj h1)
  · have hj : j < es.size := by simpa using a3
    have hkey : es[j].key = .string k := by
      have h1 : (es.toList.map fun e => (e.key, e.val))[j]? = (E.map kS)[j]? := by rw [hr]
      rw [List.getElem?_map, List.getElem?_map, a1, List.getElem?_eq_getElem a3] at h1
      simp at h1
      exact h1.1
    refine ⟨setBlock w m (.map (es.modify j fun e => { e with key := .string k, val := ptS (some g) }) c), ?_, ⟨⟨_, _, heap_setBlock_same hb _, ?_, MapKept.stamped_modify hst _ _ (fun _ _ => rfl) fun e _ he => ?_⟩, stS_nodup k g hn⟩, ⟨rfl, rfl, rfl, by simp [setBlock], fun i _ hi => heap_setBlock_other hb _ (fun e => hi (by rw [e]))⟩⟩
    · simp [Instr.mapUpdate, run_underlying und_mapS, MapKept.run_getObj_map hb, hc, MapKept.run_findKey und_strS a2, MapKept.run_setObj_map _ hb, Result.andThen, setBlock, Instr.keyThatStays, Instr.sameBits, hj, hkey, ba_beq]
    · have hne : lkS E k ≠ none := by rw [lkS_at a1 hn]; simp
      unfold stS
      rw [if_neg hne]
      refine List.ext_getElem? fun i => ?_
      have h1 : (es.toList.map fun e => (e.key, e.val))[i]? = (E.map kS)[i]? := by rw [hr]
      rw [List.getElem?_map, List.getElem?_map] at h1
      rw [List.getElem?_map, List.getElem?_map, List.getElem?_map, Array.getElem?_toList, Array.getElem?_modify]
      rw [Array.getElem?_toList] at h1
      by_cases hij : j = i
      · subst hij
        rw [if_pos rfl, a1, Array.getElem?_eq_getElem hj]
        simp
      · rw [if_neg hij]
        cases hE : E[i]? with
        | none => rw [hE] at h1; rw [h1]; rfl
        | some p =>
          rw [hE] at h1
          have hp : p.1 ≠ k := fun e => by
            have h3 := List.getElem?_eq_some_iff.1 hE
            have h4 := List.getElem?_eq_some_iff.1 a1
            obtain ⟨l3, e3⟩ := h3
            obtain ⟨l4, e4⟩ := h4
            exact hij ((List.getElem_inj (h₀ := by simpa using l4) (h₁ := by simpa using l3) hn).1 (by simp [e3, e4, e]))
          rw [h1]
          simp [hp]
    · rw [Array.getElem?_eq_getElem hj] at he
      obtain rfl := Option.some.inj he
      exact hkey.symm
end Go.Proofs.YthdbnlpbidkojaaGreatDoor
