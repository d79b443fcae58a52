/- FilterMore: the law's walk. -/
import Derived.Test.YtbekpemidpngaaaGreatDoorZk25
import Derived.Deep.RegionHeld3
namespace Go.Proofs.YtbekpemidpngaaaGreatDoor
open Go.RowKit

theorem info_at : (Tryz.prog.info? 56).map (fun i => (i.zero, i.size, i.bytes)) = some (some (.agg #[.string ⟨#[]⟩, .int .i64 0, .int .i64 0, .string ⟨#[]⟩]), 4, 48) := by kernel_rfl
theorem row_a1 {w : World} {g : Nat} {n : ByteArray} {k v : Int} {s : ByteArray} {ty : TypeId} {z : Nat × Nat} (h : w.heap[g]? = some (.cells #[.string n, .int .i64 k, .int .i64 v, .string s] ty z)) : IsRow w 4 (.slice (some ⟨g, 0, none⟩) 1 1) 1 (aCells [⟨n, k, v, s⟩]) := by
  refine ⟨rfl, .inr ⟨g, 0, 1, rfl, (Array.getElem?_eq_some_iff.1 h).1, Nat.le_refl _, by decide, fun j u hu => ?_⟩⟩
  rw [Nat.zero_add, Lib.cell_of_heap h]
  have e : aCells [⟨n, k, v, s⟩] = [.string n, .int .i64 k, .int .i64 v, .string s] := rfl
  rw [e] at hu
  rw [← hu]
  simp
theorem row_a2 {w : World} {g : Nat} {n : ByteArray} {k v : Int} {s : ByteArray} {n' : ByteArray} {k' v' : Int} {s' : ByteArray} {ty : TypeId} {z : Nat × Nat} (h : w.heap[g]? = some (.cells #[.string n, .int .i64 k, .int .i64 v, .string s, .string n', .int .i64 k', .int .i64 v', .string s'] ty z)) : IsRow w 4 (.slice (some ⟨g, 0, none⟩) 2 2) 2 (aCells [⟨n, k, v, s⟩, ⟨n', k', v', s'⟩]) := by
  refine ⟨rfl, .inr ⟨g, 0, 2, rfl, (Array.getElem?_eq_some_iff.1 h).1, Nat.le_refl _, by decide, fun j u hu => ?_⟩⟩
  rw [Nat.zero_add, Lib.cell_of_heap h]
  have e : aCells [⟨n, k, v, s⟩, ⟨n', k', v', s'⟩] = [.string n, .int .i64 k, .int .i64 v, .string s, .string n', .int .i64 k', .int .i64 v', .string s'] := rfl
  rw [e] at hu
  rw [← hu]
  simp
/-- The row that grows: attributes up to a place, the one more among them. -/
def midA (A : List At) (x : At) (j : Nat) : Option Nat → List At
  | none => A.take j
  | some i => A.take i ++ x :: (A.drop i).take (j - i)
def isS : Option Nat → Bool
  | none => false
  | some _ => true
def MidOk (A : List At) (x : At) (j : Nat) : Option Nat → Prop
  | none => ∀ k (h : k < A.length), k < j → chkA [A[k], x] = true
  | some i => i < j ∧ (∀ k (h : k < A.length), k < i → chkA [A[k], x] = true) ∧ ∀ h : i < A.length, chkA [A[i], x] = false
theorem mid_none {A : List At} {x : At} {j : Nat} (h : j < A.length) : midA A x (j + 1) none = midA A x j none ++ [A[j]] := by
  show A.take (j + 1) = A.take j ++ [A[j]]
  exact List.take_succ_eq_append_getElem h
theorem mid_some {A : List At} {x : At} {i j : Nat} (h : j < A.length) (hi : i < j) : midA A x (j + 1) (some i) = midA A x j (some i) ++ [A[j]] := by
  show A.take i ++ x :: (A.drop i).take (j + 1 - i) = (A.take i ++ x :: (A.drop i).take (j - i)) ++ [A[j]]
  have e : j + 1 - i = (j - i) + 1 := by omega
  have e2 : i + (j - i) = j := by omega
  rw [e, List.take_succ_eq_append_getElem (by rw [List.length_drop]; omega), List.getElem_drop, List.append_assoc, List.cons_append]
  simp only [e2]
theorem mid_put {A : List At} {x : At} {j : Nat} (h : j < A.length) : midA A x (j + 1) (some j) = (midA A x j none ++ [x]) ++ [A[j]] := by
  show A.take j ++ x :: (A.drop j).take (j + 1 - j) = (A.take j ++ [x]) ++ [A[j]]
  have e : j + 1 - j = 1 := by omega
  rw [e, List.drop_eq_getElem_cons h]
  simp only [List.take_succ_cons, List.take_zero, List.append_assoc, List.cons_append, List.nil_append]
theorem mid_len {A : List At} {x : At} {j : Nat} (q : Option Nat) : (midA A x j q).length ≤ 2 * A.length + 1 := by
  cases q with
  | none => show (A.take j).length ≤ _; rw [List.length_take]; omega
  | some i => show (A.take i ++ x :: (A.drop i).take (j - i)).length ≤ _; rw [List.length_append, List.length_cons, List.length_take, List.length_take, List.length_drop]; omega
theorem aC_app (l m : List At) : aCells (l ++ m) = aCells l ++ aCells m := by simp [aCells]
theorem aC_one (x : At) : aCells [x] = enA x := by simp [aCells]
/-- What the loop has gathered behind its last round, and how it stands in its place. -/
theorem mid_end {A : List At} {x : At} (hM : MidOk A x A.length none) : midA A x A.length none ++ [x] = A.take A.length ++ x :: A.drop A.length ∧ (∀ k (h : k < A.length), k < A.length → chkA [A[k], x] = true) ∧ ∀ h : A.length < A.length, chkA [A[A.length]'h, x] = false := by
  refine ⟨?_, hM, fun h => absurd h (Nat.lt_irrefl _)⟩
  show A.take A.length ++ [x] = _
  rw [List.drop_length]
theorem mid_end2 {A : List At} {x : At} {i : Nat} : midA A x A.length (some i) = A.take i ++ x :: A.drop i := by
  show A.take i ++ x :: (A.drop i).take (A.length - i) = _
  have e : (A.drop i).take (A.length - i) = A.drop i := List.take_of_length_le (by rw [List.length_drop]; omega)
  rw [e]
theorem nmA_more {A : List At} {x : At} (i : Nat) (h1 : NmA A) (h2 : NmA [x]) : NmA (A.take i ++ x :: A.drop i) := by
  intro y hy
  rcases List.mem_append.1 hy with h | h
  · exact h1 y (List.mem_of_mem_take h)
  · rcases List.mem_cons.1 h with rfl | h
    · exact h2 _ (by simp)
    · exact h1 y (List.mem_of_mem_drop h)
theorem vOf_form (G : Option At) : ∃ a b c, vOf G = .agg #[.int .i64 a, .int .i64 b, .string c] := by
  cases G with
  | none => exact ⟨0, 0, ⟨#[]⟩, rfl⟩
  | some z => exact ⟨z.k, z.v, z.s, rfl⟩
/-- Two attributes' cells, as the held region reads them. -/
def Bx8 (p : Nat) (xn : ByteArray) (xk xv : Int) (xs : ByteArray) (q o : Nat) (an : ByteArray) (ak av : Int) (az : ByteArray) (w : World) : Prop := (w.cell? ⟨p, 0, none⟩ = some (.string xn) ∧ w.cell? ⟨p, 1, none⟩ = some (.int .i64 xk) ∧ w.cell? ⟨p, 2, none⟩ = some (.int .i64 xv) ∧ w.cell? ⟨p, 3, none⟩ = some (.string xs)) ∧ w.cell? ⟨q, o, none⟩ = some (.string an) ∧ w.cell? ⟨q, o + 1, none⟩ = some (.int .i64 ak) ∧ w.cell? ⟨q, o + 2, none⟩ = some (.int .i64 av) ∧ w.cell? ⟨q, o + 3, none⟩ = some (.string az)
/-- An attribute's cells and a name. -/
def Bx5 (p : Nat) (xn : ByteArray) (xk xv : Int) (xs : ByteArray) (q o : Nat) (n : ByteArray) (w : World) : Prop := (w.cell? ⟨p, 0, none⟩ = some (.string xn) ∧ w.cell? ⟨p, 1, none⟩ = some (.int .i64 xk) ∧ w.cell? ⟨p, 2, none⟩ = some (.int .i64 xv) ∧ w.cell? ⟨p, 3, none⟩ = some (.string xs)) ∧ w.cell? ⟨q, o, none⟩ = some (.string n)
set_option maxRecDepth 100000 in
set_option maxHeartbeats 8000000 in
theorem filterMore_walk (u1 : Value) (F : List PR) (u3 : Value) (A : List At) (x : At) (w : World) (hf : IsFl w u1 F) (hfl : F.length ≤ 140737488355328) (hfL : ∀ x ∈ F, x.y.l.length ≤ 140737488355328) (ha : IsRow w 4 u3 A.length (aCells A)) (hal : A.length ≤ 140737488355328) (hW : W8 w) :
    Calls Tryz.prog 6 #[u1, u3, .agg (enA x).toArray] w fun e w' => e = .returned (.bool true) ∧ Below w.heap.size w w' := by
  obtain ⟨a1, k1, rfl⟩ := hf.1.form
  obtain ⟨a3, k3, rfl⟩ := ha.form
  obtain ⟨D, hD⟩ : ∃ D, F.map (·.y) = D := ⟨_, rfl⟩
  have hDl : D.length = F.length := by rw [← hD, List.length_map]
  have HFew1 : Hid (∀ W, Below w.heap.size w W → Calls Tryz.prog 7 #[.slice a1 F.length k1] W fun e w' => e = .returned (.bool (few8 D)) ∧ w' = W) := fun W hb => by rw [← hD]; exact few8_any _ F W (hf.below hb) hfl hfL
  have HFewA : Hid (∀ W, Below w.heap.size w W → Calls Tryz.prog 18 #[.slice a3 A.length k3] W fun e w' => e = .returned (.bool (fewA A)) ∧ w' = W) := fun W hb => fewA_any _ A W (ha.below hb) hal
  have HFewX : Hid (∀ W u, IsRow W 4 u 1 (aCells [x]) → Calls Tryz.prog 18 #[u] W fun e w' => e = .returned (.bool (fewA [x])) ∧ w' = W) := fun W u h => fewA_any _ [x] W h (by simp)
  have HAw : Hid (∀ W, Below w.heap.size w W → Calls Tryz.prog 9 #[] W fun e w' => e = .returned (.bool true) ∧ Below w.heap.size w w') := fun W hb => (awake8_any W (hW.below hb)).mono (by rintro e w' ⟨rfl, h⟩; exact ⟨rfl, hb.trans (h.mono hb.size)⟩)
  have HF : Hid (∀ W, Below w.heap.size w W → IsFl W (.slice a1 F.length k1) F) := fun W hb => hf.below hb
  have HA : Hid (∀ W, Below w.heap.size w W → IsRow W 4 (.slice a3 A.length k3) A.length (aCells A)) := fun W hb => ha.below hb
  have HW : Hid (∀ W, Below w.heap.size w W → W8 W) := fun W hb => hW.below hb
  obtain ⟨X1, hX1⟩ : ∃ X, Hid (few8 D = X) := ⟨_, rfl⟩
  obtain ⟨X2, hX2⟩ : ∃ X, Hid (fewA A = X) := ⟨_, rfl⟩
  obtain ⟨X3, hX3⟩ : ∃ X, Hid (fewA [x] = X) := ⟨_, rfl⟩
  rw [hX1.out] at HFew1
  rw [hX2.out] at HFewA
  rw [hX3.out] at HFewX
  have HDl : Hid (D.length = F.length) := hDl
  have HD : Hid (F.map (·.y) = D) := hD
  clear hf ha hW hDl hD hfL
  obtain ⟨xn, xk, xv, xs⟩ := x
  show Calls _ _ #[_, _, .agg #[.string xn, .int .i64 xk, .int .i64 xv, .string xs]] _ _
  obtain ⟨w1, hw1⟩ : ∃ w1, w1 = w.alloc (.cells #[.string xn, .int .i64 xk, .int .i64 xv, .string xs] 56) := ⟨_, rfl⟩
  have B1 : Hid (Below w.heap.size w w1) := by show Below _ _ _; rw [hw1]; exact al_b _ _
  have hn1 : w1.heap[w.heap.size]? = some (.cells #[.string xn, .int .i64 xk, .int .i64 xv, .string xs] 56 (0, 0)) := by rw [hw1]; exact new_at _ _
  have C1 : Hid (∀ W, Below w1.heap.size w1 W → W.heap[w.heap.size]? = some (.cells #[.string xn, .int .i64 xk, .int .i64 xv, .string xs] 56 (0, 0))) := fun W h => (h.block _ (Array.getElem?_eq_some_iff.1 hn1).1).trans hn1
  clear hn1
  go_enter Tryz.func6, Tryz.ntmps6
  go_wp2_with fail
  rw [← hw1]
  clear hw1
  refine (HFew1.out _ B1.out).mono ?_
  rintro e w1 ⟨rfl, rfl⟩
  clear HFew1
  cases X1 with
  | false =>
    go_wp2_with fail
    refine (HAw.out _ B1.out).mono ?_
    rintro e w9 ⟨rfl, hb⟩
    have HB9 : Hid (Below w.heap.size w w9) := hb
    clear hb
    go_wp2
    go_ret
    exact ⟨rfl, HB9.out⟩
  | true =>
  go_wp2_with fail
  refine (HFewA.out _ B1.out).mono ?_
  rintro e w1 ⟨rfl, rfl⟩
  clear HFewA
  cases X2 with
  | false =>
    go_wp2_with fail
    refine (HAw.out _ B1.out).mono ?_
    rintro e w9 ⟨rfl, hb⟩
    have HB9 : Hid (Below w.heap.size w w9) := hb
    clear hb
    go_wp2
    go_ret
    exact ⟨rfl, HB9.out⟩
  | true =>
  have hk := C1.out w1 (Below.refl _ _)
  have c1_0 : w1.cell? ⟨w.heap.size, 0, none⟩ = some (.string xn) := by rw [Lib.cell_of_heap hk]; rfl
  have c1_1 : w1.cell? ⟨w.heap.size, 1, none⟩ = some (.int .i64 xk) := by rw [Lib.cell_of_heap hk]; rfl
  have c1_2 : w1.cell? ⟨w.heap.size, 2, none⟩ = some (.int .i64 xv) := by rw [Lib.cell_of_heap hk]; rfl
  have c1_3 : w1.cell? ⟨w.heap.size, 3, none⟩ = some (.string xs) := by rw [Lib.cell_of_heap hk]; rfl
  clear hk
  obtain ⟨w2, hw2⟩ : ∃ w2, w2 = w1.alloc (.cells #[.string xn, .int .i64 xk, .int .i64 xv, .string xs] 56) := ⟨_, rfl⟩
  have B2 : Hid (Below w1.heap.size w1 w2) := by show Below _ _ _; rw [hw2]; exact al_b _ _
  have hn2 : w2.heap[w1.heap.size]? = some (.cells #[.string xn, .int .i64 xk, .int .i64 xv, .string xs] 56 (0, 0)) := by rw [hw2]; exact new_at _ _
  have C2 : Hid (∀ W, Below w2.heap.size w2 W → W.heap[w1.heap.size]? = some (.cells #[.string xn, .int .i64 xk, .int .i64 xv, .string xs] 56 (0, 0))) := fun W h => (h.block _ (Array.getElem?_eq_some_iff.1 hn2).1).trans hn2
  clear hn2
  have hr2 : Hid (IsRow w2 4 (.slice (some ⟨w1.heap.size, 0, none⟩) 1 1) 1 (aCells [(⟨xn, xk, xv, xs⟩ : At)])) := row_a1 (C2.out _ (Below.refl _ _))
  go_wp2_with fail
  rw [← hw2]
  clear hw2
  clear c1_0 c1_1 c1_2 c1_3
  refine (HFewX.out _ _ hr2.out).mono ?_
  rintro e w2 ⟨rfl, rfl⟩
  clear HFewX hr2
  cases X3 with
  | false =>
    go_wp2_with fail
    refine (HAw.out _ (bT B1.out B2.out)).mono ?_
    rintro e w9 ⟨rfl, hb⟩
    have HB9 : Hid (Below w.heap.size w w9) := hb
    clear hb
    go_wp2
    go_ret
    exact ⟨rfl, HB9.out⟩
  | true =>
  have hd1 := few8_nm hX1.out
  have hd2 := fewA_nm hX2.out
  have hd3 := fewA_nm hX3.out
  have HN1 : Hid (∀ y ∈ D, NmP y) := hd1.2
  have HN2 : Hid (NmA A) := hd2.2
  have HN3 : Hid (NmA [(⟨xn, xk, xv, xs⟩ : At)]) := hd3.2
  have hL1 : F.length ≤ 21 := by rw [← HDl.out]; exact hd1.1
  have hL2 : A.length ≤ 41 := hd2.1
  clear hd1 hd2 hd3 hX1 hX2 hX3 hfl hal
  have HAt : Hid (∀ W, Below w.heap.size w W → ∀ u l, IsRow W 4 u l.length (aCells l) → l.length ≤ 1000 → NmA l → Calls Tryz.prog 24 #[u] W fun e w' => e = .returned (.bool (chkA l)) ∧ Below W.heap.size W w') := fun W hb u l hr hl hn => attrs_any u l W hr (by omega) hn (HW.out W hb).f.u (HW.out W hb).m
  have HGt : Hid (∀ W, Below w.heap.size w W → ∀ u l (s : ByteArray), IsRow W 4 u l.length (aCells l) → l.length ≤ 1000 → NmA l → s.size ≤ 1000000 → Calls Tryz.prog 25 #[u, .string s] W fun e w' => e = .returned (.tuple #[vOf (getA l s), .bool (getA l s).isSome]) ∧ Below W.heap.size W w') := fun W hb u l s hr hl hn hs => get_any u l s W hr (by omega) hn hs (HW.out W hb).f.u
  have HLt : Hid (∀ W, Below w.heap.size w W → ∀ u l, IsRow W 4 u l.length (aCells l) → l.length ≤ 1000 → NmA l → Calls Tryz.prog 22 #[.slice a1 F.length k1, u] W fun e w' => e = .returned (.bool (letsB D l)) ∧ Below W.heap.size W w') := fun W hb u l hr hl hn => lets_any _ F D u l W (HF.out W hb) HD.out (by omega) HN1.out hr (by omega) hn (HW.out W hb).f.u (HW.out W hb).m
  obtain ⟨Y1, hY1⟩ : ∃ X, Hid (chkA A = X) := ⟨_, rfl⟩
  obtain ⟨Y2, hY2⟩ : ∃ X, Hid (chkA [(⟨xn, xk, xv, xs⟩ : At)] = X) := ⟨_, rfl⟩
  have HC1 : Hid (∀ W, Below w.heap.size w W → Calls Tryz.prog 24 #[.slice a3 A.length k3] W fun e w' => e = .returned (.bool Y1) ∧ Below W.heap.size W w') := fun W hb => by
    have h0 := HAt.out W hb _ A (HA.out W hb) (by omega) HN2.out
    rw [hY1.out] at h0
    exact h0
  have HC2 : Hid (∀ W, Below w.heap.size w W → ∀ u, IsRow W 4 u 1 (aCells [(⟨xn, xk, xv, xs⟩ : At)]) → Calls Tryz.prog 24 #[u] W fun e w' => e = .returned (.bool Y2) ∧ Below W.heap.size W w') := fun W hb u hr => by
    have h0 := HAt.out W hb _ [(⟨xn, xk, xv, xs⟩ : At)] hr (by simp) HN3.out
    rw [hY2.out] at h0
    exact h0
  go_wp2_with fail
  refine (HC1.out _ (bT B1.out B2.out)).mono ?_
  rintro e w3 ⟨rfl, hb⟩
  have B3 : Hid (Below w2.heap.size w2 w3) := hb
  clear hb HC1
  cases Y1 with
  | false =>
    go_wp2_with fail
    refine (HAw.out _ (bT (bT B1.out B2.out) B3.out)).mono ?_
    rintro e w9 ⟨rfl, hb⟩
    have HB9 : Hid (Below w.heap.size w w9) := hb
    clear hb
    go_wp2
    go_ret
    exact ⟨rfl, HB9.out⟩
  | true =>
  have hk := C1.out w3 (bT B2.out B3.out)
  have c1_0 : w3.cell? ⟨w.heap.size, 0, none⟩ = some (.string xn) := by rw [Lib.cell_of_heap hk]; rfl
  have c1_1 : w3.cell? ⟨w.heap.size, 1, none⟩ = some (.int .i64 xk) := by rw [Lib.cell_of_heap hk]; rfl
  have c1_2 : w3.cell? ⟨w.heap.size, 2, none⟩ = some (.int .i64 xv) := by rw [Lib.cell_of_heap hk]; rfl
  have c1_3 : w3.cell? ⟨w.heap.size, 3, none⟩ = some (.string xs) := by rw [Lib.cell_of_heap hk]; rfl
  clear hk
  obtain ⟨w4, hw4⟩ : ∃ w4, w4 = w3.alloc (.cells #[.string xn, .int .i64 xk, .int .i64 xv, .string xs] 56) := ⟨_, rfl⟩
  have B4 : Hid (Below w3.heap.size w3 w4) := by show Below _ _ _; rw [hw4]; exact al_b _ _
  have hn4 : w4.heap[w3.heap.size]? = some (.cells #[.string xn, .int .i64 xk, .int .i64 xv, .string xs] 56 (0, 0)) := by rw [hw4]; exact new_at _ _
  have C4 : Hid (∀ W, Below w4.heap.size w4 W → W.heap[w3.heap.size]? = some (.cells #[.string xn, .int .i64 xk, .int .i64 xv, .string xs] 56 (0, 0))) := fun W h => (h.block _ (Array.getElem?_eq_some_iff.1 hn4).1).trans hn4
  clear hn4
  have hr4 : Hid (IsRow w4 4 (.slice (some ⟨w3.heap.size, 0, none⟩) 1 1) 1 (aCells [(⟨xn, xk, xv, xs⟩ : At)])) := row_a1 (C4.out _ (Below.refl _ _))
  go_wp2_with fail
  rw [← hw4]
  clear hw4
  clear c1_0 c1_1 c1_2 c1_3
  refine (HC2.out _ (bT (bT (bT B1.out B2.out) B3.out) B4.out) _ hr4.out).mono ?_
  rintro e w5 ⟨rfl, hb⟩
  have B5 : Hid (Below w4.heap.size w4 w5) := hb
  clear hb HC2 hr4
  cases Y2 with
  | false =>
    go_wp2_with fail
    refine (HAw.out _ (bT (bT (bT (bT B1.out B2.out) B3.out) B4.out) B5.out)).mono ?_
    rintro e w9 ⟨rfl, hb⟩
    have HB9 : Hid (Below w.heap.size w w9) := hb
    clear hb
    go_wp2
    go_ret
    exact ⟨rfl, HB9.out⟩
  | true =>
  by_cases h24 : 24 ≤ A.length
  · have d24 : decide ((24 : Int) ≤ (A.length : Int)) = true := decide_eq_true (by omega)
    go_wp2_with fail
    refine (HAw.out _ (bT (bT (bT (bT B1.out B2.out) B3.out) B4.out) B5.out)).mono ?_
    rintro e w9 ⟨rfl, hb⟩
    have HB9 : Hid (Below w.heap.size w w9) := hb
    clear hb
    go_wp2
    go_ret
    exact ⟨rfl, HB9.out⟩
  have d24 : decide ((24 : Int) ≤ (A.length : Int)) = false := decide_eq_false (by omega)
  have hxn : xn.size ≤ 1000000 := (HN3.out (⟨xn, xk, xv, xs⟩ : At) (by simp)).1
  have hk := C1.out w5 (bT (bT (bT B2.out B3.out) B4.out) B5.out)
  have c1_0 : w5.cell? ⟨w.heap.size, 0, none⟩ = some (.string xn) := by rw [Lib.cell_of_heap hk]; rfl
  have c1_1 : w5.cell? ⟨w.heap.size, 1, none⟩ = some (.int .i64 xk) := by rw [Lib.cell_of_heap hk]; rfl
  have c1_2 : w5.cell? ⟨w.heap.size, 2, none⟩ = some (.int .i64 xv) := by rw [Lib.cell_of_heap hk]; rfl
  have c1_3 : w5.cell? ⟨w.heap.size, 3, none⟩ = some (.string xs) := by rw [Lib.cell_of_heap hk]; rfl
  clear hk
  obtain ⟨G, hG⟩ : ∃ G, Hid (getA A xn = G) := ⟨_, rfl⟩
  have HG1 : Hid (∀ W, Below w.heap.size w W → Calls Tryz.prog 25 #[.slice a3 A.length k3, .string xn] W fun e w' => e = .returned (.tuple #[vOf G, .bool G.isSome]) ∧ Below W.heap.size W w') := fun W hb => by
    have h0 := HGt.out W hb _ A xn (HA.out W hb) (by omega) HN2.out hxn
    rw [hG.out] at h0
    exact h0
  go_wp2_with fail
  clear c1_0 c1_1 c1_2 c1_3
  refine (HG1.out _ (bT (bT (bT (bT B1.out B2.out) B3.out) B4.out) B5.out)).mono ?_
  rintro e w6 ⟨rfl, hb⟩
  have B6 : Hid (Below w5.heap.size w5 w6) := hb
  clear hb HG1
  cases G with
  | some z =>
    obtain ⟨zn, zk, zv, zs⟩ := z
    obtain ⟨w7, hw7⟩ : ∃ w7, w7 = w6.alloc (.cells #[.int .i64 zk, .int .i64 zv, .string zs] 54) := ⟨_, rfl⟩
    have B7 : Hid (Below w6.heap.size w6 w7) := by show Below _ _ _; rw [hw7]; exact al_b _ _
    have hn7 : w7.heap[w6.heap.size]? = some (.cells #[.int .i64 zk, .int .i64 zv, .string zs] 54 (0, 0)) := by rw [hw7]; exact new_at _ _
    have C7 : Hid (∀ W, Below w7.heap.size w7 W → W.heap[w6.heap.size]? = some (.cells #[.int .i64 zk, .int .i64 zv, .string zs] 54 (0, 0))) := fun W h => (h.block _ (Array.getElem?_eq_some_iff.1 hn7).1).trans hn7
    clear hn7
    have hV : vOf (some (⟨zn, zk, zv, zs⟩ : At)) = .agg #[.int .i64 zk, .int .i64 zv, .string zs] := rfl
    rw [hV]
    clear hV
    go_wp2_with fail
    rw [← hw7]
    clear hw7
    refine (HAw.out _ (bT (bT (bT (bT (bT (bT B1.out B2.out) B3.out) B4.out) B5.out) B6.out) B7.out)).mono ?_
    rintro e w9 ⟨rfl, hb⟩
    have HB9 : Hid (Below w.heap.size w w9) := hb
    clear hb
    go_wp2
    go_ret
    exact ⟨rfl, HB9.out⟩
  | none =>
  obtain ⟨w7, hw7⟩ : ∃ w7, w7 = w6.alloc (.cells #[.int .i64 0, .int .i64 0, .string ⟨#[]⟩] 54) := ⟨_, rfl⟩
  have B7 : Hid (Below w6.heap.size w6 w7) := by show Below _ _ _; rw [hw7]; exact al_b _ _
  have hn7 : w7.heap[w6.heap.size]? = some (.cells #[.int .i64 0, .int .i64 0, .string ⟨#[]⟩] 54 (0, 0)) := by rw [hw7]; exact new_at _ _
  have C7 : Hid (∀ W, Below w7.heap.size w7 W → W.heap[w6.heap.size]? = some (.cells #[.int .i64 0, .int .i64 0, .string ⟨#[]⟩] 54 (0, 0))) := fun W h => (h.block _ (Array.getElem?_eq_some_iff.1 hn7).1).trans hn7
  clear hn7
  have hV : vOf none = .agg #[.int .i64 0, .int .i64 0, .string ⟨#[]⟩] := rfl
  rw [hV]
  clear hV
  go_wp2_with fail
  rw [← hw7]
  clear hw7
  obtain ⟨i0, hi0, hz0, hz1, hz2⟩ := info_parts info_at
  have B17 : Hid (Below w1.heap.size w1 w7) := bT (bT (bT (bT (bT B2.out B3.out) B4.out) B5.out) B6.out) B7.out
  have Bw7 : Hid (Below w.heap.size w w7) := bT B1.out B17.out
  have CX : Hid (∀ W, Below w7.heap.size w7 W → W.heap[w.heap.size]? = some (.cells #[.string xn, .int .i64 xk, .int .i64 xv, .string xs] 56 (0, 0))) := fun W h => C1.out W (bT B17.out h)
  have HWb : Hid (∀ W, Below w7.heap.size w7 W → Below w.heap.size w W) := fun W h => bT Bw7.out h
  clear C1 C2 C4 C7 B2 B3 B4 B5 B6 B7 B1 B17 hxn d24
  go_loopw [9, 10, 11] (fun r p i wr => ∃ (j : Nat) (q : Option Nat), j ≤ A.length ∧ p = .bool (isS q) ∧ i = .int .i64 (j : Int) ∧ Hid (wr.ownsRow w7.heap.size 56 4 r (midA A (⟨xn, xk, xv, xs⟩ : At) j q).length (aCells (midA A (⟨xn, xk, xv, xs⟩ : At) j q))) ∧ Hid (MidOk A (⟨xn, xk, xv, xs⟩ : At) j q) ∧ Hid (Below w7.heap.size w7 wr)) (fun _ _ i _ => A.length - (intOf i).toNat)
  case atStart => exact ⟨0, none, Nat.zero_le _, rfl, rfl, World.ownsRow_nil _ _ _ _, (fun k h hk => absurd hk (Nat.not_lt_zero _)), Below.refl _ _⟩
  case round =>
    obtain ⟨j, q, hj, rfl, rfl, HO, HM, HB⟩ := hrel
    by_cases hlk : j < A.length
    · have dj : decide ((j : Int) < (A.length : Int)) = true := by simp; omega
      have hL0 : (midA A (⟨xn, xk, xv, xs⟩ : At) j q).length ≤ 100 := by have := mid_len (A := A) (x := (⟨xn, xk, xv, xs⟩ : At)) (j := j) q; omega
      obtain ⟨b, off, rfl, hlt, hcap, hc⟩ := a_at (HA.out w (Below.refl _ _)) (by omega)
      have HQ : Hid (∀ W, Below w.heap.size w W → W.cell? ⟨b, off + j * 4, none⟩ = some (.string A[j].n) ∧ W.cell? ⟨b, off + j * 4 + 1, none⟩ = some (.int .i64 A[j].k) ∧ W.cell? ⟨b, off + j * 4 + 2, none⟩ = some (.int .i64 A[j].v) ∧ W.cell? ⟨b, off + j * 4 + 3, none⟩ = some (.string A[j].s)) := fun W hb => by
        obtain ⟨q0, q1, q2, q3⟩ := hc j hlk
        exact ⟨(hb.cell (p := ⟨b, _, none⟩) hlt).trans q0, (hb.cell (p := ⟨b, _, none⟩) hlt).trans q1, (hb.cell (p := ⟨b, _, none⟩) hlt).trans q2, (hb.cell (p := ⟨b, _, none⟩) hlt).trans q3⟩
      clear hc hlt
      have q1 : (0 : Int) ≤ (j : Int) := by omega
      have q2 : (j : Int) < (A.length : Int) := by omega
      have HNj : Hid (NmA [A[j], (⟨xn, xk, xv, xs⟩ : At)]) := fun y hy => by
        simp only [List.mem_cons, List.not_mem_nil, or_false] at hy
        rcases hy with rfl | rfl
        · exact HN2.out _ (List.getElem_mem hlk)
        · exact HN3.out _ (by simp)
      have HE1 : Hid (midA A (⟨xn, xk, xv, xs⟩ : At) (j + 1) none = midA A (⟨xn, xk, xv, xs⟩ : At) j none ++ [A[j]]) := mid_none hlk
      have HE2 : Hid (∀ i, i < j → midA A (⟨xn, xk, xv, xs⟩ : At) (j + 1) (some i) = midA A (⟨xn, xk, xv, xs⟩ : At) j (some i) ++ [A[j]]) := fun i hi => mid_some hlk hi
      have HE3 : Hid (midA A (⟨xn, xk, xv, xs⟩ : At) (j + 1) (some j) = (midA A (⟨xn, xk, xv, xs⟩ : At) j none ++ [(⟨xn, xk, xv, xs⟩ : At)]) ++ [A[j]]) := mid_put hlk
      have HMj : Hid (∀ k (h : k < A.length), k < j + 1 → k = j ∨ k < j) := fun k h hk => by omega
      obtain ⟨y, hy⟩ : ∃ y, A[j] = y := ⟨_, rfl⟩
      have HY : Hid (A[j] = y) := hy
      rw [hy] at HQ HNj HE1 HE2 HE3
      clear hy
      obtain ⟨yn, yk, yv, ys⟩ := y
      dsimp only at HQ
      have HS : Hid (∀ W, Below wr.heap.size wr W → Bx8 w.heap.size xn xk xv xs b (off + j * 4) yn yk yv ys W) := fun W h => by
        have h7 : Below w7.heap.size w7 W := HB.out.trans (h.mono HB.out.size)
        have hk := CX.out W h7
        refine ⟨⟨?_, ?_, ?_, ?_⟩, HQ.out W (HWb.out W h7)⟩ <;> (rw [Lib.cell_of_heap hk]; rfl)
      have HQ9 : Hid (∀ W, Below w7.heap.size w7 W → W.cell? ⟨b, off + j * 4, none⟩ = some (.string yn) ∧ W.cell? ⟨b, off + j * 4 + 1, none⟩ = some (.int .i64 yk) ∧ W.cell? ⟨b, off + j * 4 + 2, none⟩ = some (.int .i64 yv) ∧ W.cell? ⟨b, off + j * 4 + 3, none⟩ = some (.string ys)) := fun W h => HQ.out W (HWb.out W h)
      clear HQ
      have HBd : Hid (Below wr.heap.size wr wr.drew) := (Below.refl _ _).drew
      cases q with
      | some i =>
        obtain ⟨hij, hm1, hm2⟩ := HM.out
        have HM' : Hid (MidOk A (⟨xn, xk, xv, xs⟩ : At) (j + 1) (some i)) := ⟨by omega, hm1, hm2⟩
        have HE := HE2.out i hij
        have HEh : Hid (midA A (⟨xn, xk, xv, xs⟩ : At) (j + 1) (some i) = midA A (⟨xn, xk, xv, xs⟩ : At) j (some i) ++ [(⟨yn, yk, yv, ys⟩ : At)]) := HE
        clear HE hm1 hm2 HM HE1 HE2 HE3 HNj HMj HY hij
        obtain ⟨L2, HL2⟩ : ∃ L, Hid (midA A (⟨xn, xk, xv, xs⟩ : At) (j + 1) (some i) = L) := ⟨_, rfl⟩
        rw [HL2.out] at HEh
        generalize midA A (⟨xn, xk, xv, xs⟩ : At) j (some i) = L1 at *
        dsimp only [isS] at *
        go_wp2_with fail
        refine wp_region_held_drew (S := fun w' => Bx8 w.heap.size xn xk xv xs b (off + j * 4) yn yk yv ys w') (by kernel_rfl) (HS.out _ HBd.out) (fun hHeld => ?_)
        generalize hw0 : wr.drew = v0 at *
        clear hw0
        refine wpAnyH_take (i := 0) (v := ?_) rfl (by kernel_rfl) (by kernel_rfl) (by kernel_rfl) (fun _ _ _ h => h) (Or.inl ⟨by rfl, ?_⟩) hHeld ?_
        rotate_left 1
        · intro w9 hSw; obtain ⟨⟨g0, g1, g2, g3⟩, k0, k1, k2, k3⟩ := hSw; go_simp; try with_reducible rfl
        change wpAnyH _ _ _ _ _ _ _ (Act.put _ (some 62) _) _
        simp only [Act.put, List.setIfInBounds_toArray, List.set_cons_zero, List.set_cons_succ]
        refine wpAnyH_take (i := 1) (v := ?_) rfl (by kernel_rfl) (by kernel_rfl) (by kernel_rfl) (fun _ _ _ h => h) (Or.inl ⟨by rfl, ?_⟩) hHeld ?_
        rotate_left 1
        · intro w9 hSw; obtain ⟨⟨g0, g1, g2, g3⟩, k0, k1, k2, k3⟩ := hSw; go_simp; try with_reducible rfl
        change wpAnyH _ _ _ _ _ _ _ (Act.put _ (some 63) _) _
        simp only [Act.put, List.setIfInBounds_toArray, List.set_cons_zero, List.set_cons_succ]
        refine wpAnyH_take (i := 2) (v := ?_) rfl (by kernel_rfl) (by kernel_rfl) (by kernel_rfl) (fun _ _ _ h => h) (Or.inl ⟨by rfl, ?_⟩) hHeld ?_
        rotate_left 1
        · intro w9 hSw; obtain ⟨⟨g0, g1, g2, g3⟩, k0, k1, k2, k3⟩ := hSw; go_simp; try with_reducible rfl
        change wpAnyH _ _ _ _ _ _ _ (Act.put _ (some 64) _) _
        simp only [Act.put, List.setIfInBounds_toArray, List.set_cons_zero, List.set_cons_succ]
        refine wpAnyH_take (i := 3) (v := undef) rfl (by kernel_rfl) (by kernel_rfl) (by kernel_rfl) (fun _ _ _ h => h) (Or.inr ⟨by rfl, rfl⟩) hHeld ?_
        change wpAnyH _ _ _ _ _ _ _ (Act.put _ (some 65) _) _
        simp only [Act.put, List.setIfInBounds_toArray, List.set_cons_zero, List.set_cons_succ]
        refine wpAnyH_take (i := 4) (v := undef) rfl (by kernel_rfl) (by kernel_rfl) (by kernel_rfl) (fun _ _ _ h => h) (Or.inr ⟨by rfl, rfl⟩) hHeld ?_
        change wpAnyH _ _ _ _ _ _ _ (Act.put _ (some 66) _) _
        simp only [Act.put, List.setIfInBounds_toArray, List.set_cons_zero, List.set_cons_succ]
        refine wpAnyH_take (i := 5) (v := undef) rfl (by kernel_rfl) (by kernel_rfl) (by kernel_rfl) (fun _ _ _ h => h) (Or.inr ⟨by rfl, rfl⟩) hHeld ?_
        change wpAnyH _ _ _ _ _ _ _ (Act.put _ (some 67) _) _
        simp only [Act.put, List.setIfInBounds_toArray, List.set_cons_zero, List.set_cons_succ]
        refine wpAnyH_take (i := 6) (v := undef) rfl (by kernel_rfl) (by kernel_rfl) (by kernel_rfl) (fun _ _ _ h => h) (Or.inr ⟨by rfl, rfl⟩) hHeld ?_
        change wpAnyH _ _ _ _ _ _ _ (Act.put _ (some 68) _) _
        simp only [Act.put, List.setIfInBounds_toArray, List.set_cons_zero, List.set_cons_succ]
        refine wpAnyH_take (i := 7) (v := undef) rfl (by kernel_rfl) (by kernel_rfl) (by kernel_rfl) (fun _ _ _ h => h) (Or.inr ⟨by rfl, rfl⟩) hHeld ?_
        change wpAnyH _ _ _ _ _ _ _ (Act.put _ (some 69) _) _
        simp only [Act.put, List.setIfInBounds_toArray, List.set_cons_zero, List.set_cons_succ]
        refine wpAnyH_take (i := 8) (v := undef) rfl (by kernel_rfl) (by kernel_rfl) (by kernel_rfl) (fun _ _ _ h => h) (Or.inr ⟨by rfl, rfl⟩) hHeld ?_
        change wpAnyH _ _ _ _ _ _ _ (Act.put _ (some 70) _) _
        simp only [Act.put, List.setIfInBounds_toArray, List.set_cons_zero, List.set_cons_succ]
        refine wpAnyH_take (i := 9) (v := undef) rfl (by kernel_rfl) (by kernel_rfl) (by kernel_rfl) (fun _ _ _ h => h) (Or.inr ⟨by rfl, rfl⟩) hHeld ?_
        change wpAnyH _ _ _ _ _ _ _ (Act.put _ (some 71) _) _
        simp only [Act.put, List.setIfInBounds_toArray, List.set_cons_zero, List.set_cons_succ]
        refine wpAnyH_take (i := 10) (v := undef) rfl (by kernel_rfl) (by kernel_rfl) (by kernel_rfl) (fun _ _ _ h => h) (Or.inr ⟨by rfl, rfl⟩) hHeld ?_
        change wpAnyH _ _ _ _ _ _ _ (Act.put _ (some 72) _) _
        simp only [Act.put, List.setIfInBounds_toArray, List.set_cons_zero, List.set_cons_succ]
        refine wpAnyH_take (i := 11) (v := ?_) rfl (by kernel_rfl) (by kernel_rfl) (by kernel_rfl) (fun _ _ _ h => h) (Or.inl ⟨by rfl, ?_⟩) hHeld ?_
        rotate_left 1
        · intro w9 hSw; obtain ⟨⟨g0, g1, g2, g3⟩, k0, k1, k2, k3⟩ := hSw; go_simp; try with_reducible rfl
        change wpAnyH _ _ _ _ _ _ _ (Act.put _ (some 73) _) _
        simp only [Act.put, List.setIfInBounds_toArray, List.set_cons_zero, List.set_cons_succ]
        refine wpAnyH_done (by kernel_rfl) ?_ _
        clear hHeld
        have HZ : Hid (w7.heap.size ≤ v0.heap.size) := by have h1 := HB.out.size; have h2 := HBd.out.size; show _ ≤ _; omega
        have HO' : Hid (v0.ownsRow w7.heap.size 56 4 u9 L1.length (aCells L1)) := own_belowE HO.out HBd.out
        obtain ⟨⟨g0, g1, g2, g3⟩, k0, k1, k2, k3⟩ := HS.out _ HBd.out
        clear HO g0 g1 g2 g3
        go_wp2_with (at_builtin; refine wpl_appE v0 rfl (.tmp 78) (.tmp 83) 38 56 rfl i0 _ 4 48 Tryz.underlying38 hi0 hz0 hz1 hz2 rfl (by decide) w7.heap.size u9 (L1).length _ rfl HO'.out [.string yn, .int .i64 yk, .int .i64 yv, .string ys] rfl _ rfl rfl (by intro u hu; simp at hu; rcases hu with rfl | rfl | rfl | rfl <;> rfl) (by omega) (by unfold maxLen; omega) HZ.out ?_; intro v4 w9 hown hb)
        have HO4 : Hid (w9.ownsRow w7.heap.size 56 4 v4 L2.length (aCells L2)) := by
          rw [HEh.out, List.length_append, aC_app, aC_one]; exact hown
        have HB4 : Hid (Below w7.heap.size w7 w9) := (HB.out.trans (HBd.out.mono HB.out.size)).trans hb
        clear hown hb HO' HZ k0 k1 k2 k3 HS HBd HB HEh
        go_wp2
        go_roundw
        case rel => exact ⟨j + 1, some i, by omega, rfl, by simp, (by rw [HL2.out]; exact HO4), HM'.out, HB4.out⟩
        case measure => simp [intOf]; omega
      | none =>
        obtain ⟨C, hC⟩ : ∃ C, Hid (chkA [(⟨yn, yk, yv, ys⟩ : At), (⟨xn, xk, xv, xs⟩ : At)] = C) := ⟨_, rfl⟩
        have HCt : Hid (∀ W, Below wr.heap.size wr W → ∀ g, W.heap[g]? = some (.cells #[.string yn, .int .i64 yk, .int .i64 yv, .string ys, .string xn, .int .i64 xk, .int .i64 xv, .string xs] 56 (0, 0)) → Calls Tryz.prog 24 #[.slice (some ⟨g, 0, none⟩) 2 2] W fun e w' => e = .returned (.bool C) ∧ Below W.heap.size W w') := fun W h g hg => by
          have h0 := HAt.out W (HWb.out W (HB.out.trans (h.mono HB.out.size))) _ [(⟨yn, yk, yv, ys⟩ : At), (⟨xn, xk, xv, xs⟩ : At)] (row_a2 hg) (by simp) HNj.out
          rw [hC.out] at h0
          exact h0
        have HMt : Hid (C = true → MidOk A (⟨xn, xk, xv, xs⟩ : At) (j + 1) none) := fun hc k h hk => by
          rcases HMj.out k h hk with rfl | hk'
          · rw [HY.out, hC.out]; exact hc
          · exact HM.out k h hk'
        have HMf : Hid (C = false → MidOk A (⟨xn, xk, xv, xs⟩ : At) (j + 1) (some j)) := fun hc => ⟨by omega, HM.out, fun h => by rw [HY.out, hC.out]; exact hc⟩
        clear HM HE2 HNj HMj HY hC
        obtain ⟨L2, HL2⟩ : ∃ L, Hid (midA A (⟨xn, xk, xv, xs⟩ : At) (j + 1) none = L) := ⟨_, rfl⟩
        rw [HL2.out] at HE1
        obtain ⟨L3, HL3⟩ : ∃ L, Hid (midA A (⟨xn, xk, xv, xs⟩ : At) (j + 1) (some j) = L) := ⟨_, rfl⟩
        rw [HL3.out] at HE3
        generalize midA A (⟨xn, xk, xv, xs⟩ : At) j none = L1 at *
        dsimp only [isS] at *
        go_wp2_with fail
        refine wp_region_held_drew (S := fun w' => Bx8 w.heap.size xn xk xv xs b (off + j * 4) yn yk yv ys w') (by kernel_rfl) (HS.out _ HBd.out) (fun hHeld => ?_)
        generalize hw0 : wr.drew = v0 at *
        clear hw0
        refine wpAnyH_take (i := 0) (v := ?_) rfl (by kernel_rfl) (by kernel_rfl) (by kernel_rfl) (fun _ _ _ h => h) (Or.inl ⟨by rfl, ?_⟩) hHeld ?_
        rotate_left 1
        · intro w9 hSw; obtain ⟨⟨g0, g1, g2, g3⟩, k0, k1, k2, k3⟩ := hSw; go_simp; try with_reducible rfl
        change wpAnyH _ _ _ _ _ _ _ (Act.put _ (some 62) _) _
        simp only [Act.put, List.setIfInBounds_toArray, List.set_cons_zero, List.set_cons_succ]
        refine wpAnyH_take (i := 1) (v := ?_) rfl (by kernel_rfl) (by kernel_rfl) (by kernel_rfl) (fun _ _ _ h => h) (Or.inl ⟨by rfl, ?_⟩) hHeld ?_
        rotate_left 1
        · intro w9 hSw; obtain ⟨⟨g0, g1, g2, g3⟩, k0, k1, k2, k3⟩ := hSw; go_simp; try with_reducible rfl
        change wpAnyH _ _ _ _ _ _ _ (Act.put _ (some 63) _) _
        simp only [Act.put, List.setIfInBounds_toArray, List.set_cons_zero, List.set_cons_succ]
        refine wpAnyH_take (i := 2) (v := ?_) rfl (by kernel_rfl) (by kernel_rfl) (by kernel_rfl) (fun _ _ _ h => h) (Or.inl ⟨by rfl, ?_⟩) hHeld ?_
        rotate_left 1
        · intro w9 hSw; obtain ⟨⟨g0, g1, g2, g3⟩, k0, k1, k2, k3⟩ := hSw; go_simp; try with_reducible rfl
        change wpAnyH _ _ _ _ _ _ _ (Act.put _ (some 64) _) _
        simp only [Act.put, List.setIfInBounds_toArray, List.set_cons_zero, List.set_cons_succ]
        refine wpAnyH_take (i := 3) (v := ?_) rfl (by kernel_rfl) (by kernel_rfl) (by kernel_rfl) (fun _ _ _ h => h) (Or.inl ⟨by rfl, ?_⟩) hHeld ?_
        rotate_left 1
        · intro w9 hSw; obtain ⟨⟨g0, g1, g2, g3⟩, k0, k1, k2, k3⟩ := hSw; go_simp; try with_reducible rfl
        change wpAnyH _ _ _ _ _ _ _ (Act.put _ (some 65) _) _
        simp only [Act.put, List.setIfInBounds_toArray, List.set_cons_zero, List.set_cons_succ]
        refine wpAnyH_take (i := 4) (v := ?_) rfl (by kernel_rfl) (by kernel_rfl) (by kernel_rfl) (fun _ _ _ h => h) (Or.inl ⟨by rfl, ?_⟩) hHeld ?_
        rotate_left 1
        · intro w9 hSw; obtain ⟨⟨g0, g1, g2, g3⟩, k0, k1, k2, k3⟩ := hSw; go_simp; try with_reducible rfl
        change wpAnyH _ _ _ _ _ _ _ (Act.put _ (some 66) _) _
        simp only [Act.put, List.setIfInBounds_toArray, List.set_cons_zero, List.set_cons_succ]
        refine wpAnyH_take (i := 5) (v := ?_) rfl (by kernel_rfl) (by kernel_rfl) (by kernel_rfl) (fun _ _ _ h => h) (Or.inl ⟨by rfl, ?_⟩) hHeld ?_
        rotate_left 1
        · intro w9 hSw; obtain ⟨⟨g0, g1, g2, g3⟩, k0, k1, k2, k3⟩ := hSw; go_simp; try with_reducible rfl
        change wpAnyH _ _ _ _ _ _ _ (Act.put _ (some 67) _) _
        simp only [Act.put, List.setIfInBounds_toArray, List.set_cons_zero, List.set_cons_succ]
        refine wpAnyH_take (i := 6) (v := ?_) rfl (by kernel_rfl) (by kernel_rfl) (by kernel_rfl) (fun _ _ _ h => h) (Or.inl ⟨by rfl, ?_⟩) hHeld ?_
        rotate_left 1
        · intro w9 hSw; obtain ⟨⟨g0, g1, g2, g3⟩, k0, k1, k2, k3⟩ := hSw; go_simp; try with_reducible rfl
        change wpAnyH _ _ _ _ _ _ _ (Act.put _ (some 68) _) _
        simp only [Act.put, List.setIfInBounds_toArray, List.set_cons_zero, List.set_cons_succ]
        refine wpAnyH_take (i := 7) (v := ?_) rfl (by kernel_rfl) (by kernel_rfl) (by kernel_rfl) (fun _ _ _ h => h) (Or.inl ⟨by rfl, ?_⟩) hHeld ?_
        rotate_left 1
        · intro w9 hSw; obtain ⟨⟨g0, g1, g2, g3⟩, k0, k1, k2, k3⟩ := hSw; go_simp; try with_reducible rfl
        change wpAnyH _ _ _ _ _ _ _ (Act.put _ (some 69) _) _
        simp only [Act.put, List.setIfInBounds_toArray, List.set_cons_zero, List.set_cons_succ]
        obtain ⟨v1, hv1⟩ : ∃ v1, v1 = v0.alloc (.cells #[.string yn, .int .i64 yk, .int .i64 yv, .string ys, .string xn, .int .i64 xk, .int .i64 xv, .string xs] 56) := ⟨_, rfl⟩
        have E1 : Hid (Below v0.heap.size v0 v1) := by show Below _ _ _; rw [hv1]; exact al_b _ _
        have hn1 : v1.heap[v0.heap.size]? = some (.cells #[.string yn, .int .i64 yk, .int .i64 yv, .string ys, .string xn, .int .i64 xk, .int .i64 xv, .string xs] 56 (0, 0)) := by rw [hv1]; exact new_at _ _
        have Hn1 : Hid (v1.heap[v0.heap.size]? = some (.cells #[.string yn, .int .i64 yk, .int .i64 yv, .string ys, .string xn, .int .i64 xk, .int .i64 xv, .string xs] 56 (0, 0))) := hn1
        have HB1 : Hid (Below wr.heap.size wr v1) := bT HBd.out E1.out
        clear hn1
        refine wpAnyH_ready (rs := [8]) (by kernel_rfl) (by simp) ?_
        refine AllReadyH.cons rfl (fun K hK => ?_) AllReadyH.nil
        go_simp
        rw [← hv1]
        clear hv1
        refine hK.out _ _ (HS.out _ HB1.out) (fun hHeld => ?_)
        clear hK K
        refine wpAnyH_ready (rs := [9]) (by kernel_rfl) (by simp) ?_
        refine AllReadyH.cons rfl (fun K hK => ?_) AllReadyH.nil
        go_simp
        refine (HCt.out _ HB1.out _ Hn1.out).mono ?_
        rintro e v2 ⟨rfl, hb⟩
        have HB2 : Hid (Below wr.heap.size wr v2) := bT HB1.out hb
        clear hb
        go_simp
        refine hK.out _ _ (HS.out _ HB2.out) (fun hHeld => ?_)
        clear hK K
        refine wpAnyH_take (i := 10) (v := ?_) rfl (by kernel_rfl) (by kernel_rfl) (by kernel_rfl) (fun _ _ _ h => h) (Or.inl ⟨by rfl, ?_⟩) hHeld ?_
        rotate_left 1
        · intro w9 hSw; obtain ⟨⟨g0, g1, g2, g3⟩, k0, k1, k2, k3⟩ := hSw; go_simp; try with_reducible rfl
        change wpAnyH _ _ _ _ _ _ _ (Act.put _ (some 72) _) _
        simp only [Act.put, List.setIfInBounds_toArray, List.set_cons_zero, List.set_cons_succ]
        refine wpAnyH_take (i := 11) (v := ?_) rfl (by kernel_rfl) (by kernel_rfl) (by kernel_rfl) (fun _ _ _ h => h) (Or.inl ⟨by rfl, ?_⟩) hHeld ?_
        rotate_left 1
        · intro w9 hSw; obtain ⟨⟨g0, g1, g2, g3⟩, k0, k1, k2, k3⟩ := hSw; go_simp; try with_reducible rfl
        change wpAnyH _ _ _ _ _ _ _ (Act.put _ (some 73) _) _
        simp only [Act.put, List.setIfInBounds_toArray, List.set_cons_zero, List.set_cons_succ]
        refine wpAnyH_done (by kernel_rfl) ?_ _
        clear hHeld HCt Hn1 HB1 E1 HBd
        have HZ : Hid (w7.heap.size ≤ v2.heap.size) := by have h1 := HB.out.size; have h2 := HB2.out.size; show _ ≤ _; omega
        have HO' : Hid (v2.ownsRow w7.heap.size 56 4 u9 L1.length (aCells L1)) := own_belowE HO.out HB2.out
        clear HO
        cases C with
        | true =>
          have HM' := HMt.out rfl
          have HMh : Hid (MidOk A (⟨xn, xk, xv, xs⟩ : At) (j + 1) none) := HM'
          clear HMt HMf HM' HE3
          obtain ⟨⟨g0, g1, g2, g3⟩, k0, k1, k2, k3⟩ := HS.out _ HB2.out
          clear g0 g1 g2 g3
          go_wp2_with (at_builtin; refine wpl_appE v2 rfl (.tmp 78) (.tmp 83) 38 56 rfl i0 _ 4 48 Tryz.underlying38 hi0 hz0 hz1 hz2 rfl (by decide) w7.heap.size u9 (L1).length _ rfl HO'.out [.string yn, .int .i64 yk, .int .i64 yv, .string ys] rfl _ rfl rfl (by intro u hu; simp at hu; rcases hu with rfl | rfl | rfl | rfl <;> rfl) (by omega) (by unfold maxLen; omega) HZ.out ?_; intro v4 w9 hown hb)
          have HO4 : Hid (w9.ownsRow w7.heap.size 56 4 v4 L2.length (aCells L2)) := by
            rw [HE1.out, List.length_append, aC_app, aC_one]; exact hown
          have HB4 : Hid (Below w7.heap.size w7 w9) := (HB.out.trans (HB2.out.mono HB.out.size)).trans hb
          clear hown hb HO' HZ k0 k1 k2 k3 HS HB HB2 HE1
          go_wp2
          go_roundw
          case rel => exact ⟨j + 1, none, by omega, rfl, by simp, (by rw [HL2.out]; exact HO4), HMh.out, HB4.out⟩
          case measure => simp [intOf]; omega
        | false =>
          have HM' := HMf.out rfl
          have HMh : Hid (MidOk A (⟨xn, xk, xv, xs⟩ : At) (j + 1) (some j)) := HM'
          clear HMt HMf HM' HE1
          obtain ⟨⟨g0, g1, g2, g3⟩, k0, k1, k2, k3⟩ := HS.out _ HB2.out
          clear k0 k1 k2 k3
          go_wp2_with (at_builtin; first
            | (refine wpl_appE v2 rfl (.tmp 74) (.tmp 76) 38 56 rfl i0 _ 4 48 Tryz.underlying38 hi0 hz0 hz1 hz2 rfl (by decide) w7.heap.size u9 (L1).length _ rfl HO'.out [.string xn, .int .i64 xk, .int .i64 xv, .string xs] rfl _ rfl rfl (by intro u hu; simp at hu; rcases hu with rfl | rfl | rfl | rfl <;> rfl) (by omega) (by unfold maxLen; omega) HZ.out ?_; intro v4 w9 hown hb
               have HO5 : Hid (w9.ownsRow w7.heap.size 56 4 v4 (L1 ++ [(⟨xn, xk, xv, xs⟩ : At)]).length (aCells (L1 ++ [(⟨xn, xk, xv, xs⟩ : At)]))) := by rw [List.length_append, aC_app, aC_one]; exact hown
               have HB5 : Hid (Below w7.heap.size w7 w9) := (HB.out.trans (HB2.out.mono HB.out.size)).trans hb
               have HZ5 : Hid (w7.heap.size ≤ w9.heap.size) := HB5.out.size
               have hL5 : (L1 ++ [(⟨xn, xk, xv, xs⟩ : At)]).length ≤ 101 := by rw [List.length_append]; simp; omega
               obtain ⟨q0, q1', q2', q3'⟩ := HQ9.out _ HB5.out
               clear hown hb HO' HZ)
            | (refine wpl_appE w9 rfl (.tmp 78) (.tmp 83) 38 56 rfl i0 _ 4 48 Tryz.underlying38 hi0 hz0 hz1 hz2 rfl (by decide) w7.heap.size v4 (L1 ++ [(⟨xn, xk, xv, xs⟩ : At)]).length _ rfl HO5.out [.string yn, .int .i64 yk, .int .i64 yv, .string ys] rfl _ rfl rfl (by intro u hu; simp at hu; rcases hu with rfl | rfl | rfl | rfl <;> rfl) (by omega) (by unfold maxLen; omega) HZ5.out ?_; intro v5 w10 hown hb))
          have HO4 : Hid (w10.ownsRow w7.heap.size 56 4 v5 L3.length (aCells L3)) := by
            rw [HE3.out, List.length_append, aC_app, aC_one]; exact hown
          have HB4 : Hid (Below w7.heap.size w7 w10) := HB5.out.trans hb
          clear hown hb HO5 HZ5 HS HB HB2 HE3 HB5
          go_wp2
          go_roundw
          case rel => exact ⟨j + 1, some j, by omega, rfl, by simp, (by rw [HL3.out]; exact HO4), HMh.out, HB4.out⟩
          case measure => simp [intOf]; omega
    · obtain rfl : j = A.length := by omega
      have dj : decide ((A.length : Int) < (A.length : Int)) = false := by simp
      cases q with
      | none =>
        obtain ⟨e1, hm1, hm2⟩ := mid_end HM.out
        obtain ⟨M, hME⟩ : ∃ M, A.take A.length ++ (⟨xn, xk, xv, xs⟩ : At) :: A.drop A.length = M := ⟨_, rfl⟩
        have HE1 : Hid (midA A (⟨xn, xk, xv, xs⟩ : At) A.length none ++ [(⟨xn, xk, xv, xs⟩ : At)] = M) := e1.trans hME
        have Hm1 : Hid (∀ k (h : k < A.length), k < A.length → chkA [A[k], (⟨xn, xk, xv, xs⟩ : At)] = true) := hm1
        have Hm2 : Hid (∀ h : A.length < A.length, chkA [A[A.length]'h, (⟨xn, xk, xv, xs⟩ : At)] = false) := hm2
        have hL0 : (midA A (⟨xn, xk, xv, xs⟩ : At) A.length none).length ≤ 100 := by have := mid_len (A := A) (x := (⟨xn, xk, xv, xs⟩ : At)) (j := A.length) none; omega
        have HME : Hid (A.take A.length ++ (⟨xn, xk, xv, xs⟩ : At) :: A.drop A.length = M) := hME
        clear e1 hm1 hm2 HM hME
        generalize midA A (⟨xn, xk, xv, xs⟩ : At) A.length none = L1 at *
        dsimp only [isS] at *
        have HZ : Hid (w7.heap.size ≤ wr.heap.size) := HB.out.size
        have hk := CX.out _ HB.out
        have c1_0 : wr.cell? ⟨w.heap.size, 0, none⟩ = some (.string xn) := by rw [Lib.cell_of_heap hk]; rfl
        have c1_1 : wr.cell? ⟨w.heap.size, 1, none⟩ = some (.int .i64 xk) := by rw [Lib.cell_of_heap hk]; rfl
        have c1_2 : wr.cell? ⟨w.heap.size, 2, none⟩ = some (.int .i64 xv) := by rw [Lib.cell_of_heap hk]; rfl
        have c1_3 : wr.cell? ⟨w.heap.size, 3, none⟩ = some (.string xs) := by rw [Lib.cell_of_heap hk]; rfl
        clear hk
        go_upto_region 17 with (at_builtin; refine wpl_appE wr rfl (.tmp 87) (.tmp 89) 38 56 rfl i0 _ 4 48 Tryz.underlying38 hi0 hz0 hz1 hz2 rfl (by decide) w7.heap.size u9 (L1).length _ rfl HO.out [.string xn, .int .i64 xk, .int .i64 xv, .string xs] rfl _ rfl rfl (by intro u hu; simp at hu; rcases hu with rfl | rfl | rfl | rfl <;> rfl) (by omega) (by unfold maxLen; omega) HZ.out ?_; intro v4 w8 hown hb)
        have Hown : Hid (w8.ownsRow w7.heap.size 56 4 v4 M.length (aCells M)) := by
          rw [← HE1.out, List.length_append, aC_app, aC_one]; exact hown
        have HB78 : Hid (Below w7.heap.size w7 w8) := HB.out.trans hb
        have HB8 : Hid (Below w.heap.size w w8) := HWb.out _ HB78.out
        have hME := HME.out
        clear hown hb HO HZ HB c1_0 c1_1 c1_2 c1_3 hL0 HE1 HME dj
        obtain ⟨am, cm, hfm⟩ := (IsRow.own Hown.out).form
        subst hfm
        have hrM : IsRow w8 4 (.slice am M.length cm) M.length (aCells M) := IsRow.own Hown.out
        have hok : chkA M = true := by rw [← hME]; exact more_ok hY1.out hY2.out (by omega) hG.out Hm1.out Hm2.out
        have HLS : Hid ((∀ y ∈ D, sameL xn.data.toList y.n.data.toList = false) → letsB D M = letsB D A) := fun h => by rw [← hME]; rw [← hME] at hok; exact more_same hY1.out hok h
        have HMc : Hid (letsB D A = true → letsB D M = true) := fun h => by rw [← hME]; rw [← hME] at hok; exact more_lets hok hG.out h
        have hNM : NmA M := by rw [← hME]; exact nmA_more _ HN2.out HN3.out
        have hMl : M.length ≤ 100 := by rw [← hME, List.length_append, List.length_cons, List.length_take, List.length_drop]; omega
        have bw : ∀ W, Below w8.heap.size w8 W → Below w.heap.size w W := fun W h => HB8.out.trans (h.mono HB8.out.size)
        have HCm : Hid (∀ W, Below w8.heap.size w8 W → Calls Tryz.prog 24 #[.slice am M.length cm] W fun e w' => e = .returned (.bool true) ∧ Below w8.heap.size w8 w') := fun W h => by
          have h0 := HAt.out W (bw W h) _ M (hrM.below h) (by omega) hNM
          rw [hok] at h0
          exact h0.mono (by rintro e w' ⟨rfl, hc⟩; exact ⟨rfl, h.trans (hc.mono h.size)⟩)
        have HLF : Hid (∀ W, Below w8.heap.size w8 W → Calls Tryz.prog 22 #[.slice a1 F.length k1, .slice a3 A.length k3] W fun e w' => e = .returned (.bool (letsB D A)) ∧ Below w8.heap.size w8 w') := fun W h => by
          have h0 := HLt.out W (bw W h) _ A (HA.out W (bw W h)) (by omega) HN2.out
          exact h0.mono (by rintro e w' ⟨rfl, hc⟩; exact ⟨rfl, h.trans (hc.mono h.size)⟩)
        have HLM : Hid (∀ W, Below w8.heap.size w8 W → Calls Tryz.prog 22 #[.slice a1 F.length k1, .slice am M.length cm] W fun e w' => e = .returned (.bool (letsB D M)) ∧ Below w8.heap.size w8 w') := fun W h => by
          have h0 := HLt.out W (bw W h) _ M (hrM.below h) (by omega) hNM
          exact h0.mono (by rintro e w' ⟨rfl, hc⟩; exact ⟨rfl, h.trans (hc.mono h.size)⟩)
        have HAw8 : Hid (∀ W, Below w8.heap.size w8 W → Calls Tryz.prog 9 #[] W fun e w' => e = .returned (.bool true) ∧ Below w8.heap.size w8 w') := fun W h => by
          have h0 := awake8_any W (HW.out W (bw W h))
          exact h0.mono (by rintro e w' ⟨rfl, hc⟩; exact ⟨rfl, h.trans (hc.mono h.size)⟩)
        have CX8 : Hid (∀ W, Below w8.heap.size w8 W → W.heap[w.heap.size]? = some (.cells #[.string xn, .int .i64 xk, .int .i64 xv, .string xs] 56 (0, 0))) := fun W h => CX.out W (HB78.out.trans (h.mono HB78.out.size))
        clear hrM hok hNM bw hME HAw HAt HLt HA HW Hown HB78 CX HWb Bw7 hY1 hY2 hG HN2 h24
        clear Hm1 Hm2
        go_wp2_with fail
        go_loopw [12, 13] (fun a i wr => ∃ (j : Nat) (b : Bool), j ≤ F.length ∧ a = .bool b ∧ i = .int .i64 (j : Int) ∧ Hid (b = false → ∀ k (h : k < F.length), k < j → sameL xn.data.toList F[k].y.n.data.toList = false) ∧ Hid (Below w8.heap.size w8 wr)) (fun _ i _ => F.length - (intOf i).toNat)
        case atStart => exact ⟨0, false, Nat.zero_le _, rfl, rfl, (fun _ k h hk => absurd hk (Nat.not_lt_zero _)), Below.refl _ _⟩
        case round =>
          obtain ⟨j, bb, hj, rfl, rfl, HAs, HB⟩ := hrel
          by_cases hlk : j < F.length
          · have dj : decide ((j : Int) < (F.length : Int)) = true := by simp; omega
            clear HLF HLM HLS HAw8 HMc
            obtain ⟨b, off, rfl, hlt, c0', -, -⟩ := p_at (HF.out w (Below.refl _ _)).1 j hlk
            have q1 : (0 : Int) ≤ (j : Int) := by omega
            have q2 : (j : Int) < (F.length : Int) := by omega
            obtain ⟨zk, zv, zs, hzv⟩ := vOf_form (getA [(⟨xn, xk, xv, xs⟩ : At)] F[j].y.n)
            have HGx : Hid (∀ W, Below wr.heap.size wr W → ∀ g, W.heap[g]? = some (.cells #[.string xn, .int .i64 xk, .int .i64 xv, .string xs] 56 (0, 0)) → Calls Tryz.prog 25 #[.slice (some ⟨g, 0, none⟩) 1 1, .string F[j].y.n] W fun e w' => e = .returned (.tuple #[.agg #[.int .i64 zk, .int .i64 zv, .string zs], .bool (sameL xn.data.toList F[j].y.n.data.toList)]) ∧ Below W.heap.size W w') := fun W h g hg => by
              have hb0 : Below w.heap.size w W := HB8.out.trans ((HB.out.trans (h.mono HB.out.size)).mono HB8.out.size)
              have hmem : F[j].y ∈ D := by rw [← HD.out]; exact List.mem_map.2 ⟨F[j], List.getElem_mem hlk, rfl⟩
              have h0 := HGt.out W hb0 _ [(⟨xn, xk, xv, xs⟩ : At)] F[j].y.n (row_a1 hg) (by simp) HN3.out (Nat.le_trans (HN1.out _ hmem).1 (by decide))
              rw [hzv, get_one] at h0
              exact h0
            have HAn : Hid (∀ z, sameL xn.data.toList F[j].y.n.data.toList = z → (bb || z) = false → ∀ k (h : k < F.length), k < j + 1 → sameL xn.data.toList F[k].y.n.data.toList = false) := fun z hz hor k h hk => by
              rw [Bool.or_eq_false_iff] at hor
              by_cases e : k = j
              · subst e; rw [hz]; exact hor.2
              · exact HAs.out hor.1 k h (by omega)
            clear HAs hzv
            have HS : Hid (∀ W, Below wr.heap.size wr W → Bx5 w.heap.size xn xk xv xs b (off + j * 3) F[j].y.n W) := fun W h => by
              have h8 : Below w8.heap.size w8 W := HB.out.trans (h.mono HB.out.size)
              have hk := CX8.out W h8
              refine ⟨⟨?_, ?_, ?_, ?_⟩, ((HB8.out.trans (h8.mono HB8.out.size)).cell (p := ⟨b, _, none⟩) hlt).trans c0'⟩ <;> (rw [Lib.cell_of_heap hk]; rfl)
            clear hlt c0'
            generalize hsz : sameL xn.data.toList F[j].y.n.data.toList = zb at *
            have HAz := HAn.out zb rfl
            have HAm : Hid ((bb || zb) = false → ∀ k (h : k < F.length), k < j + 1 → sameL xn.data.toList F[k].y.n.data.toList = false) := HAz
            clear HAz HAn hsz
            generalize F[j].y.n = fn at *
            have HBd : Hid (Below wr.heap.size wr wr.drew) := (Below.refl _ _).drew
            go_wp2_with fail
            refine wp_region_held_drew (S := fun w' => Bx5 w.heap.size xn xk xv xs b (off + j * 3) fn w') (by kernel_rfl) (HS.out _ HBd.out) (fun hHeld => ?_)
            generalize hw0 : wr.drew = v0 at *
            clear hw0
            refine wpAnyH_take (i := 0) (v := ?_) rfl (by kernel_rfl) (by kernel_rfl) (by kernel_rfl) (fun _ _ _ h => h) (Or.inl ⟨by rfl, ?_⟩) hHeld ?_
            rotate_left 1
            · intro w9 hSw; obtain ⟨⟨g0, g1, g2, g3⟩, k0⟩ := hSw; go_simp; try with_reducible rfl
            change wpAnyH _ _ _ _ _ _ _ (Act.put _ (some 98) _) _
            simp only [Act.put, List.setIfInBounds_toArray, List.set_cons_zero, List.set_cons_succ]
            refine wpAnyH_take (i := 2) (v := ?_) rfl (by kernel_rfl) (by kernel_rfl) (by kernel_rfl) (fun _ _ _ h => h) (Or.inl ⟨by rfl, ?_⟩) hHeld ?_
            rotate_left 1
            · intro w9 hSw; obtain ⟨⟨g0, g1, g2, g3⟩, k0⟩ := hSw; go_simp; try with_reducible rfl
            change wpAnyH _ _ _ _ _ _ _ (Act.put _ (some 100) _) _
            simp only [Act.put, List.setIfInBounds_toArray, List.set_cons_zero, List.set_cons_succ]
            refine wpAnyH_take (i := 3) (v := ?_) rfl (by kernel_rfl) (by kernel_rfl) (by kernel_rfl) (fun _ _ _ h => h) (Or.inl ⟨by rfl, ?_⟩) hHeld ?_
            rotate_left 1
            · intro w9 hSw; obtain ⟨⟨g0, g1, g2, g3⟩, k0⟩ := hSw; go_simp; try with_reducible rfl
            change wpAnyH _ _ _ _ _ _ _ (Act.put _ (some 101) _) _
            simp only [Act.put, List.setIfInBounds_toArray, List.set_cons_zero, List.set_cons_succ]
            refine wpAnyH_take (i := 4) (v := ?_) rfl (by kernel_rfl) (by kernel_rfl) (by kernel_rfl) (fun _ _ _ h => h) (Or.inl ⟨by rfl, ?_⟩) hHeld ?_
            rotate_left 1
            · intro w9 hSw; obtain ⟨⟨g0, g1, g2, g3⟩, k0⟩ := hSw; go_simp; try with_reducible rfl
            change wpAnyH _ _ _ _ _ _ _ (Act.put _ (some 102) _) _
            simp only [Act.put, List.setIfInBounds_toArray, List.set_cons_zero, List.set_cons_succ]
            refine wpAnyH_take (i := 5) (v := ?_) rfl (by kernel_rfl) (by kernel_rfl) (by kernel_rfl) (fun _ _ _ h => h) (Or.inl ⟨by rfl, ?_⟩) hHeld ?_
            rotate_left 1
            · intro w9 hSw; obtain ⟨⟨g0, g1, g2, g3⟩, k0⟩ := hSw; go_simp; try with_reducible rfl
            change wpAnyH _ _ _ _ _ _ _ (Act.put _ (some 103) _) _
            simp only [Act.put, List.setIfInBounds_toArray, List.set_cons_zero, List.set_cons_succ]
            refine wpAnyH_take (i := 6) (v := ?_) rfl (by kernel_rfl) (by kernel_rfl) (by kernel_rfl) (fun _ _ _ h => h) (Or.inl ⟨by rfl, ?_⟩) hHeld ?_
            rotate_left 1
            · intro w9 hSw; obtain ⟨⟨g0, g1, g2, g3⟩, k0⟩ := hSw; go_simp; try with_reducible rfl
            change wpAnyH _ _ _ _ _ _ _ (Act.put _ (some 104) _) _
            simp only [Act.put, List.setIfInBounds_toArray, List.set_cons_zero, List.set_cons_succ]
            refine wpAnyH_ready (rs := [1, 11]) (by kernel_rfl) (by simp) ?_
            refine (AllReadyH.cons rfl (fun K hK => ?_) (AllReadyH.cons rfl (fun K hK => ?_) AllReadyH.nil))
            · obtain ⟨v1, hv1⟩ : ∃ v1, v1 = v0.alloc (.cells #[.string xn, .int .i64 xk, .int .i64 xv, .string xs] 56) := ⟨_, rfl⟩
              have E1 : Hid (Below v0.heap.size v0 v1) := by show Below _ _ _; rw [hv1]; exact al_b _ _
              have hn : v1.heap[v0.heap.size]? = some (.cells #[.string xn, .int .i64 xk, .int .i64 xv, .string xs] 56 (0, 0)) := by rw [hv1]; exact new_at _ _
              have N1 : Hid (∀ W, Below v1.heap.size v1 W → W.heap[v0.heap.size]? = some (.cells #[.string xn, .int .i64 xk, .int .i64 xv, .string xs] 56 (0, 0))) := fun W h => (h.block _ (Array.getElem?_eq_some_iff.1 hn).1).trans hn
              have HB1 : Hid (Below wr.heap.size wr v1) := bT HBd.out E1.out
              clear hn
              go_simp
              rw [← hv1]
              clear hv1
              refine hK.out _ _ (HS.out _ HB1.out) (fun hHeld => ?_)
              clear hK K
              refine wpAnyH_ready (rs := [7, 11]) (by kernel_rfl) (by simp) ?_
              refine (AllReadyH.cons rfl (fun K hK => ?_) (AllReadyH.cons rfl (fun K hK => ?_) AllReadyH.nil))
              · go_simp
                refine (HGx.out _ HB1.out _ (N1.out _ (Below.refl _ _))).mono ?_
                rintro e v2 ⟨rfl, hb⟩
                have E2 : Hid (Below v1.heap.size v1 v2) := hb
                have HB2 : Hid (Below wr.heap.size wr v2) := bT HB1.out hb
                clear hb
                go_simp
                refine hK.out _ _ (HS.out _ HB2.out) (fun hHeld => ?_)
                clear hK K
                refine wpAnyH_take (i := 8) (v := ?_) rfl (by kernel_rfl) (by kernel_rfl) (by kernel_rfl) (fun _ _ _ h => h) (Or.inl ⟨by rfl, ?_⟩) hHeld ?_
                rotate_left 1
                · intro w9 hSw; obtain ⟨⟨g0, g1, g2, g3⟩, k0⟩ := hSw; go_simp; try with_reducible rfl
                change wpAnyH _ _ _ _ _ _ _ (Act.put _ (some 97) _) _
                simp only [Act.put, List.setIfInBounds_toArray, List.set_cons_zero, List.set_cons_succ]
                refine wpAnyH_take (i := 9) (v := ?_) rfl (by kernel_rfl) (by kernel_rfl) (by kernel_rfl) (fun _ _ _ h => h) (Or.inl ⟨by rfl, ?_⟩) hHeld ?_
                rotate_left 1
                · intro w9 hSw; obtain ⟨⟨g0, g1, g2, g3⟩, k0⟩ := hSw; go_simp; try with_reducible rfl
                change wpAnyH _ _ _ _ _ _ _ (Act.put _ (some 106) _) _
                simp only [Act.put, List.setIfInBounds_toArray, List.set_cons_zero, List.set_cons_succ]
                refine wpAnyH_take (i := 10) (v := ?_) rfl (by kernel_rfl) (by kernel_rfl) (by kernel_rfl) (fun _ _ _ h => h) (Or.inl ⟨by rfl, ?_⟩) hHeld ?_
                rotate_left 1
                · intro w9 hSw; obtain ⟨⟨g0, g1, g2, g3⟩, k0⟩ := hSw; go_simp; try with_reducible rfl
                change wpAnyH _ _ _ _ _ _ _ (Act.put _ (some 107) _) _
                simp only [Act.put, List.setIfInBounds_toArray, List.set_cons_zero, List.set_cons_succ]
                refine wpAnyH_ready (rs := [11]) (by kernel_rfl) (by simp) ?_
                refine (AllReadyH.cons rfl (fun K hK => ?_) AllReadyH.nil)
                obtain ⟨v3, hv3⟩ : ∃ v3, v3 = v2.alloc (.cells #[.int .i64 0, .int .i64 0, .string ⟨#[]⟩] 54) := ⟨_, rfl⟩
                have E3 : Hid (Below v2.heap.size v2 v3) := by show Below _ _ _; rw [hv3]; exact al_b _ _
                have hn : v3.heap[v2.heap.size]? = some (.cells #[.int .i64 0, .int .i64 0, .string ⟨#[]⟩] 54 (0, 0)) := by rw [hv3]; exact new_at _ _
                have N11 : Hid (∀ W, Below v3.heap.size v3 W → W.heap[v2.heap.size]? = some (.cells #[.int .i64 0, .int .i64 0, .string ⟨#[]⟩] 54 (0, 0))) := fun W h => (h.block _ (Array.getElem?_eq_some_iff.1 hn).1).trans hn
                have HB3 : Hid (Below wr.heap.size wr v3) := bT HB2.out E3.out
                clear hn
                go_simp
                rw [← hv3]
                clear hv3
                refine hK.out _ _ (HS.out _ HB3.out) (fun hHeld => ?_)
                clear hK K
                refine wpAnyH_ready (rs := [12]) (by kernel_rfl) (by simp) ?_
                refine (AllReadyH.cons rfl (fun K hK => ?_) AllReadyH.nil)
                have hk := N11.out _ (Below.refl _ _)
                have m0 : v3.cell? ⟨v2.heap.size, 0, none⟩ = some (.int .i64 0) := by rw [Lib.cell_of_heap hk]; rfl
                have m1 : v3.cell? ⟨v2.heap.size, 1, none⟩ = some (.int .i64 0) := by rw [Lib.cell_of_heap hk]; rfl
                have m2 : v3.cell? ⟨v2.heap.size, 2, none⟩ = some (.string ⟨#[]⟩) := by rw [Lib.cell_of_heap hk]; rfl
                have mf : ∀ j, v3.frozen? ⟨v2.heap.size, j, none⟩ = false := fun j => Lib.frozen_of_heap hk j
                clear hk
                have hge : wr.heap.size ≤ v2.heap.size := HB2.out.size
                have HSt : Hid (∀ u0 u1 u2, Below wr.heap.size wr (((v3.setCell ⟨v2.heap.size, 0, none⟩ u0).setCell ⟨v2.heap.size, 1, none⟩ u1).setCell ⟨v2.heap.size, 2, none⟩ u2)) := fun u0 u1 u2 => ((HB3.out.setCell (p := ⟨v2.heap.size, 0, none⟩) hge u0).setCell (p := ⟨v2.heap.size, 1, none⟩) hge u1).setCell (p := ⟨v2.heap.size, 2, none⟩) hge u2
                clear hge
                go_simp
                refine hK.out _ _ (HS.out _ (HSt.out _ _ _)) (fun hHeld => ?_)
                clear hK K m0 m1 m2 mf
                refine wpAnyH_take (i := 13) (v := ?_) rfl (by kernel_rfl) (by kernel_rfl) (by kernel_rfl) (fun _ _ _ h => h) (Or.inl ⟨by rfl, ?_⟩) hHeld ?_
                rotate_left 1
                · intro w9 hSw; obtain ⟨⟨g0, g1, g2, g3⟩, k0⟩ := hSw; go_simp; try with_reducible rfl
                change wpAnyH _ _ _ _ _ _ _ (Act.put _ (some 15) _) _
                simp only [Act.put, List.setIfInBounds_toArray, List.set_cons_zero, List.set_cons_succ]
                refine wpAnyH_done (by kernel_rfl) ?_ _
                clear hHeld
                have HB9 : Hid (Below w8.heap.size w8 (((v3.setCell ⟨v2.heap.size, 0, none⟩ (.int .i64 zk)).setCell ⟨v2.heap.size, 1, none⟩ (.int .i64 zv)).setCell ⟨v2.heap.size, 2, none⟩ (.string zs))) := HB.out.trans ((HSt.out _ _ _).mono HB.out.size)
                clear HSt HS HGx HB HBd
                cases bb <;> (
                  go_wp2
                  go_roundw
                  case rel => exact ⟨j + 1, _, by omega, rfl, by simp, HAm.out, HB9.out⟩
                  case measure => simp [intOf]; omega)
              · obtain ⟨v2, hv2⟩ : ∃ v2, v2 = v1.alloc (.cells #[.int .i64 0, .int .i64 0, .string ⟨#[]⟩] 54) := ⟨_, rfl⟩
                have E2 : Hid (Below v1.heap.size v1 v2) := by show Below _ _ _; rw [hv2]; exact al_b _ _
                have hn : v2.heap[v1.heap.size]? = some (.cells #[.int .i64 0, .int .i64 0, .string ⟨#[]⟩] 54 (0, 0)) := by rw [hv2]; exact new_at _ _
                have N11 : Hid (∀ W, Below v2.heap.size v2 W → W.heap[v1.heap.size]? = some (.cells #[.int .i64 0, .int .i64 0, .string ⟨#[]⟩] 54 (0, 0))) := fun W h => (h.block _ (Array.getElem?_eq_some_iff.1 hn).1).trans hn
                have HB2 : Hid (Below wr.heap.size wr v2) := bT HB1.out E2.out
                clear hn
                go_simp
                rw [← hv2]
                clear hv2
                refine hK.out _ _ (HS.out _ HB2.out) (fun hHeld => ?_)
                clear hK K
                refine wpAnyH_ready (rs := [7]) (by kernel_rfl) (by simp) ?_
                refine (AllReadyH.cons rfl (fun K hK => ?_) AllReadyH.nil)
                go_simp
                refine (HGx.out _ HB2.out _ (N1.out _ (bT (Below.refl _ _) E2.out))).mono ?_
                rintro e v3 ⟨rfl, hb⟩
                have E3 : Hid (Below v2.heap.size v2 v3) := hb
                have HB3 : Hid (Below wr.heap.size wr v3) := bT HB2.out hb
                clear hb
                go_simp
                refine hK.out _ _ (HS.out _ HB3.out) (fun hHeld => ?_)
                clear hK K
                refine wpAnyH_take (i := 8) (v := ?_) rfl (by kernel_rfl) (by kernel_rfl) (by kernel_rfl) (fun _ _ _ h => h) (Or.inl ⟨by rfl, ?_⟩) hHeld ?_
                rotate_left 1
                · intro w9 hSw; obtain ⟨⟨g0, g1, g2, g3⟩, k0⟩ := hSw; go_simp; try with_reducible rfl
                change wpAnyH _ _ _ _ _ _ _ (Act.put _ (some 97) _) _
                simp only [Act.put, List.setIfInBounds_toArray, List.set_cons_zero, List.set_cons_succ]
                refine wpAnyH_take (i := 9) (v := ?_) rfl (by kernel_rfl) (by kernel_rfl) (by kernel_rfl) (fun _ _ _ h => h) (Or.inl ⟨by rfl, ?_⟩) hHeld ?_
                rotate_left 1
                · intro w9 hSw; obtain ⟨⟨g0, g1, g2, g3⟩, k0⟩ := hSw; go_simp; try with_reducible rfl
                change wpAnyH _ _ _ _ _ _ _ (Act.put _ (some 106) _) _
                simp only [Act.put, List.setIfInBounds_toArray, List.set_cons_zero, List.set_cons_succ]
                refine wpAnyH_take (i := 10) (v := ?_) rfl (by kernel_rfl) (by kernel_rfl) (by kernel_rfl) (fun _ _ _ h => h) (Or.inl ⟨by rfl, ?_⟩) hHeld ?_
                rotate_left 1
                · intro w9 hSw; obtain ⟨⟨g0, g1, g2, g3⟩, k0⟩ := hSw; go_simp; try with_reducible rfl
                change wpAnyH _ _ _ _ _ _ _ (Act.put _ (some 107) _) _
                simp only [Act.put, List.setIfInBounds_toArray, List.set_cons_zero, List.set_cons_succ]
                refine wpAnyH_ready (rs := [12]) (by kernel_rfl) (by simp) ?_
                refine (AllReadyH.cons rfl (fun K hK => ?_) AllReadyH.nil)
                have hk := N11.out _ (bT (Below.refl _ _) E3.out)
                have m0 : v3.cell? ⟨v1.heap.size, 0, none⟩ = some (.int .i64 0) := by rw [Lib.cell_of_heap hk]; rfl
                have m1 : v3.cell? ⟨v1.heap.size, 1, none⟩ = some (.int .i64 0) := by rw [Lib.cell_of_heap hk]; rfl
                have m2 : v3.cell? ⟨v1.heap.size, 2, none⟩ = some (.string ⟨#[]⟩) := by rw [Lib.cell_of_heap hk]; rfl
                have mf : ∀ j, v3.frozen? ⟨v1.heap.size, j, none⟩ = false := fun j => Lib.frozen_of_heap hk j
                clear hk
                have hge : wr.heap.size ≤ v1.heap.size := HB1.out.size
                have HSt : Hid (∀ u0 u1 u2, Below wr.heap.size wr (((v3.setCell ⟨v1.heap.size, 0, none⟩ u0).setCell ⟨v1.heap.size, 1, none⟩ u1).setCell ⟨v1.heap.size, 2, none⟩ u2)) := fun u0 u1 u2 => ((HB3.out.setCell (p := ⟨v1.heap.size, 0, none⟩) hge u0).setCell (p := ⟨v1.heap.size, 1, none⟩) hge u1).setCell (p := ⟨v1.heap.size, 2, none⟩) hge u2
                clear hge
                go_simp
                refine hK.out _ _ (HS.out _ (HSt.out _ _ _)) (fun hHeld => ?_)
                clear hK K m0 m1 m2 mf
                refine wpAnyH_take (i := 13) (v := ?_) rfl (by kernel_rfl) (by kernel_rfl) (by kernel_rfl) (fun _ _ _ h => h) (Or.inl ⟨by rfl, ?_⟩) hHeld ?_
                rotate_left 1
                · intro w9 hSw; obtain ⟨⟨g0, g1, g2, g3⟩, k0⟩ := hSw; go_simp; try with_reducible rfl
                change wpAnyH _ _ _ _ _ _ _ (Act.put _ (some 15) _) _
                simp only [Act.put, List.setIfInBounds_toArray, List.set_cons_zero, List.set_cons_succ]
                refine wpAnyH_done (by kernel_rfl) ?_ _
                clear hHeld
                have HB9 : Hid (Below w8.heap.size w8 (((v3.setCell ⟨v1.heap.size, 0, none⟩ (.int .i64 zk)).setCell ⟨v1.heap.size, 1, none⟩ (.int .i64 zv)).setCell ⟨v1.heap.size, 2, none⟩ (.string zs))) := HB.out.trans ((HSt.out _ _ _).mono HB.out.size)
                clear HSt HS HGx HB HBd
                cases bb <;> (
                  go_wp2
                  go_roundw
                  case rel => exact ⟨j + 1, _, by omega, rfl, by simp, HAm.out, HB9.out⟩
                  case measure => simp [intOf]; omega)
            · obtain ⟨v1, hv1⟩ : ∃ v1, v1 = v0.alloc (.cells #[.int .i64 0, .int .i64 0, .string ⟨#[]⟩] 54) := ⟨_, rfl⟩
              have E1 : Hid (Below v0.heap.size v0 v1) := by show Below _ _ _; rw [hv1]; exact al_b _ _
              have hn : v1.heap[v0.heap.size]? = some (.cells #[.int .i64 0, .int .i64 0, .string ⟨#[]⟩] 54 (0, 0)) := by rw [hv1]; exact new_at _ _
              have N11 : Hid (∀ W, Below v1.heap.size v1 W → W.heap[v0.heap.size]? = some (.cells #[.int .i64 0, .int .i64 0, .string ⟨#[]⟩] 54 (0, 0))) := fun W h => (h.block _ (Array.getElem?_eq_some_iff.1 hn).1).trans hn
              have HB1 : Hid (Below wr.heap.size wr v1) := bT HBd.out E1.out
              clear hn
              go_simp
              rw [← hv1]
              clear hv1
              refine hK.out _ _ (HS.out _ HB1.out) (fun hHeld => ?_)
              clear hK K
              refine wpAnyH_ready (rs := [1]) (by kernel_rfl) (by simp) ?_
              refine (AllReadyH.cons rfl (fun K hK => ?_) AllReadyH.nil)
              obtain ⟨v2, hv2⟩ : ∃ v2, v2 = v1.alloc (.cells #[.string xn, .int .i64 xk, .int .i64 xv, .string xs] 56) := ⟨_, rfl⟩
              have E2 : Hid (Below v1.heap.size v1 v2) := by show Below _ _ _; rw [hv2]; exact al_b _ _
              have hn : v2.heap[v1.heap.size]? = some (.cells #[.string xn, .int .i64 xk, .int .i64 xv, .string xs] 56 (0, 0)) := by rw [hv2]; exact new_at _ _
              have N1 : Hid (∀ W, Below v2.heap.size v2 W → W.heap[v1.heap.size]? = some (.cells #[.string xn, .int .i64 xk, .int .i64 xv, .string xs] 56 (0, 0))) := fun W h => (h.block _ (Array.getElem?_eq_some_iff.1 hn).1).trans hn
              have HB2 : Hid (Below wr.heap.size wr v2) := bT HB1.out E2.out
              clear hn
              go_simp
              rw [← hv2]
              clear hv2
              refine hK.out _ _ (HS.out _ HB2.out) (fun hHeld => ?_)
              clear hK K
              refine wpAnyH_ready (rs := [7]) (by kernel_rfl) (by simp) ?_
              refine (AllReadyH.cons rfl (fun K hK => ?_) AllReadyH.nil)
              go_simp
              refine (HGx.out _ HB2.out _ (N1.out _ (Below.refl _ _))).mono ?_
              rintro e v3 ⟨rfl, hb⟩
              have E3 : Hid (Below v2.heap.size v2 v3) := hb
              have HB3 : Hid (Below wr.heap.size wr v3) := bT HB2.out hb
              clear hb
              go_simp
              refine hK.out _ _ (HS.out _ HB3.out) (fun hHeld => ?_)
              clear hK K
              refine wpAnyH_take (i := 8) (v := ?_) rfl (by kernel_rfl) (by kernel_rfl) (by kernel_rfl) (fun _ _ _ h => h) (Or.inl ⟨by rfl, ?_⟩) hHeld ?_
              rotate_left 1
              · intro w9 hSw; obtain ⟨⟨g0, g1, g2, g3⟩, k0⟩ := hSw; go_simp; try with_reducible rfl
              change wpAnyH _ _ _ _ _ _ _ (Act.put _ (some 97) _) _
              simp only [Act.put, List.setIfInBounds_toArray, List.set_cons_zero, List.set_cons_succ]
              refine wpAnyH_take (i := 9) (v := ?_) rfl (by kernel_rfl) (by kernel_rfl) (by kernel_rfl) (fun _ _ _ h => h) (Or.inl ⟨by rfl, ?_⟩) hHeld ?_
              rotate_left 1
              · intro w9 hSw; obtain ⟨⟨g0, g1, g2, g3⟩, k0⟩ := hSw; go_simp; try with_reducible rfl
              change wpAnyH _ _ _ _ _ _ _ (Act.put _ (some 106) _) _
              simp only [Act.put, List.setIfInBounds_toArray, List.set_cons_zero, List.set_cons_succ]
              refine wpAnyH_take (i := 10) (v := ?_) rfl (by kernel_rfl) (by kernel_rfl) (by kernel_rfl) (fun _ _ _ h => h) (Or.inl ⟨by rfl, ?_⟩) hHeld ?_
              rotate_left 1
              · intro w9 hSw; obtain ⟨⟨g0, g1, g2, g3⟩, k0⟩ := hSw; go_simp; try with_reducible rfl
              change wpAnyH _ _ _ _ _ _ _ (Act.put _ (some 107) _) _
              simp only [Act.put, List.setIfInBounds_toArray, List.set_cons_zero, List.set_cons_succ]
              refine wpAnyH_ready (rs := [12]) (by kernel_rfl) (by simp) ?_
              refine (AllReadyH.cons rfl (fun K hK => ?_) AllReadyH.nil)
              have hk := N11.out _ (bT (bT (Below.refl _ _) E2.out) E3.out)
              have m0 : v3.cell? ⟨v0.heap.size, 0, none⟩ = some (.int .i64 0) := by rw [Lib.cell_of_heap hk]; rfl
              have m1 : v3.cell? ⟨v0.heap.size, 1, none⟩ = some (.int .i64 0) := by rw [Lib.cell_of_heap hk]; rfl
              have m2 : v3.cell? ⟨v0.heap.size, 2, none⟩ = some (.string ⟨#[]⟩) := by rw [Lib.cell_of_heap hk]; rfl
              have mf : ∀ j, v3.frozen? ⟨v0.heap.size, j, none⟩ = false := fun j => Lib.frozen_of_heap hk j
              clear hk
              have hge : wr.heap.size ≤ v0.heap.size := HBd.out.size
              have HSt : Hid (∀ u0 u1 u2, Below wr.heap.size wr (((v3.setCell ⟨v0.heap.size, 0, none⟩ u0).setCell ⟨v0.heap.size, 1, none⟩ u1).setCell ⟨v0.heap.size, 2, none⟩ u2)) := fun u0 u1 u2 => ((HB3.out.setCell (p := ⟨v0.heap.size, 0, none⟩) hge u0).setCell (p := ⟨v0.heap.size, 1, none⟩) hge u1).setCell (p := ⟨v0.heap.size, 2, none⟩) hge u2
              clear hge
              go_simp
              refine hK.out _ _ (HS.out _ (HSt.out _ _ _)) (fun hHeld => ?_)
              clear hK K m0 m1 m2 mf
              refine wpAnyH_take (i := 13) (v := ?_) rfl (by kernel_rfl) (by kernel_rfl) (by kernel_rfl) (fun _ _ _ h => h) (Or.inl ⟨by rfl, ?_⟩) hHeld ?_
              rotate_left 1
              · intro w9 hSw; obtain ⟨⟨g0, g1, g2, g3⟩, k0⟩ := hSw; go_simp; try with_reducible rfl
              change wpAnyH _ _ _ _ _ _ _ (Act.put _ (some 15) _) _
              simp only [Act.put, List.setIfInBounds_toArray, List.set_cons_zero, List.set_cons_succ]
              refine wpAnyH_done (by kernel_rfl) ?_ _
              clear hHeld
              have HB9 : Hid (Below w8.heap.size w8 (((v3.setCell ⟨v0.heap.size, 0, none⟩ (.int .i64 zk)).setCell ⟨v0.heap.size, 1, none⟩ (.int .i64 zv)).setCell ⟨v0.heap.size, 2, none⟩ (.string zs))) := HB.out.trans ((HSt.out _ _ _).mono HB.out.size)
              clear HSt HS HGx HB HBd
              cases bb <;> (
                go_wp2
                go_roundw
                case rel => exact ⟨j + 1, _, by omega, rfl, by simp, HAm.out, HB9.out⟩
                case measure => simp [intOf]; omega)
          · obtain rfl : j = F.length := by omega
            have dj : decide ((F.length : Int) < (F.length : Int)) = false := by simp
            have HSm : Hid (bb = false → letsB D M = letsB D A) := fun hb => HLS.out fun y hy => by
              rw [← HD.out] at hy
              obtain ⟨z, hz, rfl⟩ := List.mem_map.1 hy
              obtain ⟨i, hi, rfl⟩ := List.mem_iff_getElem.1 hz
              exact HAs.out hb i hi hi
            clear HAs HLS dj
            have HIm : Hid (letsB D A = true → letsB D M = true) := HMc
            generalize letsB D A = P at *
            generalize letsB D M = Q at *
            have dj : decide ((F.length : Int) < (F.length : Int)) = false := by simp
            clear HMc CX8 HGt
            go_wp2_with fail
            refine (HCm.out _ HB.out).mono ?_
            rintro e w11 ⟨rfl, hb⟩
            have B11 : Hid (Below w8.heap.size w8 w11) := hb
            clear hb dj
            go_wp2_with fail
            refine (HLF.out _ B11.out).mono ?_
            rintro e w12 ⟨rfl, hb⟩
            have B12 : Hid (Below w8.heap.size w8 w12) := hb
            clear hb
            have fin : ∀ (wx : World), Below w8.heap.size w8 wx → Below w.heap.size w wx := fun wx h => HB8.out.trans (h.mono HB8.out.size)
            have HFn : Hid (∀ (wx : World), Below w8.heap.size w8 wx → Below w.heap.size w wx) := fin
            clear fin
            cases P with
            | false =>
              go_wp2_with fail
              refine (HAw8.out _ B12.out).mono ?_
              rintro e w13 ⟨rfl, hb⟩
              have B13 : Hid (Below w8.heap.size w8 w13) := hb
              clear hb
              cases bb with
              | true =>
                go_wp2
                go_ret
                exact ⟨rfl, HFn.out _ B13.out⟩
              | false =>
                obtain rfl := HSm.out rfl
                go_wp2_with fail
                refine (HLF.out _ B13.out).mono ?_
                rintro e w14 ⟨rfl, hb⟩
                have B14 : Hid (Below w8.heap.size w8 w14) := hb
                clear hb
                go_wp2_with fail
                refine (HLM.out _ B14.out).mono ?_
                rintro e w15 ⟨rfl, hb⟩
                have B15 : Hid (Below w8.heap.size w8 w15) := hb
                clear hb
                go_wp2
                go_ret
                exact ⟨rfl, HFn.out _ B15.out⟩
            | true =>
              obtain rfl := HIm.out rfl
              go_wp2_with fail
              refine (HLM.out _ B12.out).mono ?_
              rintro e w12b ⟨rfl, hb⟩
              have B12b : Hid (Below w8.heap.size w8 w12b) := hb
              clear hb
              go_wp2_with fail
              refine (HAw8.out _ B12b.out).mono ?_
              rintro e w13 ⟨rfl, hb⟩
              have B13 : Hid (Below w8.heap.size w8 w13) := hb
              clear hb
              cases bb with
              | true =>
                go_wp2
                go_ret
                exact ⟨rfl, HFn.out _ B13.out⟩
              | false =>
                go_wp2_with fail
                refine (HLF.out _ B13.out).mono ?_
                rintro e w14 ⟨rfl, hb⟩
                have B14 : Hid (Below w8.heap.size w8 w14) := hb
                clear hb
                go_wp2_with fail
                refine (HLM.out _ B14.out).mono ?_
                rintro e w15 ⟨rfl, hb⟩
                have B15 : Hid (Below w8.heap.size w8 w15) := hb
                clear hb
                go_wp2
                go_ret
                exact ⟨rfl, HFn.out _ B15.out⟩
      | some i =>
        obtain ⟨hij, hm1, hm2⟩ := HM.out
        have e1 := mid_end2 (A := A) (x := (⟨xn, xk, xv, xs⟩ : At)) (i := i)
        obtain ⟨M, hME⟩ : ∃ M, A.take i ++ (⟨xn, xk, xv, xs⟩ : At) :: A.drop i = M := ⟨_, rfl⟩
        rw [hME] at e1
        have Hm1 : Hid (∀ k (h : k < A.length), k < i → chkA [A[k], (⟨xn, xk, xv, xs⟩ : At)] = true) := hm1
        have Hm2 : Hid (∀ h : i < A.length, chkA [A[i]'h, (⟨xn, xk, xv, xs⟩ : At)] = false) := hm2
        rw [e1] at HO
        have HME : Hid (A.take i ++ (⟨xn, xk, xv, xs⟩ : At) :: A.drop i = M) := hME
        clear hm1 hm2 HM e1 hME
        dsimp only [isS] at *
        go_upto_region 17 with fail
        obtain ⟨w8, rfl⟩ : ∃ w8, w8 = wr := ⟨_, rfl⟩
        have Hown : Hid (w8.ownsRow w7.heap.size 56 4 u9 M.length (aCells M)) := HO
        have HB78 : Hid (Below w7.heap.size w7 w8) := HB
        have HB8 : Hid (Below w.heap.size w w8) := HWb.out _ HB78.out
        have hME := HME.out
        clear HO HB HME dj hij
        obtain ⟨am, cm, hfm⟩ := (IsRow.own Hown.out).form
        subst hfm
        have hrM : IsRow w8 4 (.slice am M.length cm) M.length (aCells M) := IsRow.own Hown.out
        have hok : chkA M = true := by rw [← hME]; exact more_ok hY1.out hY2.out (by omega) hG.out Hm1.out Hm2.out
        have HLS : Hid ((∀ y ∈ D, sameL xn.data.toList y.n.data.toList = false) → letsB D M = letsB D A) := fun h => by rw [← hME]; rw [← hME] at hok; exact more_same hY1.out hok h
        have HMc : Hid (letsB D A = true → letsB D M = true) := fun h => by rw [← hME]; rw [← hME] at hok; exact more_lets hok hG.out h
        have hNM : NmA M := by rw [← hME]; exact nmA_more _ HN2.out HN3.out
        have hMl : M.length ≤ 100 := by rw [← hME, List.length_append, List.length_cons, List.length_take, List.length_drop]; omega
        have bw : ∀ W, Below w8.heap.size w8 W → Below w.heap.size w W := fun W h => HB8.out.trans (h.mono HB8.out.size)
        have HCm : Hid (∀ W, Below w8.heap.size w8 W → Calls Tryz.prog 24 #[.slice am M.length cm] W fun e w' => e = .returned (.bool true) ∧ Below w8.heap.size w8 w') := fun W h => by
          have h0 := HAt.out W (bw W h) _ M (hrM.below h) (by omega) hNM
          rw [hok] at h0
          exact h0.mono (by rintro e w' ⟨rfl, hc⟩; exact ⟨rfl, h.trans (hc.mono h.size)⟩)
        have HLF : Hid (∀ W, Below w8.heap.size w8 W → Calls Tryz.prog 22 #[.slice a1 F.length k1, .slice a3 A.length k3] W fun e w' => e = .returned (.bool (letsB D A)) ∧ Below w8.heap.size w8 w') := fun W h => by
          have h0 := HLt.out W (bw W h) _ A (HA.out W (bw W h)) (by omega) HN2.out
          exact h0.mono (by rintro e w' ⟨rfl, hc⟩; exact ⟨rfl, h.trans (hc.mono h.size)⟩)
        have HLM : Hid (∀ W, Below w8.heap.size w8 W → Calls Tryz.prog 22 #[.slice a1 F.length k1, .slice am M.length cm] W fun e w' => e = .returned (.bool (letsB D M)) ∧ Below w8.heap.size w8 w') := fun W h => by
          have h0 := HLt.out W (bw W h) _ M (hrM.below h) (by omega) hNM
          exact h0.mono (by rintro e w' ⟨rfl, hc⟩; exact ⟨rfl, h.trans (hc.mono h.size)⟩)
        have HAw8 : Hid (∀ W, Below w8.heap.size w8 W → Calls Tryz.prog 9 #[] W fun e w' => e = .returned (.bool true) ∧ Below w8.heap.size w8 w') := fun W h => by
          have h0 := awake8_any W (HW.out W (bw W h))
          exact h0.mono (by rintro e w' ⟨rfl, hc⟩; exact ⟨rfl, h.trans (hc.mono h.size)⟩)
        have CX8 : Hid (∀ W, Below w8.heap.size w8 W → W.heap[w.heap.size]? = some (.cells #[.string xn, .int .i64 xk, .int .i64 xv, .string xs] 56 (0, 0))) := fun W h => CX.out W (HB78.out.trans (h.mono HB78.out.size))
        clear hrM hok hNM bw hME HAw HAt HLt HA HW Hown HB78 CX HWb Bw7 hY1 hY2 hG HN2 h24
        clear Hm1 Hm2
        go_wp2_with fail
        go_loopw [12, 13] (fun a i wr => ∃ (j : Nat) (b : Bool), j ≤ F.length ∧ a = .bool b ∧ i = .int .i64 (j : Int) ∧ Hid (b = false → ∀ k (h : k < F.length), k < j → sameL xn.data.toList F[k].y.n.data.toList = false) ∧ Hid (Below w8.heap.size w8 wr)) (fun _ i _ => F.length - (intOf i).toNat)
        case atStart => exact ⟨0, false, Nat.zero_le _, rfl, rfl, (fun _ k h hk => absurd hk (Nat.not_lt_zero _)), Below.refl _ _⟩
        case round =>
          obtain ⟨j, bb, hj, rfl, rfl, HAs, HB⟩ := hrel
          by_cases hlk : j < F.length
          · have dj : decide ((j : Int) < (F.length : Int)) = true := by simp; omega
            clear HLF HLM HLS HAw8 HMc
            obtain ⟨b, off, rfl, hlt, c0', -, -⟩ := p_at (HF.out w (Below.refl _ _)).1 j hlk
            have q1 : (0 : Int) ≤ (j : Int) := by omega
            have q2 : (j : Int) < (F.length : Int) := by omega
            obtain ⟨zk, zv, zs, hzv⟩ := vOf_form (getA [(⟨xn, xk, xv, xs⟩ : At)] F[j].y.n)
            have HGx : Hid (∀ W, Below wr.heap.size wr W → ∀ g, W.heap[g]? = some (.cells #[.string xn, .int .i64 xk, .int .i64 xv, .string xs] 56 (0, 0)) → Calls Tryz.prog 25 #[.slice (some ⟨g, 0, none⟩) 1 1, .string F[j].y.n] W fun e w' => e = .returned (.tuple #[.agg #[.int .i64 zk, .int .i64 zv, .string zs], .bool (sameL xn.data.toList F[j].y.n.data.toList)]) ∧ Below W.heap.size W w') := fun W h g hg => by
              have hb0 : Below w.heap.size w W := HB8.out.trans ((HB.out.trans (h.mono HB.out.size)).mono HB8.out.size)
              have hmem : F[j].y ∈ D := by rw [← HD.out]; exact List.mem_map.2 ⟨F[j], List.getElem_mem hlk, rfl⟩
              have h0 := HGt.out W hb0 _ [(⟨xn, xk, xv, xs⟩ : At)] F[j].y.n (row_a1 hg) (by simp) HN3.out (Nat.le_trans (HN1.out _ hmem).1 (by decide))
              rw [hzv, get_one] at h0
              exact h0
            have HAn : Hid (∀ z, sameL xn.data.toList F[j].y.n.data.toList = z → (bb || z) = false → ∀ k (h : k < F.length), k < j + 1 → sameL xn.data.toList F[k].y.n.data.toList = false) := fun z hz hor k h hk => by
              rw [Bool.or_eq_false_iff] at hor
              by_cases e : k = j
              · subst e; rw [hz]; exact hor.2
              · exact HAs.out hor.1 k h (by omega)
            clear HAs hzv
            have HS : Hid (∀ W, Below wr.heap.size wr W → Bx5 w.heap.size xn xk xv xs b (off + j * 3) F[j].y.n W) := fun W h => by
              have h8 : Below w8.heap.size w8 W := HB.out.trans (h.mono HB.out.size)
              have hk := CX8.out W h8
              refine ⟨⟨?_, ?_, ?_, ?_⟩, ((HB8.out.trans (h8.mono HB8.out.size)).cell (p := ⟨b, _, none⟩) hlt).trans c0'⟩ <;> (rw [Lib.cell_of_heap hk]; rfl)
            clear hlt c0'
            generalize hsz : sameL xn.data.toList F[j].y.n.data.toList = zb at *
            have HAz := HAn.out zb rfl
            have HAm : Hid ((bb || zb) = false → ∀ k (h : k < F.length), k < j + 1 → sameL xn.data.toList F[k].y.n.data.toList = false) := HAz
            clear HAz HAn hsz
            generalize F[j].y.n = fn at *
            have HBd : Hid (Below wr.heap.size wr wr.drew) := (Below.refl _ _).drew
            go_wp2_with fail
            refine wp_region_held_drew (S := fun w' => Bx5 w.heap.size xn xk xv xs b (off + j * 3) fn w') (by kernel_rfl) (HS.out _ HBd.out) (fun hHeld => ?_)
            generalize hw0 : wr.drew = v0 at *
            clear hw0
            refine wpAnyH_take (i := 0) (v := ?_) rfl (by kernel_rfl) (by kernel_rfl) (by kernel_rfl) (fun _ _ _ h => h) (Or.inl ⟨by rfl, ?_⟩) hHeld ?_
            rotate_left 1
            · intro w9 hSw; obtain ⟨⟨g0, g1, g2, g3⟩, k0⟩ := hSw; go_simp; try with_reducible rfl
            change wpAnyH _ _ _ _ _ _ _ (Act.put _ (some 98) _) _
            simp only [Act.put, List.setIfInBounds_toArray, List.set_cons_zero, List.set_cons_succ]
            refine wpAnyH_take (i := 2) (v := ?_) rfl (by kernel_rfl) (by kernel_rfl) (by kernel_rfl) (fun _ _ _ h => h) (Or.inl ⟨by rfl, ?_⟩) hHeld ?_
            rotate_left 1
            · intro w9 hSw; obtain ⟨⟨g0, g1, g2, g3⟩, k0⟩ := hSw; go_simp; try with_reducible rfl
            change wpAnyH _ _ _ _ _ _ _ (Act.put _ (some 100) _) _
            simp only [Act.put, List.setIfInBounds_toArray, List.set_cons_zero, List.set_cons_succ]
            refine wpAnyH_take (i := 3) (v := ?_) rfl (by kernel_rfl) (by kernel_rfl) (by kernel_rfl) (fun _ _ _ h => h) (Or.inl ⟨by rfl, ?_⟩) hHeld ?_
            rotate_left 1
            · intro w9 hSw; obtain ⟨⟨g0, g1, g2, g3⟩, k0⟩ := hSw; go_simp; try with_reducible rfl
            change wpAnyH _ _ _ _ _ _ _ (Act.put _ (some 101) _) _
            simp only [Act.put, List.setIfInBounds_toArray, List.set_cons_zero, List.set_cons_succ]
            refine wpAnyH_take (i := 4) (v := ?_) rfl (by kernel_rfl) (by kernel_rfl) (by kernel_rfl) (fun _ _ _ h => h) (Or.inl ⟨by rfl, ?_⟩) hHeld ?_
            rotate_left 1
            · intro w9 hSw; obtain ⟨⟨g0, g1, g2, g3⟩, k0⟩ := hSw; go_simp; try with_reducible rfl
            change wpAnyH _ _ _ _ _ _ _ (Act.put _ (some 102) _) _
            simp only [Act.put, List.setIfInBounds_toArray, List.set_cons_zero, List.set_cons_succ]
            refine wpAnyH_take (i := 5) (v := ?_) rfl (by kernel_rfl) (by kernel_rfl) (by kernel_rfl) (fun _ _ _ h => h) (Or.inl ⟨by rfl, ?_⟩) hHeld ?_
            rotate_left 1
            · intro w9 hSw; obtain ⟨⟨g0, g1, g2, g3⟩, k0⟩ := hSw; go_simp; try with_reducible rfl
            change wpAnyH _ _ _ _ _ _ _ (Act.put _ (some 103) _) _
            simp only [Act.put, List.setIfInBounds_toArray, List.set_cons_zero, List.set_cons_succ]
            refine wpAnyH_take (i := 6) (v := ?_) rfl (by kernel_rfl) (by kernel_rfl) (by kernel_rfl) (fun _ _ _ h => h) (Or.inl ⟨by rfl, ?_⟩) hHeld ?_
            rotate_left 1
            · intro w9 hSw; obtain ⟨⟨g0, g1, g2, g3⟩, k0⟩ := hSw; go_simp; try with_reducible rfl
            change wpAnyH _ _ _ _ _ _ _ (Act.put _ (some 104) _) _
            simp only [Act.put, List.setIfInBounds_toArray, List.set_cons_zero, List.set_cons_succ]
            refine wpAnyH_ready (rs := [1, 11]) (by kernel_rfl) (by simp) ?_
            refine (AllReadyH.cons rfl (fun K hK => ?_) (AllReadyH.cons rfl (fun K hK => ?_) AllReadyH.nil))
            · obtain ⟨v1, hv1⟩ : ∃ v1, v1 = v0.alloc (.cells #[.string xn, .int .i64 xk, .int .i64 xv, .string xs] 56) := ⟨_, rfl⟩
              have E1 : Hid (Below v0.heap.size v0 v1) := by show Below _ _ _; rw [hv1]; exact al_b _ _
              have hn : v1.heap[v0.heap.size]? = some (.cells #[.string xn, .int .i64 xk, .int .i64 xv, .string xs] 56 (0, 0)) := by rw [hv1]; exact new_at _ _
              have N1 : Hid (∀ W, Below v1.heap.size v1 W → W.heap[v0.heap.size]? = some (.cells #[.string xn, .int .i64 xk, .int .i64 xv, .string xs] 56 (0, 0))) := fun W h => (h.block _ (Array.getElem?_eq_some_iff.1 hn).1).trans hn
              have HB1 : Hid (Below wr.heap.size wr v1) := bT HBd.out E1.out
              clear hn
              go_simp
              rw [← hv1]
              clear hv1
              refine hK.out _ _ (HS.out _ HB1.out) (fun hHeld => ?_)
              clear hK K
              refine wpAnyH_ready (rs := [7, 11]) (by kernel_rfl) (by simp) ?_
              refine (AllReadyH.cons rfl (fun K hK => ?_) (AllReadyH.cons rfl (fun K hK => ?_) AllReadyH.nil))
              · go_simp
                refine (HGx.out _ HB1.out _ (N1.out _ (Below.refl _ _))).mono ?_
                rintro e v2 ⟨rfl, hb⟩
                have E2 : Hid (Below v1.heap.size v1 v2) := hb
                have HB2 : Hid (Below wr.heap.size wr v2) := bT HB1.out hb
                clear hb
                go_simp
                refine hK.out _ _ (HS.out _ HB2.out) (fun hHeld => ?_)
                clear hK K
                refine wpAnyH_take (i := 8) (v := ?_) rfl (by kernel_rfl) (by kernel_rfl) (by kernel_rfl) (fun _ _ _ h => h) (Or.inl ⟨by rfl, ?_⟩) hHeld ?_
                rotate_left 1
                · intro w9 hSw; obtain ⟨⟨g0, g1, g2, g3⟩, k0⟩ := hSw; go_simp; try with_reducible rfl
                change wpAnyH _ _ _ _ _ _ _ (Act.put _ (some 97) _) _
                simp only [Act.put, List.setIfInBounds_toArray, List.set_cons_zero, List.set_cons_succ]
                refine wpAnyH_take (i := 9) (v := ?_) rfl (by kernel_rfl) (by kernel_rfl) (by kernel_rfl) (fun _ _ _ h => h) (Or.inl ⟨by rfl, ?_⟩) hHeld ?_
                rotate_left 1
                · intro w9 hSw; obtain ⟨⟨g0, g1, g2, g3⟩, k0⟩ := hSw; go_simp; try with_reducible rfl
                change wpAnyH _ _ _ _ _ _ _ (Act.put _ (some 106) _) _
                simp only [Act.put, List.setIfInBounds_toArray, List.set_cons_zero, List.set_cons_succ]
                refine wpAnyH_take (i := 10) (v := ?_) rfl (by kernel_rfl) (by kernel_rfl) (by kernel_rfl) (fun _ _ _ h => h) (Or.inl ⟨by rfl, ?_⟩) hHeld ?_
                rotate_left 1
                · intro w9 hSw; obtain ⟨⟨g0, g1, g2, g3⟩, k0⟩ := hSw; go_simp; try with_reducible rfl
                change wpAnyH _ _ _ _ _ _ _ (Act.put _ (some 107) _) _
                simp only [Act.put, List.setIfInBounds_toArray, List.set_cons_zero, List.set_cons_succ]
                refine wpAnyH_ready (rs := [11]) (by kernel_rfl) (by simp) ?_
                refine (AllReadyH.cons rfl (fun K hK => ?_) AllReadyH.nil)
                obtain ⟨v3, hv3⟩ : ∃ v3, v3 = v2.alloc (.cells #[.int .i64 0, .int .i64 0, .string ⟨#[]⟩] 54) := ⟨_, rfl⟩
                have E3 : Hid (Below v2.heap.size v2 v3) := by show Below _ _ _; rw [hv3]; exact al_b _ _
                have hn : v3.heap[v2.heap.size]? = some (.cells #[.int .i64 0, .int .i64 0, .string ⟨#[]⟩] 54 (0, 0)) := by rw [hv3]; exact new_at _ _
                have N11 : Hid (∀ W, Below v3.heap.size v3 W → W.heap[v2.heap.size]? = some (.cells #[.int .i64 0, .int .i64 0, .string ⟨#[]⟩] 54 (0, 0))) := fun W h => (h.block _ (Array.getElem?_eq_some_iff.1 hn).1).trans hn
                have HB3 : Hid (Below wr.heap.size wr v3) := bT HB2.out E3.out
                clear hn
                go_simp
                rw [← hv3]
                clear hv3
                refine hK.out _ _ (HS.out _ HB3.out) (fun hHeld => ?_)
                clear hK K
                refine wpAnyH_ready (rs := [12]) (by kernel_rfl) (by simp) ?_
                refine (AllReadyH.cons rfl (fun K hK => ?_) AllReadyH.nil)
                have hk := N11.out _ (Below.refl _ _)
                have m0 : v3.cell? ⟨v2.heap.size, 0, none⟩ = some (.int .i64 0) := by rw [Lib.cell_of_heap hk]; rfl
                have m1 : v3.cell? ⟨v2.heap.size, 1, none⟩ = some (.int .i64 0) := by rw [Lib.cell_of_heap hk]; rfl
                have m2 : v3.cell? ⟨v2.heap.size, 2, none⟩ = some (.string ⟨#[]⟩) := by rw [Lib.cell_of_heap hk]; rfl
                have mf : ∀ j, v3.frozen? ⟨v2.heap.size, j, none⟩ = false := fun j => Lib.frozen_of_heap hk j
                clear hk
                have hge : wr.heap.size ≤ v2.heap.size := HB2.out.size
                have HSt : Hid (∀ u0 u1 u2, Below wr.heap.size wr (((v3.setCell ⟨v2.heap.size, 0, none⟩ u0).setCell ⟨v2.heap.size, 1, none⟩ u1).setCell ⟨v2.heap.size, 2, none⟩ u2)) := fun u0 u1 u2 => ((HB3.out.setCell (p := ⟨v2.heap.size, 0, none⟩) hge u0).setCell (p := ⟨v2.heap.size, 1, none⟩) hge u1).setCell (p := ⟨v2.heap.size, 2, none⟩) hge u2
                clear hge
                go_simp
                refine hK.out _ _ (HS.out _ (HSt.out _ _ _)) (fun hHeld => ?_)
                clear hK K m0 m1 m2 mf
                refine wpAnyH_take (i := 13) (v := ?_) rfl (by kernel_rfl) (by kernel_rfl) (by kernel_rfl) (fun _ _ _ h => h) (Or.inl ⟨by rfl, ?_⟩) hHeld ?_
                rotate_left 1
                · intro w9 hSw; obtain ⟨⟨g0, g1, g2, g3⟩, k0⟩ := hSw; go_simp; try with_reducible rfl
                change wpAnyH _ _ _ _ _ _ _ (Act.put _ (some 15) _) _
                simp only [Act.put, List.setIfInBounds_toArray, List.set_cons_zero, List.set_cons_succ]
                refine wpAnyH_done (by kernel_rfl) ?_ _
                clear hHeld
                have HB9 : Hid (Below w8.heap.size w8 (((v3.setCell ⟨v2.heap.size, 0, none⟩ (.int .i64 zk)).setCell ⟨v2.heap.size, 1, none⟩ (.int .i64 zv)).setCell ⟨v2.heap.size, 2, none⟩ (.string zs))) := HB.out.trans ((HSt.out _ _ _).mono HB.out.size)
                clear HSt HS HGx HB HBd
                cases bb <;> (
                  go_wp2
                  go_roundw
                  case rel => exact ⟨j + 1, _, by omega, rfl, by simp, HAm.out, HB9.out⟩
                  case measure => simp [intOf]; omega)
              · obtain ⟨v2, hv2⟩ : ∃ v2, v2 = v1.alloc (.cells #[.int .i64 0, .int .i64 0, .string ⟨#[]⟩] 54) := ⟨_, rfl⟩
                have E2 : Hid (Below v1.heap.size v1 v2) := by show Below _ _ _; rw [hv2]; exact al_b _ _
                have hn : v2.heap[v1.heap.size]? = some (.cells #[.int .i64 0, .int .i64 0, .string ⟨#[]⟩] 54 (0, 0)) := by rw [hv2]; exact new_at _ _
                have N11 : Hid (∀ W, Below v2.heap.size v2 W → W.heap[v1.heap.size]? = some (.cells #[.int .i64 0, .int .i64 0, .string ⟨#[]⟩] 54 (0, 0))) := fun W h => (h.block _ (Array.getElem?_eq_some_iff.1 hn).1).trans hn
                have HB2 : Hid (Below wr.heap.size wr v2) := bT HB1.out E2.out
                clear hn
                go_simp
                rw [← hv2]
                clear hv2
                refine hK.out _ _ (HS.out _ HB2.out) (fun hHeld => ?_)
                clear hK K
                refine wpAnyH_ready (rs := [7]) (by kernel_rfl) (by simp) ?_
                refine (AllReadyH.cons rfl (fun K hK => ?_) AllReadyH.nil)
                go_simp
                refine (HGx.out _ HB2.out _ (N1.out _ (bT (Below.refl _ _) E2.out))).mono ?_
                rintro e v3 ⟨rfl, hb⟩
                have E3 : Hid (Below v2.heap.size v2 v3) := hb
                have HB3 : Hid (Below wr.heap.size wr v3) := bT HB2.out hb
                clear hb
                go_simp
                refine hK.out _ _ (HS.out _ HB3.out) (fun hHeld => ?_)
                clear hK K
                refine wpAnyH_take (i := 8) (v := ?_) rfl (by kernel_rfl) (by kernel_rfl) (by kernel_rfl) (fun _ _ _ h => h) (Or.inl ⟨by rfl, ?_⟩) hHeld ?_
                rotate_left 1
                · intro w9 hSw; obtain ⟨⟨g0, g1, g2, g3⟩, k0⟩ := hSw; go_simp; try with_reducible rfl
                change wpAnyH _ _ _ _ _ _ _ (Act.put _ (some 97) _) _
                simp only [Act.put, List.setIfInBounds_toArray, List.set_cons_zero, List.set_cons_succ]
                refine wpAnyH_take (i := 9) (v := ?_) rfl (by kernel_rfl) (by kernel_rfl) (by kernel_rfl) (fun _ _ _ h => h) (Or.inl ⟨by rfl, ?_⟩) hHeld ?_
                rotate_left 1
                · intro w9 hSw; obtain ⟨⟨g0, g1, g2, g3⟩, k0⟩ := hSw; go_simp; try with_reducible rfl
                change wpAnyH _ _ _ _ _ _ _ (Act.put _ (some 106) _) _
                simp only [Act.put, List.setIfInBounds_toArray, List.set_cons_zero, List.set_cons_succ]
                refine wpAnyH_take (i := 10) (v := ?_) rfl (by kernel_rfl) (by kernel_rfl) (by kernel_rfl) (fun _ _ _ h => h) (Or.inl ⟨by rfl, ?_⟩) hHeld ?_
                rotate_left 1
                · intro w9 hSw; obtain ⟨⟨g0, g1, g2, g3⟩, k0⟩ := hSw; go_simp; try with_reducible rfl
                change wpAnyH _ _ _ _ _ _ _ (Act.put _ (some 107) _) _
                simp only [Act.put, List.setIfInBounds_toArray, List.set_cons_zero, List.set_cons_succ]
                refine wpAnyH_ready (rs := [12]) (by kernel_rfl) (by simp) ?_
                refine (AllReadyH.cons rfl (fun K hK => ?_) AllReadyH.nil)
                have hk := N11.out _ (bT (Below.refl _ _) E3.out)
                have m0 : v3.cell? ⟨v1.heap.size, 0, none⟩ = some (.int .i64 0) := by rw [Lib.cell_of_heap hk]; rfl
                have m1 : v3.cell? ⟨v1.heap.size, 1, none⟩ = some (.int .i64 0) := by rw [Lib.cell_of_heap hk]; rfl
                have m2 : v3.cell? ⟨v1.heap.size, 2, none⟩ = some (.string ⟨#[]⟩) := by rw [Lib.cell_of_heap hk]; rfl
                have mf : ∀ j, v3.frozen? ⟨v1.heap.size, j, none⟩ = false := fun j => Lib.frozen_of_heap hk j
                clear hk
                have hge : wr.heap.size ≤ v1.heap.size := HB1.out.size
                have HSt : Hid (∀ u0 u1 u2, Below wr.heap.size wr (((v3.setCell ⟨v1.heap.size, 0, none⟩ u0).setCell ⟨v1.heap.size, 1, none⟩ u1).setCell ⟨v1.heap.size, 2, none⟩ u2)) := fun u0 u1 u2 => ((HB3.out.setCell (p := ⟨v1.heap.size, 0, none⟩) hge u0).setCell (p := ⟨v1.heap.size, 1, none⟩) hge u1).setCell (p := ⟨v1.heap.size, 2, none⟩) hge u2
                clear hge
                go_simp
                refine hK.out _ _ (HS.out _ (HSt.out _ _ _)) (fun hHeld => ?_)
                clear hK K m0 m1 m2 mf
                refine wpAnyH_take (i := 13) (v := ?_) rfl (by kernel_rfl) (by kernel_rfl) (by kernel_rfl) (fun _ _ _ h => h) (Or.inl ⟨by rfl, ?_⟩) hHeld ?_
                rotate_left 1
                · intro w9 hSw; obtain ⟨⟨g0, g1, g2, g3⟩, k0⟩ := hSw; go_simp; try with_reducible rfl
                change wpAnyH _ _ _ _ _ _ _ (Act.put _ (some 15) _) _
                simp only [Act.put, List.setIfInBounds_toArray, List.set_cons_zero, List.set_cons_succ]
                refine wpAnyH_done (by kernel_rfl) ?_ _
                clear hHeld
                have HB9 : Hid (Below w8.heap.size w8 (((v3.setCell ⟨v1.heap.size, 0, none⟩ (.int .i64 zk)).setCell ⟨v1.heap.size, 1, none⟩ (.int .i64 zv)).setCell ⟨v1.heap.size, 2, none⟩ (.string zs))) := HB.out.trans ((HSt.out _ _ _).mono HB.out.size)
                clear HSt HS HGx HB HBd
                cases bb <;> (
                  go_wp2
                  go_roundw
                  case rel => exact ⟨j + 1, _, by omega, rfl, by simp, HAm.out, HB9.out⟩
                  case measure => simp [intOf]; omega)
            · obtain ⟨v1, hv1⟩ : ∃ v1, v1 = v0.alloc (.cells #[.int .i64 0, .int .i64 0, .string ⟨#[]⟩] 54) := ⟨_, rfl⟩
              have E1 : Hid (Below v0.heap.size v0 v1) := by show Below _ _ _; rw [hv1]; exact al_b _ _
              have hn : v1.heap[v0.heap.size]? = some (.cells #[.int .i64 0, .int .i64 0, .string ⟨#[]⟩] 54 (0, 0)) := by rw [hv1]; exact new_at _ _
              have N11 : Hid (∀ W, Below v1.heap.size v1 W → W.heap[v0.heap.size]? = some (.cells #[.int .i64 0, .int .i64 0, .string ⟨#[]⟩] 54 (0, 0))) := fun W h => (h.block _ (Array.getElem?_eq_some_iff.1 hn).1).trans hn
              have HB1 : Hid (Below wr.heap.size wr v1) := bT HBd.out E1.out
              clear hn
              go_simp
              rw [← hv1]
              clear hv1
              refine hK.out _ _ (HS.out _ HB1.out) (fun hHeld => ?_)
              clear hK K
              refine wpAnyH_ready (rs := [1]) (by kernel_rfl) (by simp) ?_
              refine (AllReadyH.cons rfl (fun K hK => ?_) AllReadyH.nil)
              obtain ⟨v2, hv2⟩ : ∃ v2, v2 = v1.alloc (.cells #[.string xn, .int .i64 xk, .int .i64 xv, .string xs] 56) := ⟨_, rfl⟩
              have E2 : Hid (Below v1.heap.size v1 v2) := by show Below _ _ _; rw [hv2]; exact al_b _ _
              have hn : v2.heap[v1.heap.size]? = some (.cells #[.string xn, .int .i64 xk, .int .i64 xv, .string xs] 56 (0, 0)) := by rw [hv2]; exact new_at _ _
              have N1 : Hid (∀ W, Below v2.heap.size v2 W → W.heap[v1.heap.size]? = some (.cells #[.string xn, .int .i64 xk, .int .i64 xv, .string xs] 56 (0, 0))) := fun W h => (h.block _ (Array.getElem?_eq_some_iff.1 hn).1).trans hn
              have HB2 : Hid (Below wr.heap.size wr v2) := bT HB1.out E2.out
              clear hn
              go_simp
              rw [← hv2]
              clear hv2
              refine hK.out _ _ (HS.out _ HB2.out) (fun hHeld => ?_)
              clear hK K
              refine wpAnyH_ready (rs := [7]) (by kernel_rfl) (by simp) ?_
              refine (AllReadyH.cons rfl (fun K hK => ?_) AllReadyH.nil)
              go_simp
              refine (HGx.out _ HB2.out _ (N1.out _ (Below.refl _ _))).mono ?_
              rintro e v3 ⟨rfl, hb⟩
              have E3 : Hid (Below v2.heap.size v2 v3) := hb
              have HB3 : Hid (Below wr.heap.size wr v3) := bT HB2.out hb
              clear hb
              go_simp
              refine hK.out _ _ (HS.out _ HB3.out) (fun hHeld => ?_)
              clear hK K
              refine wpAnyH_take (i := 8) (v := ?_) rfl (by kernel_rfl) (by kernel_rfl) (by kernel_rfl) (fun _ _ _ h => h) (Or.inl ⟨by rfl, ?_⟩) hHeld ?_
              rotate_left 1
              · intro w9 hSw; obtain ⟨⟨g0, g1, g2, g3⟩, k0⟩ := hSw; go_simp; try with_reducible rfl
              change wpAnyH _ _ _ _ _ _ _ (Act.put _ (some 97) _) _
              simp only [Act.put, List.setIfInBounds_toArray, List.set_cons_zero, List.set_cons_succ]
              refine wpAnyH_take (i := 9) (v := ?_) rfl (by kernel_rfl) (by kernel_rfl) (by kernel_rfl) (fun _ _ _ h => h) (Or.inl ⟨by rfl, ?_⟩) hHeld ?_
              rotate_left 1
              · intro w9 hSw; obtain ⟨⟨g0, g1, g2, g3⟩, k0⟩ := hSw; go_simp; try with_reducible rfl
              change wpAnyH _ _ _ _ _ _ _ (Act.put _ (some 106) _) _
              simp only [Act.put, List.setIfInBounds_toArray, List.set_cons_zero, List.set_cons_succ]
              refine wpAnyH_take (i := 10) (v := ?_) rfl (by kernel_rfl) (by kernel_rfl) (by kernel_rfl) (fun _ _ _ h => h) (Or.inl ⟨by rfl, ?_⟩) hHeld ?_
              rotate_left 1
              · intro w9 hSw; obtain ⟨⟨g0, g1, g2, g3⟩, k0⟩ := hSw; go_simp; try with_reducible rfl
              change wpAnyH _ _ _ _ _ _ _ (Act.put _ (some 107) _) _
              simp only [Act.put, List.setIfInBounds_toArray, List.set_cons_zero, List.set_cons_succ]
              refine wpAnyH_ready (rs := [12]) (by kernel_rfl) (by simp) ?_
              refine (AllReadyH.cons rfl (fun K hK => ?_) AllReadyH.nil)
              have hk := N11.out _ (bT (bT (Below.refl _ _) E2.out) E3.out)
              have m0 : v3.cell? ⟨v0.heap.size, 0, none⟩ = some (.int .i64 0) := by rw [Lib.cell_of_heap hk]; rfl
              have m1 : v3.cell? ⟨v0.heap.size, 1, none⟩ = some (.int .i64 0) := by rw [Lib.cell_of_heap hk]; rfl
              have m2 : v3.cell? ⟨v0.heap.size, 2, none⟩ = some (.string ⟨#[]⟩) := by rw [Lib.cell_of_heap hk]; rfl
              have mf : ∀ j, v3.frozen? ⟨v0.heap.size, j, none⟩ = false := fun j => Lib.frozen_of_heap hk j
              clear hk
              have hge : wr.heap.size ≤ v0.heap.size := HBd.out.size
              have HSt : Hid (∀ u0 u1 u2, Below wr.heap.size wr (((v3.setCell ⟨v0.heap.size, 0, none⟩ u0).setCell ⟨v0.heap.size, 1, none⟩ u1).setCell ⟨v0.heap.size, 2, none⟩ u2)) := fun u0 u1 u2 => ((HB3.out.setCell (p := ⟨v0.heap.size, 0, none⟩) hge u0).setCell (p := ⟨v0.heap.size, 1, none⟩) hge u1).setCell (p := ⟨v0.heap.size, 2, none⟩) hge u2
              clear hge
              go_simp
              refine hK.out _ _ (HS.out _ (HSt.out _ _ _)) (fun hHeld => ?_)
              clear hK K m0 m1 m2 mf
              refine wpAnyH_take (i := 13) (v := ?_) rfl (by kernel_rfl) (by kernel_rfl) (by kernel_rfl) (fun _ _ _ h => h) (Or.inl ⟨by rfl, ?_⟩) hHeld ?_
              rotate_left 1
              · intro w9 hSw; obtain ⟨⟨g0, g1, g2, g3⟩, k0⟩ := hSw; go_simp; try with_reducible rfl
              change wpAnyH _ _ _ _ _ _ _ (Act.put _ (some 15) _) _
              simp only [Act.put, List.setIfInBounds_toArray, List.set_cons_zero, List.set_cons_succ]
              refine wpAnyH_done (by kernel_rfl) ?_ _
              clear hHeld
              have HB9 : Hid (Below w8.heap.size w8 (((v3.setCell ⟨v0.heap.size, 0, none⟩ (.int .i64 zk)).setCell ⟨v0.heap.size, 1, none⟩ (.int .i64 zv)).setCell ⟨v0.heap.size, 2, none⟩ (.string zs))) := HB.out.trans ((HSt.out _ _ _).mono HB.out.size)
              clear HSt HS HGx HB HBd
              cases bb <;> (
                go_wp2
                go_roundw
                case rel => exact ⟨j + 1, _, by omega, rfl, by simp, HAm.out, HB9.out⟩
                case measure => simp [intOf]; omega)
          · obtain rfl : j = F.length := by omega
            have dj : decide ((F.length : Int) < (F.length : Int)) = false := by simp
            have HSm : Hid (bb = false → letsB D M = letsB D A) := fun hb => HLS.out fun y hy => by
              rw [← HD.out] at hy
              obtain ⟨z, hz, rfl⟩ := List.mem_map.1 hy
              obtain ⟨i, hi, rfl⟩ := List.mem_iff_getElem.1 hz
              exact HAs.out hb i hi hi
            clear HAs HLS dj
            have HIm : Hid (letsB D A = true → letsB D M = true) := HMc
            generalize letsB D A = P at *
            generalize letsB D M = Q at *
            have dj : decide ((F.length : Int) < (F.length : Int)) = false := by simp
            clear HMc CX8 HGt
            go_wp2_with fail
            refine (HCm.out _ HB.out).mono ?_
            rintro e w11 ⟨rfl, hb⟩
            have B11 : Hid (Below w8.heap.size w8 w11) := hb
            clear hb dj
            go_wp2_with fail
            refine (HLF.out _ B11.out).mono ?_
            rintro e w12 ⟨rfl, hb⟩
            have B12 : Hid (Below w8.heap.size w8 w12) := hb
            clear hb
            have fin : ∀ (wx : World), Below w8.heap.size w8 wx → Below w.heap.size w wx := fun wx h => HB8.out.trans (h.mono HB8.out.size)
            have HFn : Hid (∀ (wx : World), Below w8.heap.size w8 wx → Below w.heap.size w wx) := fin
            clear fin
            cases P with
            | false =>
              go_wp2_with fail
              refine (HAw8.out _ B12.out).mono ?_
              rintro e w13 ⟨rfl, hb⟩
              have B13 : Hid (Below w8.heap.size w8 w13) := hb
              clear hb
              cases bb with
              | true =>
                go_wp2
                go_ret
                exact ⟨rfl, HFn.out _ B13.out⟩
              | false =>
                obtain rfl := HSm.out rfl
                go_wp2_with fail
                refine (HLF.out _ B13.out).mono ?_
                rintro e w14 ⟨rfl, hb⟩
                have B14 : Hid (Below w8.heap.size w8 w14) := hb
                clear hb
                go_wp2_with fail
                refine (HLM.out _ B14.out).mono ?_
                rintro e w15 ⟨rfl, hb⟩
                have B15 : Hid (Below w8.heap.size w8 w15) := hb
                clear hb
                go_wp2
                go_ret
                exact ⟨rfl, HFn.out _ B15.out⟩
            | true =>
              obtain rfl := HIm.out rfl
              go_wp2_with fail
              refine (HLM.out _ B12.out).mono ?_
              rintro e w12b ⟨rfl, hb⟩
              have B12b : Hid (Below w8.heap.size w8 w12b) := hb
              clear hb
              go_wp2_with fail
              refine (HAw8.out _ B12b.out).mono ?_
              rintro e w13 ⟨rfl, hb⟩
              have B13 : Hid (Below w8.heap.size w8 w13) := hb
              clear hb
              cases bb with
              | true =>
                go_wp2
                go_ret
                exact ⟨rfl, HFn.out _ B13.out⟩
              | false =>
                go_wp2_with fail
                refine (HLF.out _ B13.out).mono ?_
                rintro e w14 ⟨rfl, hb⟩
                have B14 : Hid (Below w8.heap.size w8 w14) := hb
                clear hb
                go_wp2_with fail
                refine (HLM.out _ B14.out).mono ?_
                rintro e w15 ⟨rfl, hb⟩
                have B15 : Hid (Below w8.heap.size w8 w15) := hb
                clear hb
                go_wp2
                go_ret
                exact ⟨rfl, HFn.out _ B15.out⟩
end Go.Proofs.YtbekpemidpngaaaGreatDoor
