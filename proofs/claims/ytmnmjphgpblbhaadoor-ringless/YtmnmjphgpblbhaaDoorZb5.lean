/- RingLess: for all keys, numbers and places the law returns true. -/
import Derived.Test.YtmnmjphgpblbhaaDoorZb4
import Derived.Test.YtmnmjphgpblbhaaDoorZb2
import Derived.ProofKit
import Derived.LaidMore
import Derived.Stop.LaidErr
import Derived.OpenShut
import Derived.ShutString
import Derived.ChangeOld
import Derived.Below
import Derived.Lib.LaidTab
import Derived.Stop.Joined
import Derived.Deep.Slices
import Derived.Deep.Strs
import Derived.SizedLaws
namespace Go.Proofs.YtmnmjphgpblbhaaDoor
open Go.RowKit

theorem nodes_of {l : List Int} (h1 : ∀ x ∈ l, 1 ≤ x ∧ x ≤ 15) (h2 : l.Pairwise (· < ·)) : NodesP l := fun k hk =>
  ⟨(h1 _ (List.getElem_mem hk)).1, (h1 _ (List.getElem_mem hk)).2, fun j e => List.pairwise_iff_getElem.1 h2 j k (by omega) hk (by omega)⟩
theorem nodes_pw {l : List Int} (h : NodesP l) : l.Pairwise (· < ·) := List.pairwise_iff_getElem.2 fun i j _ hj hij => nodes_rise h j i hj hij
theorem nodes_wo {l : List Int} (h : NodesP l) (n : Int) : NodesP (woL l n) := nodes_of (fun _ hx => nodes_mem h (List.mem_filter.1 hx).1) ((nodes_pw h).filter _)
theorem rg_wo {l : List Int} (h : NodesP l) (n : Int) : rgL (woL l n) = (rgL l).filter (fun (m : Nat) => decide ((m : Int) ≠ n)) := by
  rw [rgL_of (nodes_wo h n), rgL_of h, List.filter_filter]
  congr 1
  funext m
  unfold woL
  simp [List.mem_filter, Bool.and_comm]
theorem hs_filter (key : Nat) (r : List Nat) (p : Nat → Bool) : hsL key (r.filter p) = (hsL key r).filter p := by
  unfold hsL
  rw [List.filter_append, List.filter_filter, List.filter_filter, List.filter_filter, List.filter_filter]
  congr 1
  · congr 1; funext m; rw [Bool.and_comm]
  · congr 1; funext m; rw [Bool.and_comm]
/-- The heirs, as ints. -/
noncomputable def hI (key : Nat) (l : List Int) : List Int := (hsL key (rgL l)).map fun (n : Nat) => (n : Int)
theorem hI_wo {l : List Int} (h : NodesP l) (key : Nat) (n : Int) : hI key (woL l n) = woL (hI key l) n := by
  unfold hI
  rw [rg_wo h, hs_filter]
  unfold woL
  rw [List.filter_map]
  congr 1
theorem hI_len {l : List Int} (h : NodesP l) (key : Nat) : (hI key l).length = l.length := by unfold hI; rw [List.length_map, hsL_len key _ (rgL_sorted l), rgL_len h]
theorem hI_nodup (l : List Int) (key : Nat) : (hI key l).Nodup := map_cast_nodup ((hsL_perm key _ (rgL_sorted l)).symm.nodup (rgL_nodup l))
theorem hI_head (l : List Int) (key : Nat) (h0 : 0 < (hI key l).length) : (hI key l)[0]? = some (ownL key l : Int) := by
  unfold hI ownL at *
  rw [List.length_map] at h0
  rw [List.getElem?_map, List.head?_eq_getElem?, List.getElem?_eq_getElem h0]
  rfl
theorem wo_len {l : List Int} (h : l.Nodup) {n : Int} (hn : n ∈ l) : (woL l n).length + 1 = l.length := by
  induction l with
  | nil => cases hn
  | cons a l ih =>
    have h2 := List.nodup_cons.1 h
    unfold woL
    by_cases e : a = n
    · subst e
      rw [List.filter_cons_of_neg (by simp), List.filter_eq_self.2 (fun x hx => by simp; exact fun e => h2.1 (e ▸ hx)), List.length_cons]
    · rw [List.filter_cons_of_pos (by simpa using e), List.length_cons, List.length_cons]
      have := ih h2.2 ((List.mem_cons.1 hn).resolve_left (fun h => e h.symm))
      unfold woL at this
      omega
theorem wo_head {H : List Int} (hd : H.Nodup) (n a b : Int) (h0 : H[0]? = some a) (h1 : H[1]? = some b) : (woL H n)[0]? = some (if a = n then b else a) := by
  match H, h0, h1 with
  | x :: y :: t, h0, h1 =>
    simp at h0 h1
    subst h0 h1
    unfold woL
    by_cases e : x = n
    · subst e
      have hxy : y ≠ x := fun e => (List.nodup_cons.1 hd).1 (by rw [e]; simp)
      rw [List.filter_cons_of_neg (by simp), List.filter_cons_of_pos (by simpa using hxy), if_pos rfl]
      rfl
    · rw [List.filter_cons_of_pos (by simpa using e), if_neg e]
      rfl
/-- The place that a number tells, whatever it is. -/
theorem which_at (x : Int) (n : Nat) (h : 0 < n) : ∃ q : Nat, q < n ∧ (x.tmod n + n).tmod n = (q : Int) ∧ -(n : Int) < x.tmod n ∧ x.tmod n < n := by
  have h1 : x.tmod n < n := Int.tmod_lt_of_pos x (by omega)
  have h2 : -(n : Int) < x.tmod n := by
    have := Int.tmod_lt_of_pos (-x) (show (0 : Int) < n by omega)
    rw [Int.neg_tmod] at this
    omega
  have h3 : 0 ≤ (x.tmod n + n).tmod n := Int.tmod_nonneg _ (by omega)
  have h4 : (x.tmod n + n).tmod n < n := Int.tmod_lt_of_pos _ (by omega)
  exact ⟨((x.tmod n + n).tmod n).toNat, by omega, by omega, h2, h1⟩
set_option maxRecDepth 100000 in
set_option maxHeartbeats 4000000 in
theorem ringLess_walk (key : Nat) (v : Value) (l : List Int) (which : Int) (w : World) (hr : IsRow w 1 v l.length (iCells l)) (hl : l.length ≤ 140737488355328) (_hm1 : -9223372036854775808 ≤ which) (_hm2 : which ≤ 9223372036854775807) :
    Calls Tryd.prog 6 #[.int .u64 (key : Int), v, .int .i64 which] w fun e w' => e = .returned (.bool true) ∧ Below w.heap.size w w' := by
  obtain ⟨a0, cap0, rfl⟩ := hr.form
  have HR : Hid (IsRow w 1 (.slice a0 l.length cap0) l.length (iCells l)) := hr
  have HA : Hid (∀ w, Calls Tryd.prog 9 #[] w fun e w' => e = .returned (.bool true) ∧ Below w.heap.size w w') := awake10_any
  have HFw : Hid (Calls Tryd.prog 8 #[.slice a0 l.length cap0] w fun e w' => e = .returned (.bool (decide (l.length ≤ 40))) ∧ w' = w) := few_any _ l w hr hl
  clear hr
  by_cases h40 : l.length ≤ 40
  rotate_left
  · rw [decide_eq_false h40] at HFw
    go_enter Tryd.func6, Tryd.ntmps6
    go_wp2_with fail
    refine HFw.out.mono ?_
    rintro e w1 ⟨rfl, hw⟩
    subst hw
    go_wp2_with fail
    refine (HA.out _).mono ?_
    rintro e w2 ⟨rfl, hb2⟩
    go_wp2
    go_ret
    exact ⟨rfl, hb2⟩
  rw [decide_eq_true h40] at HFw
  have HNd : Hid (Calls Tryd.prog 14 #[.slice a0 l.length cap0] w fun e w' => e = .returned (.bool (nodesB l)) ∧ Below w.heap.size w w') := refNodes_any _ l w HR.out (by omega)
  by_cases hN : NodesP l
  rotate_left
  · rw [nodesB_false hN] at HNd
    go_enter Tryd.func6, Tryd.ntmps6
    go_wp2_with fail
    refine HFw.out.mono ?_
    rintro e w1 ⟨rfl, hw⟩
    subst hw
    go_wp2_with fail
    refine HNd.out.mono ?_
    rintro e w2 ⟨rfl, hb2⟩
    go_wp2_with fail
    refine (HA.out _).mono ?_
    rintro e w3 ⟨rfl, hb3⟩
    have HB : Hid (Below w1.heap.size w1 w3) := hb2.trans (hb3.mono hb2.size)
    clear hb2 hb3
    go_wp2
    go_ret
    exact ⟨rfl, HB.out⟩
  rw [nodesB_true hN] at HNd
  by_cases h2 : l.length < 2
  · have d0 : decide ((l.length : Int) < 2) = true := by simp; omega
    go_enter Tryd.func6, Tryd.ntmps6
    go_wp2_with fail
    refine HFw.out.mono ?_
    rintro e w1 ⟨rfl, hw⟩
    subst hw
    go_wp2_with fail
    refine HNd.out.mono ?_
    rintro e w2 ⟨rfl, hb2⟩
    go_wp2_with fail
    refine (HA.out _).mono ?_
    rintro e w3 ⟨rfl, hb3⟩
    have HB : Hid (Below w1.heap.size w1 w3) := hb2.trans (hb3.mono hb2.size)
    clear hb2 hb3
    go_wp2
    go_ret
    exact ⟨rfl, HB.out⟩
  have d0 : decide ((l.length : Int) < 2) = false := by simp; omega
  obtain ⟨q, hq, eq1, eq2, eq3⟩ := which_at which l.length (by omega)
  have hHl := hI_len hN key
  have hnd := hI_nodup l key
  have hh0 := hI_head l key (by omega)
  have HH1 : Hid (∀ w, IsRow w 1 (.slice a0 l.length cap0) l.length (iCells l) → Calls Tryd.prog 18 #[.int .u64 (key : Int), .slice a0 l.length cap0, .int .i64 (l.length : Int)] w fun e w' => RiPost (hI key l) w e w') := fun w h => (heirs_any key _ l (l.length : Int) w h (by omega)).mono fun e w' h => by
    have := h.ints
    rw [Int.toNat_natCast, List.take_of_length_le (by rw [hsL_len key _ (rgL_sorted l), rgL_len hN]; exact Nat.le_refl _)] at this
    exact this
  obtain ⟨n, hn⟩ : ∃ n, n = l[q] := ⟨_, rfl⟩
  have hNm := nodes_wo hN n
  have hml := wo_len (nodes_nodup hN) (n := n) (by rw [hn]; exact List.getElem_mem hq)
  have hHm : hI key (woL l n) = woL (hI key l) n := hI_wo hN key n
  have hHml : (hI key (woL l n)).length = (woL l n).length := hI_len hNm key
  have HH2 : Hid (∀ v w, IsRow w 1 v (woL l n).length (iCells (woL l n)) → Calls Tryd.prog 18 #[.int .u64 (key : Int), v, .int .i64 ((woL l n).length : Int)] w fun e w' => RiPost (woL (hI key l) n) w e w') := fun v w h => (heirs_any key v (woL l n) ((woL l n).length : Int) w h (by omega)).mono fun e w' h => by
    have := h.ints
    rw [Int.toNat_natCast, List.take_of_length_le (by rw [hsL_len key _ (rgL_sorted _), rgL_len hNm]; exact Nat.le_refl _)] at this
    rw [← hHm]
    exact this
  have hhas : hasL (woL l n) = true := by
    unfold hasL
    have := rgL_len hNm
    cases hrr : rgL (woL l n) with
    | nil => rw [hrr] at this; simp at this; omega
    | cons a b => rfl
  have hho := hI_head (woL l n) key (by omega)
  have HOw : Hid (∀ v w, IsRow w 1 v (woL l n).length (iCells (woL l n)) → Calls Tryd.prog 11 #[.int .u64 (key : Int), v] w fun e w' => e = .returned (.tuple #[.int .i64 (ownL key (woL l n) : Int), .bool true]) ∧ Below w.heap.size w w') := fun v w h => by
    have := ownerL_any key v (woL l n) w h (by omega)
    rw [hhas] at this
    exact this
  rw [hHm] at hho
  obtain ⟨b, hb⟩ : ∃ b, (hI key l)[1]? = some b := ⟨(hI key l)[1]'(by omega), List.getElem?_eq_getElem _⟩
  have hwant := wo_head hnd n _ b hh0 hb
  rw [hho, Option.some.injEq] at hwant
  have HW1 : Hid (∀ w, IsRow w 1 (.slice a0 l.length cap0) l.length (iCells l) → Calls Tryd.prog 30 #[.slice a0 l.length cap0, .int .i64 n] w fun e w' => RiPost (woL l n) w e w') := fun w h => without_any _ l n w h (by omega)
  have HW2 : Hid (∀ v w, IsRow w 1 v (hI key l).length (iCells (hI key l)) → Calls Tryd.prog 30 #[v, .int .i64 n] w fun e w' => RiPost (woL (hI key l) n) w e w') := fun v w h => without_any v _ n w h (by omega)
  generalize hI key l = H at *
  generalize (ownL key l : Int) = a at *
  generalize (ownL key (woL l n) : Int) = o at *
  have hKl : (woL H n).length ≤ 1000000 := Nat.le_trans (List.length_filter_le _ _) (by omega)
  clear hHm hHml hNm hho hhas
  generalize woL H n = K at *
  generalize woL l n = M at *
  have hM40 : M.length ≤ 40 := by omega
  have HHl : Hid (H.length = l.length) := hHl
  have HA0 : Hid (H[0]? = some a) := hh0
  have HA1 : Hid (H[1]? = some b) := hb
  have HWt : Hid (o = if a = n then b else a) := hwant
  have HNq : Hid (n = l[q]) := hn
  have hM1 : 1 ≤ M.length := by omega
  clear hHl hh0 hb hwant hn hml hnd hN
  go_enter Tryd.func6, Tryd.ntmps6
  go_wp2_with fail
  refine HFw.out.mono ?_
  rintro e w1 ⟨rfl, hw⟩
  subst hw
  go_wp2_with fail
  refine HNd.out.mono ?_
  rintro e w2 ⟨rfl, hb2⟩
  have HR2 : Hid (IsRow w2 1 (.slice a0 l.length cap0) l.length (iCells l)) := HR.out.below hb2
  have HB2 : Hid (Below w1.heap.size w1 w2) := hb2
  obtain ⟨b0, off0, rfl, -, hlt0, hcap0, hc0⟩ := iCells_at HR2.out (by omega)
  have cq : w2.cell? ⟨b0, off0 + q, none⟩ = some (.int .i64 n) := by rw [HNq.out]; exact hc0 q hq
  clear hb2 HNd HFw HR hc0
  go_wp2_with fail
  refine (HH1.out _ HR2.out).mono ?_
  rintro e w3 ⟨v3, rfl, hrow3, hb3⟩
  obtain ⟨a3, cap3, rfl⟩ := hrow3.form
  have HR3 : Hid (IsRow w3 1 (.slice (some ⟨b0, off0, none⟩) l.length cap0) l.length (iCells l)) := HR2.out.below hb3
  have HH3 : Hid (IsRow w3 1 (.slice a3 H.length cap3) H.length (iCells H)) := hrow3
  have HB3 : Hid (Below w1.heap.size w1 w3) := HB2.out.trans (hb3.mono HB2.out.size)
  clear hrow3 hb3 HR2 HB2 HH1 cq
  go_wp2_with fail
  refine (HW1.out _ HR3.out).mono ?_
  rintro e w4 ⟨v4, rfl, hrow4, hb4⟩
  obtain ⟨a4, cap4, rfl⟩ := hrow4.form
  have HH4 : Hid (IsRow w4 1 (.slice a3 H.length cap3) H.length (iCells H)) := HH3.out.below hb4
  have HM4 : Hid (IsRow w4 1 (.slice a4 M.length cap4) M.length (iCells M)) := hrow4
  have HB4 : Hid (Below w1.heap.size w1 w4) := HB3.out.trans (hb4.mono HB3.out.size)
  clear hrow4 hb4 HR3 HB3 HW1 HH3
  go_wp2_with fail
  refine (HOw.out _ _ HM4.out).mono ?_
  rintro e w5 ⟨rfl, hb5⟩
  have HH5 : Hid (IsRow w5 1 (.slice a3 H.length cap3) H.length (iCells H)) := HH4.out.below hb5
  have HM5 : Hid (IsRow w5 1 (.slice a4 M.length cap4) M.length (iCells M)) := HM4.out.below hb5
  have HB5 : Hid (Below w1.heap.size w1 w5) := HB4.out.trans (hb5.mono HB4.out.size)
  clear hb5 HB4 HOw HH4 HM4
  obtain ⟨b5, off5, rfl, -, hlt5, hcap5, hc5⟩ := iCells_at HH5.out (by rw [HHl.out]; omega)
  have c0 : w5.cell? ⟨b5, off5, none⟩ = some (.int .i64 a) := by
    have h1 := hc5 0 (by rw [HHl.out]; omega)
    have h2 := HA0.out
    rw [List.getElem?_eq_getElem (by rw [HHl.out]; omega), Option.some.injEq] at h2
    rw [h2] at h1
    exact h1
  have c1 : w5.cell? ⟨b5, off5 + 1, none⟩ = some (.int .i64 b) := by
    have h1 := hc5 1 (by rw [HHl.out]; omega)
    have h2 := HA1.out
    rw [List.getElem?_eq_getElem (by rw [HHl.out]; omega), Option.some.injEq] at h2
    rw [h2] at h1
    exact h1
  have hH0 : 0 < H.length := by rw [HHl.out]; omega
  have hH1 : 1 < H.length := by rw [HHl.out]; omega
  have dne : ((H.length : Int) != (l.length : Int)) = false := by rw [HHl.out]; simp
  clear hc5
  by_cases han : a = n
  · rw [if_pos han] at HWt
    have hob : (o == b) = true := by rw [beq_iff_eq]; exact HWt.out
    have dan : (a == n) = true := by rw [beq_iff_eq]; exact han
    clear HWt han HNq
    go_wp2_with fail
    refine (HA.out _).mono ?_
    rintro e w6 ⟨rfl, hb6⟩
    have HH6 : Hid (IsRow w6 1 (.slice (some ⟨b5, off5, none⟩) H.length cap3) H.length (iCells H)) := HH5.out.below hb6
    have HM6 : Hid (IsRow w6 1 (.slice a4 M.length cap4) M.length (iCells M)) := HM5.out.below hb6
    have HB6 : Hid (Below w1.heap.size w1 w6) := HB5.out.trans (hb6.mono HB5.out.size)
    clear hb6 HB5 HH5 HM5 c0 c1 dne
    go_wp2_with fail
    refine (HH2.out _ _ HM6.out).mono ?_
    rintro e w7 ⟨v7, rfl, hrow7, hb7⟩
    have HH7 : Hid (IsRow w7 1 (.slice (some ⟨b5, off5, none⟩) H.length cap3) H.length (iCells H)) := HH6.out.below hb7
    have HK7 : Hid (IsRow w7 1 v7 K.length (iCells K)) := hrow7
    have HB7 : Hid (Below w1.heap.size w1 w7) := HB6.out.trans (hb7.mono HB6.out.size)
    clear hb7 HB6 HH6 HM6 hrow7
    go_wp2_with fail
    refine (HW2.out _ _ HH7.out).mono ?_
    rintro e w8 ⟨v8, rfl, hrow8, hb8⟩
    have HK8 : Hid (IsRow w8 1 v7 K.length (iCells K)) := HK7.out.below hb8
    have HL8 : Hid (IsRow w8 1 v8 K.length (iCells K)) := hrow8
    have HB8 : Hid (Below w1.heap.size w1 w8) := HB7.out.trans (hb8.mono HB7.out.size)
    clear hb8 HB7 HH7 HK7 hrow8
    go_wp2_with fail
    refine (same_eq v7 v8 K _ HK8.out HL8.out hKl).mono ?_
    rintro e w9 ⟨rfl, hb9⟩
    have HB9 : Hid (Below w1.heap.size w1 w9) := HB8.out.trans (hb9.mono HB8.out.size)
    clear hb9
    go_wp2
    go_ret
    exact ⟨rfl, HB9.out⟩
  · rw [if_neg han] at HWt
    have hob : (o == a) = true := by rw [beq_iff_eq]; exact HWt.out
    have dan : (a == n) = false := by rw [beq_eq_false_iff_ne]; exact han
    clear HWt han HNq
    go_wp2_with fail
    refine (HA.out _).mono ?_
    rintro e w6 ⟨rfl, hb6⟩
    have HH6 : Hid (IsRow w6 1 (.slice (some ⟨b5, off5, none⟩) H.length cap3) H.length (iCells H)) := HH5.out.below hb6
    have HM6 : Hid (IsRow w6 1 (.slice a4 M.length cap4) M.length (iCells M)) := HM5.out.below hb6
    have HB6 : Hid (Below w1.heap.size w1 w6) := HB5.out.trans (hb6.mono HB5.out.size)
    clear hb6 HB5 HH5 HM5 c0 c1 dne
    go_wp2_with fail
    refine (HH2.out _ _ HM6.out).mono ?_
    rintro e w7 ⟨v7, rfl, hrow7, hb7⟩
    have HH7 : Hid (IsRow w7 1 (.slice (some ⟨b5, off5, none⟩) H.length cap3) H.length (iCells H)) := HH6.out.below hb7
    have HK7 : Hid (IsRow w7 1 v7 K.length (iCells K)) := hrow7
    have HB7 : Hid (Below w1.heap.size w1 w7) := HB6.out.trans (hb7.mono HB6.out.size)
    clear hb7 HB6 HH6 HM6 hrow7
    go_wp2_with fail
    refine (HW2.out _ _ HH7.out).mono ?_
    rintro e w8 ⟨v8, rfl, hrow8, hb8⟩
    have HK8 : Hid (IsRow w8 1 v7 K.length (iCells K)) := HK7.out.below hb8
    have HL8 : Hid (IsRow w8 1 v8 K.length (iCells K)) := hrow8
    have HB8 : Hid (Below w1.heap.size w1 w8) := HB7.out.trans (hb8.mono HB7.out.size)
    clear hb8 HB7 HH7 HK7 hrow8
    go_wp2_with fail
    refine (same_eq v7 v8 K _ HK8.out HL8.out hKl).mono ?_
    rintro e w9 ⟨rfl, hb9⟩
    have HB9 : Hid (Below w1.heap.size w1 w9) := HB8.out.trans (hb9.mono HB8.out.size)
    clear hb9
    go_wp2
    go_ret
    exact ⟨rfl, HB9.out⟩
end Go.Proofs.YtmnmjphgpblbhaaDoor
/- What the listed variables give to the ring's laws (nothing is asked of them); ints and keys that came in. -/
namespace Go.Proofs.YtmnmjphgpblbhaaDoor
open Go.ChangeShapes Go.WideShapes Go.ChangeAt Go.WideMaps Go.WideElems Go.RowKit Go.Deep

theorem own : ownKnob Tryd.prog.godebug = none := by kernel_rfl
theorem laidOut : laidOutB Tryd.prog = true := by kernel_rfl
def laidR : List (String × DataW Unit) := [("math/bits.deBruijn32tab", Rows.laid_math_bits_deBruijn32tab), ("math/bits.deBruijn64tab", Rows.laid_math_bits_deBruijn64tab), ("internal/strconv.uint64pow10", Rows.laid_internal_strconv_uint64pow10)]
theorem door_met (os : Os) (args : Array Value) : laidMetH Tryd.prog laidR ((World.doorLaid Tryd.prog 400 os).forCall (fun _ _ => 0) ⟨#[], args, []⟩).memory :=
  laidMetH_of_parts3 (fuel := 8) (laidMet_of_run' 8 (by kernel_rfl) (by kernel_rfl)) (by kernel_rfl) (by kernel_rfl)
theorem c_int : Tryd.prog.cellsOf 3 = 1 := by kernel_rfl
theorem b_int : Tryd.prog.bytesOf 3 = 8 := by kernel_rfl
theorem add_lit (b off j : Nat) : (⟨b, off, none⟩ : Addr).add j = ⟨b, off + j, none⟩ := by unfold Addr.add; split <;> simp_all
theorem row_of_cells {w : World} {a : Addr} {len cap : Nat} {xs : List Value} (hx : xs.length = len) (hl : len ≤ cap) (hm : cap ≤ maxLen) (hc : ∀ i, i < len → w.cell? (a.add i) = xs[i]?) : IsRow w 1 (.slice (some a) len cap) len xs := by
  refine ⟨by omega, ?_⟩
  by_cases h0 : len = 0
  · subst h0
    exact .inl ⟨rfl, _, _, rfl⟩
  · right
    obtain ⟨b, off, spot⟩ := a
    obtain ⟨u0, hu0⟩ : ∃ u, xs[0]? = some u := ⟨xs[0]'(by omega), by simp⟩
    have hspot : spot = none := by
      have := (hc 0 (by omega)).trans hu0
      simpa [Addr.add] using World.cell?_spot this
    subst hspot
    have hcell : ∀ i, i < len → w.cell? ⟨b, off + i, none⟩ = xs[i]? := fun i hi => by rw [← add_lit]; exact hc i hi
    refine ⟨b, off, cap, rfl, block_lt_of_cell ((hcell 0 (by omega)).trans hu0), hl, hm, ?_⟩
    intro j u hu
    have hj : j < len := by have := (List.getElem?_eq_some_iff.1 hu).1; omega
    rw [hcell j hj]; exact hu
theorem open_ints' {H : Type} {enc : TypeId × Value → H} {w : World} {fuel : Nat} {v : Value} {x : DataW H × List MemPlace} (h : DataW.trod enc Tryd.prog w 0 (fun _ => true) true fuel 23 [v] = some x)
    (hz : ∀ n ∈ x.1.weights Tryd.prog 23, n ≤ reachBytes) :
    ∃ l : List Int, IsRow w 1 v l.length (iCells l) ∧ l.length ≤ 140737488355328 ∧ True := by
  rcases open_slice1 Tryd.underlying23 c_int h with ⟨hv, _⟩ | ⟨a, len, cap, m, n, V, D, Pl, hv, hb, hl, hm, hmm, rfl, hx⟩
  · simp at hv
    subst hv
    exact ⟨[], ⟨rfl, .inl ⟨rfl, _, _, rfl⟩⟩, by simp, trivial⟩
  simp at hv
  subst hv
  simp at hmm
  subst hmm
  have key : ∀ i, i < len → ∃ y : Int, V i = .int .i64 y := by
    intro i hi
    obtain ⟨y, e, _, _⟩ := DataW.trod_int Tryd.underlying3 (hx i (by omega)).2
    exact ⟨y, by simpa using e⟩
  obtain ⟨X, hX⟩ := choose_lt key
  have hlen : len * 8 ≤ reachBytes := by
    have := hz ((len + (m - len)) * 8) (by simp only [DataW.weights, Tryd.underlying23, b_int]; simp)
    omega
  have r := row_of_cells (w := w) (a := a) (xs := ((List.range len).map X).map (Value.int .i64)) (len := len) (cap := m) (by simp) hl hm (fun i hi => by rw [(hx i (by omega)).1, hX i hi]; simp [hi])
  refine ⟨(List.range len).map X, ?_, ?_, trivial⟩
  · simpa [iCells] using r
  · simp; unfold reachBytes at hlen; omega
/-- A key that came in. -/
theorem key_nat {x : Int} (h : (Lit.int .u64 x).wf = true) : ∃ n : Nat, x = (n : Int) := by
  have : 0 ≤ x := by
    have h2 : 0 ≤ x ∧ x ≤ 18446744073709551615 := by simpa [Lit.wf, IntKind.min, IntKind.max, IntKind.signed, IntKind.bits] using h
    exact h2.1
  exact ⟨x.toNat, by omega⟩
theorem int_rng {x : Int} (h : (Lit.int .i64 x).wf = true) : -9223372036854775808 ≤ x ∧ x ≤ 9223372036854775807 := by
  simpa [Lit.wf, IntKind.min, IntKind.max, IntKind.signed, IntKind.bits] using h
end Go.Proofs.YtmnmjphgpblbhaaDoor
