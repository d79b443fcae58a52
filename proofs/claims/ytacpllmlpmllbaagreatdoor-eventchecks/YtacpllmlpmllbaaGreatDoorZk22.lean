/- The reference's Text of any value: its walk. -/
import Derived.Test.YtacpllmlpmllbaaGreatDoorZk17
import Derived.Test.YtacpllmlpmllbaaGreatDoorZk21
import Derived.Test.YtacpllmlpmllbaaGreatDoorZk9
import Derived.Test.YtacpllmlpmllbaaGreatDoorZk16
import Derived.Deep.RegionHeld3
import Derived.Test.YtacpllmlpmllbaaGreatDoorZk18
import Derived.Test.YtacpllmlpmllbaaGreatDoorZk7
import Derived.Test.YtacpllmlpmllbaaGreatDoorZk14
namespace Go.Proofs.YtacpllmlpmllbaaGreatDoor.V
open Go.RowKit

theorem num_size8 (n : Int) : (strOfNums (Q.numI n)).size ≤ 8 := Q.num_size_le n
theorem wt3_below (w : World) (k n : Int) (s : ByteArray) : Below w.heap.size w (w.alloc (.cells #[.int .i64 k, .int .i64 n, .string s] 88)) := (Below.refl _ _).alloc (Nat.le_refl _) _
theorem txt_1 (n : Int) (s : ByteArray) : strOfNums (Q.numI 1) ++ strOfNums (Q.numI (Q.zig n)) = txt 1 n s := ba_eq (by
  rw [ba_append]
  simp [txt, itm, Q.itB, Q.numL, strOfNums])
theorem txt_3 (n : Int) (s : ByteArray) (h : n = 0 ∨ n = 1) : strOfNums (Q.numI 3) ++ strOfNums [n] = txt 3 n s := ba_eq (by
  rw [ba_append]
  rcases h with rfl | rfl
  all_goals simp [txt, itm, Q.itB, Q.numL, strOfNums])
theorem txt_24 (k n : Int) (s : ByteArray) (h : k = 2 ∨ k = 4) : (strOfNums (Q.numI k) ++ strOfNums (Q.numI s.size)) ++ s = txt k n s := ba_eq (by
  rw [ba_append, ba_append]
  rcases h with rfl | rfl
  all_goals simp [txt, itm, Q.itB, Q.numL, strOfNums])

set_option maxRecDepth 100000 in
set_option maxHeartbeats 4000000 in
theorem refText_0 (k n : Int) (s : ByteArray) (w : World) (hs : s.size ≤ 140737488355328) (h : chkV k n s = false) :
    Calls Tryz.prog 107 #[vv k n s] w fun e w' => e = .returned (.string ⟨#[]⟩) ∧ Below w.heap.size w w' := by
  have HC : Hid (chkV k n s = false) := h
  clear h
  go_enter Tryz.func107, Tryz.ntmps107
  go_wp2_with fail
  refine (refCheck_any _ _ _ _ hs).mono ?_
  rintro e w1 ⟨rfl, hb1⟩
  rw [HC.out]
  have hB1 : Below w.heap.size w w1 := (wt3_below w k n s).trans (hb1.mono (by simp))
  clear hb1
  go_wp2
  go_ret
  exact ⟨rfl, hB1⟩
set_option maxRecDepth 100000 in
set_option maxHeartbeats 4000000 in
theorem refText_1 (n : Int) (s : ByteArray) (w : World) (hs : s.size ≤ 140737488355328) (h : chkV 1 n s = true) :
    Calls Tryz.prog 107 #[vv 1 n s] w fun e w' => e = .returned (.string (txt 1 n s)) ∧ Below w.heap.size w w' := by
  have HC : Hid (chkV 1 n s = true) := h
  have HN : Hid (∀ w : World, Calls Tryz.prog 58 #[.int .i64 1] w fun e w' => e = .returned (.string (strOfNums (Q.numI 1))) ∧ Below w.heap.size w w') := fun w => Q.refNum_any 1 w
  have HW : Hid (∀ w : World, Calls Tryz.prog 153 #[.int .i64 n] w fun e w' => e = .returned (.string (strOfNums (Q.numI (Q.zig n)))) ∧ Below w.heap.size w w') := fun w => Q.refWhole_any n w
  rw [← txt_1 n s]
  have z1 := num_size8 1
  have z2 := num_size8 (Q.zig n)
  generalize strOfNums (Q.numI 1) = X at *
  generalize strOfNums (Q.numI (Q.zig n)) = Y at *
  clear h
  go_enter Tryz.func107, Tryz.ntmps107
  go_wp2_with fail
  refine (refCheck_any _ _ _ _ hs).mono ?_
  rintro e w1 ⟨rfl, hb1⟩
  rw [HC.out]
  have c0 : w1.cell? ⟨w.heap.size, 0, none⟩ = some (.int .i64 1) := (hb1.cell (p := ⟨w.heap.size, 0, none⟩) (by simp)).trans (by simp)
  have c1 : w1.cell? ⟨w.heap.size, 1, none⟩ = some (.int .i64 n) := (hb1.cell (p := ⟨w.heap.size, 1, none⟩) (by simp)).trans (by simp)
  have hB1 : Below w.heap.size w w1 := (wt3_below w 1 n s).trans (hb1.mono (by simp))
  have hlt : w.heap.size < w1.heap.size := by have := hb1.size; simp at this; omega
  clear hb1
  go_wp2_with fail
  refine (HN.out _).mono ?_
  rintro e w2 ⟨rfl, hb2⟩
  have d0 : w2.cell? ⟨w.heap.size, 0, none⟩ = some (.int .i64 1) := (hb2.cell (p := ⟨w.heap.size, 0, none⟩) hlt).trans c0
  have d1 : w2.cell? ⟨w.heap.size, 1, none⟩ = some (.int .i64 n) := (hb2.cell (p := ⟨w.heap.size, 1, none⟩) hlt).trans c1
  have hB2 := hB1.trans (hb2.mono hB1.size)
  clear hb2 c0 c1 hB1
  go_wp2_with fail
  refine (HW.out _).mono ?_
  rintro e w3 ⟨rfl, hb3⟩
  have hB3 := hB2.trans (hb3.mono hB2.size)
  clear hb3 d0 d1 hB2
  go_wp2
  go_ret
  exact ⟨rfl, hB3⟩
set_option maxRecDepth 100000 in
set_option maxHeartbeats 4000000 in
theorem refText_3 (n : Int) (s : ByteArray) (w : World) (hs : s.size ≤ 140737488355328) (h : chkV 3 n s = true) :
    Calls Tryz.prog 107 #[vv 3 n s] w fun e w' => e = .returned (.string (txt 3 n s)) ∧ Below w.heap.size w w' := by
  have HC : Hid (chkV 3 n s = true) := h
  have hn : n = 0 ∨ n = 1 := by
    unfold chkV at h
    rw [if_neg (by decide), if_neg (by decide), if_pos rfl] at h
    simp only [Bool.and_eq_true, decide_eq_true_eq] at h
    exact h.2
  have HN : Hid (∀ w : World, Calls Tryz.prog 58 #[.int .i64 3] w fun e w' => e = .returned (.string (strOfNums (Q.numI 3))) ∧ Below w.heap.size w w') := fun w => Q.refNum_any 3 w
  rw [← txt_3 n s hn]
  have z1 := num_size8 3
  have z2 : (strOfNums [n]).size = 1 := rfl
  obtain ⟨Y, HY⟩ : ∃ Y, Hid (strOfNums [n] = Y) := ⟨_, rfl⟩
  rw [HY.out] at z2 ⊢
  generalize strOfNums (Q.numI 3) = X at *
  clear h
  go_enter Tryz.func107, Tryz.ntmps107
  go_wp2_with fail
  refine (refCheck_any _ _ _ _ hs).mono ?_
  rintro e w1 ⟨rfl, hb1⟩
  rw [HC.out]
  have c0 : w1.cell? ⟨w.heap.size, 0, none⟩ = some (.int .i64 3) := (hb1.cell (p := ⟨w.heap.size, 0, none⟩) (by simp)).trans (by simp)
  have c1 : w1.cell? ⟨w.heap.size, 1, none⟩ = some (.int .i64 n) := (hb1.cell (p := ⟨w.heap.size, 1, none⟩) (by simp)).trans (by simp)
  have hB1 : Below w.heap.size w w1 := (wt3_below w 3 n s).trans (hb1.mono (by simp))
  have hlt : w.heap.size < w1.heap.size := by have := hb1.size; simp at this; omega
  clear hb1
  go_wp2_with fail
  refine (HN.out _).mono ?_
  rintro e w2 ⟨rfl, hb2⟩
  have d0 : w2.cell? ⟨w.heap.size, 0, none⟩ = some (.int .i64 3) := (hb2.cell (p := ⟨w.heap.size, 0, none⟩) hlt).trans c0
  have d1 : w2.cell? ⟨w.heap.size, 1, none⟩ = some (.int .i64 n) := (hb2.cell (p := ⟨w.heap.size, 1, none⟩) hlt).trans c1
  have hB2 := hB1.trans (hb2.mono hB1.size)
  clear hb2 c0 c1 hB1
  go_wp2
  rw [cvb1, HY.out]
  go_wp2
  go_ret
  exact ⟨rfl, hB2.alloc hB2.size _⟩
abbrev SC (w0 : World) (k : Int) (s : ByteArray) (w : World) : Prop :=
  w.cell? ⟨w0.heap.size, 0, none⟩ = some (.int .i64 k) ∧ w.cell? ⟨w0.heap.size, 2, none⟩ = some (.string s) ∧ w0.heap.size < w.heap.size ∧ Below w0.heap.size w0 w
theorem SC_call {w0 W w' : World} {k : Int} {s : ByteArray} (hb : Below W.heap.size W w') (h : SC w0 k s W) : SC w0 k s w' := by
  obtain ⟨a0, a2, l1, hB⟩ := h
  exact ⟨(hb.cell (p := ⟨w0.heap.size, 0, none⟩) l1).trans a0, (hb.cell (p := ⟨w0.heap.size, 2, none⟩) l1).trans a2, Nat.lt_of_lt_of_le l1 hb.size, hB.trans (hb.mono hB.size)⟩
theorem SC_drew {w0 W : World} {k : Int} {s : ByteArray} (h : SC w0 k s W) : SC w0 k s W.drew := ⟨h.1, h.2.1, h.2.2.1, h.2.2.2.drew⟩
set_option maxRecDepth 100000 in
set_option maxHeartbeats 4000000 in
theorem refText_24 (k n : Int) (s : ByteArray) (w : World) (hk : k = 2 ∨ k = 4) (hs : s.size ≤ 140737488355328) (h : chkV k n s = true) :
    Calls Tryz.prog 107 #[vv k n s] w fun e w' => e = .returned (.string (txt k n s)) ∧ Below w.heap.size w w' := by
  have HC : Hid (chkV k n s = true) := h
  obtain ⟨_, _, _, _, hz⟩ := chk_rng h
  have HN : Hid (∀ w : World, Calls Tryz.prog 58 #[.int .i64 k] w fun e w' => e = .returned (.string (strOfNums (Q.numI k))) ∧ Below w.heap.size w w') := fun w => Q.refNum_any k w
  have HM : Hid (∀ w : World, Calls Tryz.prog 58 #[.int .i64 (s.size : Int)] w fun e w' => e = .returned (.string (strOfNums (Q.numI (s.size : Int)))) ∧ Below w.heap.size w w') := fun w => Q.refNum_any s.size w
  rw [← txt_24 k n s hk]
  have z1 := num_size8 k
  have z2 := num_size8 s.size
  have k1 : (k == 1) = false := by rw [beq_eq_false_iff_ne]; omega
  have k3 : (k == 3) = false := by rw [beq_eq_false_iff_ne]; omega
  generalize strOfNums (Q.numI k) = X at *
  generalize strOfNums (Q.numI (s.size : Int)) = Y at *
  have l1 : ¬ 9223372036854775807 < X.size + Y.size := by omega
  have l2 : ¬ 9223372036854775807 < X.size + Y.size + s.size := by omega
  clear h hk
  go_enter Tryz.func107, Tryz.ntmps107
  go_wp2_with fail
  refine (refCheck_any _ _ _ _ hs).mono ?_
  rintro e w1 ⟨rfl, hb1⟩
  rw [HC.out]
  have c0 : w1.cell? ⟨w.heap.size, 0, none⟩ = some (.int .i64 k) := (hb1.cell (p := ⟨w.heap.size, 0, none⟩) (by simp)).trans (by simp)
  have c2 : w1.cell? ⟨w.heap.size, 2, none⟩ = some (.string s) := (hb1.cell (p := ⟨w.heap.size, 2, none⟩) (by simp)).trans (by simp)
  have hB1 : Below w.heap.size w w1 := (wt3_below w k n s).trans (hb1.mono (by simp))
  have hS1 : SC w k s w1 := ⟨c0, c2, by have := hb1.size; simp at this; omega, hB1⟩
  have HS1 : Hid (SC w k s w1) := hS1
  clear hb1 hS1
  go_wp2_with fail
  refine (HN.out _).mono ?_
  rintro e w2 ⟨rfl, hb2⟩
  have hS2 := SC_call hb2 HS1.out
  have d0 := hS2.1
  clear hb2 c0 c2 hB1 HS1 HN
  go_wp2_with fail
  go_region_held3 (fun w' => SC w k s w') (first | assumption | exact SC_call (by assumption) (by assumption) | exact SC_drew (by assumption))
    ((go_at_call 58; refine (HM.out _).mono ?_; rintro e w' ⟨rfl, hb⟩))
  all_goals
    rename_i hS3
    have hB3 := hS3.2.2.2
    clear hS3 hS2
    go_wp2
    go_ret
    exact ⟨rfl, hB3⟩
theorem refText_any (k n : Int) (s : ByteArray) (w : World) (hs : s.size ≤ 140737488355328) :
    Calls Tryz.prog 107 #[vv k n s] w fun e w' => e = .returned (.string (txtV k n s)) ∧ Below w.heap.size w w' := by
  unfold txtV
  by_cases h : chkV k n s = true
  · rw [if_pos h]
    obtain ⟨k1, k4, _, _, _⟩ := chk_rng h
    obtain rfl | rfl | rfl | rfl : k = 1 ∨ k = 2 ∨ k = 3 ∨ k = 4 := by omega
    · exact refText_1 n s w hs h
    · exact refText_24 2 n s w (.inl rfl) hs h
    · exact refText_3 n s w hs h
    · exact refText_24 4 n s w (.inr rfl) hs h
  · rw [if_neg h]; exact refText_0 k n s w hs (by simpa using h)
end Go.Proofs.YtacpllmlpmllbaaGreatDoor.V
/- The reference's AttrText; event.Text and the reference's Text: walks. -/
namespace Go.Proofs.YtacpllmlpmllbaaGreatDoor
open Go.RowKit Go.ChangeMaps

abbrev nmB (n : Int) : ByteArray := strOfNums (Q.numI n)
theorem nmB_data (n : Int) : (nmB n).data.toList = Q.numL n := by rw [← ByteArray.toList_eq]; exact Q.strOfNums_toList n
theorem nmB_size (n : Int) : (nmB n).size ≤ 8 := Q.num_size_le n
theorem app_data (a b : ByteArray) : (a ++ b).data.toList = a.data.toList ++ b.data.toList := by simp [ByteArray.data_append]
theorem it1 (n : Int) : Q.itB ⟨1, n, e0S⟩ = (nmB n).data.toList := by rw [nmB_data]; rfl
theorem it4 (s : ByteArray) : Q.itB ⟨4, 0, s⟩ = (nmB (s.size : Int)).data.toList ++ s.data.toList := by rw [nmB_data]; rfl
/-- What is written of the first attributes. -/
def txP (l : List At) (j : Nat) : ByteArray := ⟨(Q.numL (l.length : Int) ++ (l.take j).flatMap encA).toArray⟩
theorem txP_succ {l : List At} {j : Nat} (h : j < l.length) : txP l (j + 1) = txP l j ++ nmB (l[j].n.size : Int) ++ l[j].n ++ V.txtV l[j].k l[j].v l[j].s := by
  apply ba_eq
  simp only [app_data]
  unfold txP
  rw [List.take_succ_eq_append_getElem h, List.flatMap_append, List.flatMap_singleton]
  unfold encA
  rw [it4]
  simp [List.append_assoc]
theorem txP_size {l : List At} (h : ∀ x ∈ l, (encA x).length ≤ 200000) (j : Nat) : (txP l j).size ≤ 8 + l.length * 200000 := by
  rw [Lib.size_eq]
  unfold txP
  show (Q.numL (l.length : Int) ++ (l.take j).flatMap encA).length ≤ _
  have h1 := encAs_len (l.take j) (fun x hx => h x (List.mem_of_mem_take hx))
  have h2 : (l.take j).length ≤ l.length := by simp; omega
  have h3 : (Q.numL (l.length : Int)).length ≤ 8 := by have := nmB_size (l.length : Int); rw [Lib.size_eq, nmB_data] at this; exact this
  rw [List.length_append]
  have : (l.take j).length * 200000 ≤ l.length * 200000 := Nat.mul_le_mul_right _ h2
  omega
theorem txP_zero (l : List At) : txP l 0 = nmB (l.length : Int) := by
  apply ba_eq
  rw [nmB_data]
  unfold txP
  simp
theorem txP_all {l : List At} (h : chkA l = true) : txP l l.length = textA l := by
  unfold txP textA
  rw [List.take_length, if_pos h]
set_option maxRecDepth 100000 in
set_option maxHeartbeats 4000000 in
theorem refTextA_any (v : Value) (l : List At) (w : World) (hr : IsRow w 4 v l.length (aCells l)) (hl : l.length ≤ 1000000) (hn : NmRA l) (h6 : ∀ x ∈ l, x.n.size ≤ 65536) :
    Calls Tryz.prog 59 #[v] w fun e w' => e = .returned (.string (textA l)) ∧ Below w.heap.size w w' := by
  obtain ⟨a0, cap0, rfl⟩ := hr.form
  have HC : Hid (Calls Tryz.prog 46 #[.slice a0 l.length cap0] w fun e w' => e = .returned (.bool (chkA l)) ∧ Below w.heap.size w w') := refAttrsA_any _ l w hr hl hn
  have HRw : Hid (∀ W, Below w.heap.size w W → IsRow W 4 (.slice a0 l.length cap0) l.length (aCells l)) := fun W h => hr.below h
  have HNu : Hid (∀ (n : Int) W, Calls Tryz.prog 58 #[.int .i64 n] W fun e w' => e = .returned (.string (nmB n)) ∧ Below W.heap.size W w') := fun n W => Q.refNum_any n W
  have HTx : Hid (∀ (j : Nat) (h : j < l.length) W, Calls Tryz.prog 107 #[.agg #[.int .i64 l[j].k, .int .i64 l[j].v, .string l[j].s]] W fun e w' => e = .returned (.string (V.txtV l[j].k l[j].v l[j].s)) ∧ Below W.heap.size W w') := fun j h W => V.refText_any _ _ _ W (hn _ (List.getElem_mem h)).2
  have Hhn : Hid (NmRA l) := hn
  clear hr hn
  cases hv : chkA l
  · rw [hv] at HC
    have HE : Hid (textA l = e0S) := if_neg (by rw [hv]; decide)
    clear hv HRw HNu HTx Hhn
    go_enter Tryz.func59, Tryz.ntmps59
    go_wp2_with (refine HC.out.mono ?_; rintro e w1 ⟨rfl, hb1⟩)
    go_ret
    exact ⟨by rw [HE.out]; rfl, hb1⟩
  rw [hv] at HC
  have h24 := chkA_len hv
  have henc : ∀ x ∈ l, (encA x).length ≤ 200000 := fun x hx => encA_len (h6 x hx) (chkA_ok hv x hx).2
  have HPs : Hid (∀ j, (txP l j).size ≤ 5000000) := fun j => by have := txP_size henc j; show _ ≤ _; omega
  have HPn : Hid (∀ (j : Nat) (h : j < l.length), txP l (j + 1) = txP l j ++ nmB (l[j].n.size : Int) ++ l[j].n ++ V.txtV l[j].k l[j].v l[j].s) := fun j h => txP_succ h
  have HSz : Hid (∀ (j : Nat) (h : j < l.length), l[j].n.size ≤ 65536 ∧ (V.txtV l[j].k l[j].v l[j].s).size ≤ 131088) := fun j h => ⟨h6 _ (List.getElem_mem h), txt_sizeE (chkA_ok hv _ (List.getElem_mem h)).2⟩
  have HP0 : Hid (nmB (l.length : Int) = txP l 0) := (txP_zero l).symm
  obtain ⟨R, HRr⟩ : ∃ R, Hid (textA l = R) := ⟨_, rfl⟩
  have HPe : Hid (txP l l.length = R) := (txP_all hv).trans HRr.out
  rw [HRr.out]
  clear hv henc h6 Hhn HRr
  go_enter Tryz.func59, Tryz.ntmps59
  go_wp2_with fail
  refine HC.out.mono ?_
  rintro e w1 ⟨rfl, hb⟩
  have H1 : Hid (Below w.heap.size w w1) := hb
  clear hb HC
  go_wp2_with fail
  refine (HNu.out _ _).mono ?_
  rintro e w2 ⟨rfl, hb⟩
  have H2 : Hid (Below w.heap.size w w2) := H1.out.trans (hb.mono H1.out.size)
  clear hb H1
  rw [HP0.out]
  clear HP0
  go_wp2_with fail
  go_loopw [3, 4] (fun s i wr => ∃ j : Nat, j ≤ l.length ∧ i = .int .i64 (j : Int) ∧ s = .string (txP l j) ∧ Hid (Below w.heap.size w wr)) (fun _ i _ => l.length - (intOf i).toNat)
  case atStart => exact ⟨0, by omega, rfl, rfl, H2⟩
  case round =>
    obtain ⟨j, hj, rfl, rfl, HB⟩ := hrel
    by_cases hlk : j < l.length
    · have dj : decide ((j : Int) < (l.length : Int)) = true := by simp; omega
      obtain ⟨b0, o0, rfl, hlt0, hcap0, hc0⟩ := a_at (HRw.out wr HB.out) (by omega)
      have HY : Hid (∀ W, Below wr.heap.size wr W → W.cell? ⟨b0, o0 + j * 4, none⟩ = some (.string l[j].n) ∧ W.cell? ⟨b0, o0 + j * 4 + 1, none⟩ = some (.int .i64 l[j].k) ∧ W.cell? ⟨b0, o0 + j * 4 + 2, none⟩ = some (.int .i64 l[j].v) ∧ W.cell? ⟨b0, o0 + j * 4 + 3, none⟩ = some (.string l[j].s)) := fun W h => by
        obtain ⟨p0, p1, p2, p3⟩ := hc0 j hlk
        exact ⟨(h.cell (p := ⟨b0, _, none⟩) hlt0).trans p0, (h.cell (p := ⟨b0, _, none⟩) hlt0).trans p1, (h.cell (p := ⟨b0, _, none⟩) hlt0).trans p2, (h.cell (p := ⟨b0, _, none⟩) hlt0).trans p3⟩
      have r1 : (0 : Int) ≤ (j : Int) := by omega
      have r2 : (j : Int) < (l.length : Int) := by omega
      have HTj := HTx.out j hlk
      have HPx := HPn.out j hlk
      have hPs := HPs.out j
      obtain ⟨hz1, hz2⟩ := HSz.out j hlk
      generalize l[j]'hlk = x at *
      obtain ⟨xn, xk, xv, xs⟩ := x
      dsimp only at *
      have HPx' : Hid (txP l (j + 1) = txP l j ++ nmB (xn.size : Int) ++ xn ++ V.txtV xk xv xs) := HPx
      generalize txP l j = P at *
      generalize V.txtV xk xv xs = Z at *
      have hz3 := nmB_size (xn.size : Int)
      have HNx : Hid (∀ W, Calls Tryz.prog 58 #[.int .i64 (xn.size : Int)] W fun e w' => e = .returned (.string (nmB (xn.size : Int))) ∧ Below W.heap.size W w') := fun W => HNu.out _ W
      have HTk : Hid (∀ W, Calls Tryz.prog 107 #[.agg #[.int .i64 xk, .int .i64 xv, .string xs]] W fun e w' => e = .returned (.string Z) ∧ Below W.heap.size W w') := HTj
      generalize nmB (xn.size : Int) = NB at *
      clear hc0 HTj HPx HTx HPn HPs HSz HRw HNu
      go_wp2_with fail
      refine wp_region_quiet (C := fun w' => Below wr.heap.size wr w') (by kernel_rfl) (by kernel_rfl) ((Below.refl _ _).drew) ?_
      dsimp only
      repeat (first
        | go_big_quiet_skip
        | (go_big_quiet_want
           apply Exists.intro
           refine ⟨fun W' hW' => ?_, ?_⟩
           · have hw : Below wr.heap.size wr W' := hW'
             obtain ⟨k0, k1, k2, k3⟩ := HY.out W' hw
             go_simp
             first
               | done
               | rfl
               | (rw [if_neg (by (try simp only [ByteArray.size_append]); omega)]; exact ⟨rfl, rfl⟩)
               | (go_at_call 58; (with_reducible refine Calls.mono (HNx.out W') ?_); rintro e w'' ⟨rfl, hb⟩; exact ⟨rfl, hw.trans (hb.mono hw.size)⟩)
               | (go_at_call 107; (with_reducible refine Calls.mono (HTk.out W') ?_); rintro e w'' ⟨rfl, hb⟩; exact ⟨rfl, hw.trans (hb.mono hw.size)⟩)
           go_big_quiet_on
           try simp only [Act.put, List.setIfInBounds_toArray, List.set_cons_zero, List.set_cons_succ]))
      refine wpQuiet_nil ?_
      intro w5 hqw2
      have H5 : Hid (Below w.heap.size w w5) := HB.out.trans (hqw2.mono HB.out.size)
      clear hqw2 HY
      go_wp2
      go_roundw
      case rel => exact ⟨j + 1, by omega, by simp, by rw [HPx'.out], H5⟩
      case measure => simp [intOf]; omega
    · have dj : decide ((j : Int) < (l.length : Int)) = false := by simp; omega
      have hjl : j = l.length := by omega
      subst hjl
      rw [HPe.out]
      clear HPs HPn HSz HTx HNu
      go_wp2
      go_ret
      exact ⟨rfl, HB.out⟩
/-- An event's bytes, or none. -/
def txE (a b c : Int) (k : ByteArray) (l : List At) : ByteArray := if chkE a b c k l = true then nmB a ++ nmB b ++ nmB c ++ nmB (k.size : Int) ++ k ++ textA l else e0S
theorem textA_size {l : List At} (h : chkA l = true) (h6 : ∀ x ∈ l, x.n.size ≤ 65536) : (textA l).size ≤ 5000000 := by
  rw [← txP_all h]
  have := txP_size (l := l) (fun x hx => encA_len (h6 x hx) (chkA_ok h x hx).2) l.length
  have := chkA_len h
  omega
theorem may1E (n : Int) (h : 0 ≤ n ∧ n ≤ 4611686018427387903) : Q.mayIt ⟨1, n, e0S⟩ = true := by
  unfold Q.mayIt Q.mayB
  rw [if_pos rfl]
  simp only [Bool.and_eq_true, decide_eq_true_eq]
  exact ⟨by rw [ByteArray.toList_eq]; rfl, h⟩
theorem put_4E (a b c : Int) (k : ByteArray) (W : World) (v : Value) (hr : IsRow W 3 v 4 (itCells [⟨1, a, e0S⟩, ⟨1, b, e0S⟩, ⟨1, c, e0S⟩, ⟨4, 0, k⟩])) (hi : idB a b c = true) (hk : k.size ≤ 65536) (hT : Q.Tab W) :
    Calls Tryz.prog 56 #[v] W fun e w' => e = .returned (.tuple #[.string (nmB a ++ nmB b ++ nmB c ++ nmB (k.size : Int) ++ k), .int .i64 0]) ∧ Below W.heap.size W w' := by
  obtain ⟨⟨a1, a2⟩, ⟨b1, b2⟩, c1, c2⟩ := idB_le hi
  have h := Q.put_ok v [⟨1, a, e0S⟩, ⟨1, b, e0S⟩, ⟨1, c, e0S⟩, ⟨4, 0, k⟩] W hr hT (by simp) (by
    intro x hx
    simp only [List.mem_cons, List.not_mem_nil, or_false] at hx
    rcases hx with rfl | rfl | rfl | rfl
    · show e0S.size ≤ _; decide
    · show e0S.size ≤ _; decide
    · show e0S.size ≤ _; decide
    · show k.size ≤ _; omega) (by simp only [List.all_cons, List.all_nil, Bool.and_true, may1E a (by omega), may1E b (by omega), may1E c (by omega), may4S hk])
  have e : (⟨([(⟨1, a, e0S⟩ : It), ⟨1, b, e0S⟩, ⟨1, c, e0S⟩, ⟨4, 0, k⟩].flatMap Q.itB).toArray⟩ : ByteArray) = nmB a ++ nmB b ++ nmB c ++ nmB (k.size : Int) ++ k := by
    apply ba_eq
    simp only [app_data, List.flatMap_cons, List.flatMap_nil, it1, it4, List.append_nil, List.append_assoc]
  rw [e] at h
  exact h
set_option maxRecDepth 100000 in
set_option maxHeartbeats 4000000 in
theorem evText_any (a b c : Int) (k : ByteArray) (u : Value) (l : List At) (w : World) (hr : IsRow w 4 u l.length (aCells l)) (hl : l.length ≤ 1000000) (hn : NmA l) (h6 : ∀ x ∈ l, x.n.size ≤ 65536) (hk : k.size ≤ 65536) (hT : UT w) (hM : ML w) (hQ : Q.Tab w) :
    Calls Tryz.prog 19 #[.agg (evA a b c k u)] w fun e w' => e = .returned (.string (txE a b c k l)) ∧ Below w.heap.size w w' := by
  have HCh := fun (W : World) (h : Below w.heap.size w W) => evCheck_any a b c k u l W (hr.below h) hl hn (by omega) (Utf8Tabs_below hT h) (ML_below hM h)
  have HAt := fun (W : World) (h : Below w.heap.size w W) => textA_any u l W (hr.below h) hl (fun x hx => ⟨h6 x hx, (hn x hx).2⟩) (Utf8Tabs_below hT h) (ML_below hM h) (hQ.below h hQ.size)
  obtain ⟨au, cu, rfl⟩ := hr.form
  unfold txE
  by_cases hc : chkE a b c k l = true
  rotate_left
  · rw [if_neg hc]
    have hf : chkE a b c k l = false := by simpa using hc
    have HC : Hid (∀ W, Below w.heap.size w W → Calls Tryz.prog 11 #[.agg (evA a b c k (.slice au l.length cu))] W fun e w' => e = .returned (.bool false) ∧ Below W.heap.size W w') := fun W h => hf ▸ HCh W h
    clear hc hf hr hl hn h6 hk HCh HAt hT hM hQ
    obtain ⟨w1, hw1⟩ : ∃ w1, w1 = w.alloc (.cells (evA a b c k (.slice au l.length cu)) 26) := ⟨_, rfl⟩
    have B1 : Hid (Below w.heap.size w w1) := by show Below _ _ _; rw [hw1]; exact al_b _ _
    have hn1 : w1.heap[w.heap.size]? = some (.cells (evA a b c k (.slice au l.length cu)) 26 (0, 0)) := by rw [hw1]; exact new_at _ _
    have C1 : Hid (∀ W, Below w1.heap.size w1 W → W.heap[w.heap.size]? = some (.cells (evA a b c k (.slice au l.length cu)) 26 (0, 0))) := fun W h => (h.block _ (Array.getElem?_eq_some_iff.1 hn1).1).trans hn1
    clear hn1
    have hk := C1.out w1 (Below.refl _ _)
    have c1_0 : w1.cell? ⟨w.heap.size, 0, none⟩ = some (.int .i64 a) := by rw [Lib.cell_of_heap hk]; rfl
    have c1_1 : w1.cell? ⟨w.heap.size, 1, none⟩ = some (.int .i64 b) := by rw [Lib.cell_of_heap hk]; rfl
    have c1_2 : w1.cell? ⟨w.heap.size, 2, none⟩ = some (.int .i64 c) := by rw [Lib.cell_of_heap hk]; rfl
    have c1_3 : w1.cell? ⟨w.heap.size, 3, none⟩ = some (.string k) := by rw [Lib.cell_of_heap hk]; rfl
    have c1_4 : w1.cell? ⟨w.heap.size, 4, none⟩ = some (.slice au l.length cu) := by rw [Lib.cell_of_heap hk]; rfl
    clear hk
    go_enter Tryz.func19, Tryz.ntmps19
    go_wp2_with fail
    rw [← hw1]
    clear hw1
    try go_wp2_with fail
    clear c1_0 c1_1 c1_2 c1_3 c1_4
    refine (HC.out _ B1.out).mono ?_
    rintro e w2 ⟨rfl, hb⟩
    have B2 : Hid (Below w1.heap.size w1 w2) := hb
    clear hb 
    have HBz : Hid (Below w.heap.size w w2) := (bT B1.out B2.out)
    go_wp2
    go_ret
    exact ⟨rfl, HBz.out⟩
  rw [if_pos hc]
  obtain ⟨R, HRr⟩ : ∃ R, Hid (nmB a ++ nmB b ++ nmB c ++ nmB (k.size : Int) ++ k ++ textA l = R) := ⟨_, rfl⟩
  rw [HRr.out]
  have hi : idB a b c = true := by simp only [chkE, Bool.and_eq_true] at hc; exact hc.1.1
  have ha : chkA l = true := by simp only [chkE, Bool.and_eq_true] at hc; exact hc.2
  have hts := textA_size ha h6
  have hna := nmB_size a
  have hnb := nmB_size b
  have hnc := nmB_size c
  have hnk := nmB_size (k.size : Int)
  have HC : Hid (∀ W, Below w.heap.size w W → Calls Tryz.prog 11 #[.agg (evA a b c k (.slice au l.length cu))] W fun e w' => e = .returned (.bool true) ∧ Below W.heap.size W w') := fun W h => hc ▸ HCh W h
  have HPu : Hid (∀ (W : World) v, Below w.heap.size w W → IsRow W 3 v 4 (itCells [⟨1, a, e0S⟩, ⟨1, b, e0S⟩, ⟨1, c, e0S⟩, ⟨4, 0, k⟩]) → Calls Tryz.prog 56 #[v] W fun e w' => e = .returned (.tuple #[.string (nmB a ++ nmB b ++ nmB c ++ nmB (k.size : Int) ++ k), .int .i64 0]) ∧ Below W.heap.size W w') := fun W v h hq => put_4E a b c k W v hq hi hk (hQ.below h hQ.size)
  have HTx : Hid (∀ W, Below w.heap.size w W → Calls Tryz.prog 57 #[.slice au l.length cu] W fun e w' => e = .returned (.string (textA l)) ∧ Below W.heap.size W w') := HAt
  have hFs : (nmB a ++ nmB b ++ nmB c ++ nmB (k.size : Int) ++ k).size ≤ 70000 := by simp only [ByteArray.size_append]; omega
  generalize hF : nmB a ++ nmB b ++ nmB c ++ nmB (k.size : Int) ++ k = F at *
  generalize textA l = G at *
  clear hc hr hl hn h6 hT hM hQ HCh HAt hi ha hna hnb hnc hnk hF
  obtain ⟨w1, hw1⟩ : ∃ w1, w1 = w.alloc (.cells (evA a b c k (.slice au l.length cu)) 26) := ⟨_, rfl⟩
  have B1 : Hid (Below w.heap.size w w1) := by show Below _ _ _; rw [hw1]; exact al_b _ _
  have hn1 : w1.heap[w.heap.size]? = some (.cells (evA a b c k (.slice au l.length cu)) 26 (0, 0)) := by rw [hw1]; exact new_at _ _
  have C1 : Hid (∀ W, Below w1.heap.size w1 W → W.heap[w.heap.size]? = some (.cells (evA a b c k (.slice au l.length cu)) 26 (0, 0))) := fun W h => (h.block _ (Array.getElem?_eq_some_iff.1 hn1).1).trans hn1
  clear hn1
  have hk := C1.out w1 (Below.refl _ _)
  have c1_0 : w1.cell? ⟨w.heap.size, 0, none⟩ = some (.int .i64 a) := by rw [Lib.cell_of_heap hk]; rfl
  have c1_1 : w1.cell? ⟨w.heap.size, 1, none⟩ = some (.int .i64 b) := by rw [Lib.cell_of_heap hk]; rfl
  have c1_2 : w1.cell? ⟨w.heap.size, 2, none⟩ = some (.int .i64 c) := by rw [Lib.cell_of_heap hk]; rfl
  have c1_3 : w1.cell? ⟨w.heap.size, 3, none⟩ = some (.string k) := by rw [Lib.cell_of_heap hk]; rfl
  have c1_4 : w1.cell? ⟨w.heap.size, 4, none⟩ = some (.slice au l.length cu) := by rw [Lib.cell_of_heap hk]; rfl
  clear hk
  go_enter Tryz.func19, Tryz.ntmps19
  go_wp2_with fail
  rw [← hw1]
  clear hw1
  try go_wp2_with fail
  clear c1_0 c1_1 c1_2 c1_3 c1_4
  refine (HC.out _ B1.out).mono ?_
  rintro e w2 ⟨rfl, hb⟩
  have B2 : Hid (Below w1.heap.size w1 w2) := hb
  clear hb 
  have hk := C1.out w2 B2.out
  have c1_0 : w2.cell? ⟨w.heap.size, 0, none⟩ = some (.int .i64 a) := by rw [Lib.cell_of_heap hk]; rfl
  have c1_1 : w2.cell? ⟨w.heap.size, 1, none⟩ = some (.int .i64 b) := by rw [Lib.cell_of_heap hk]; rfl
  have c1_2 : w2.cell? ⟨w.heap.size, 2, none⟩ = some (.int .i64 c) := by rw [Lib.cell_of_heap hk]; rfl
  have c1_3 : w2.cell? ⟨w.heap.size, 3, none⟩ = some (.string k) := by rw [Lib.cell_of_heap hk]; rfl
  have c1_4 : w2.cell? ⟨w.heap.size, 4, none⟩ = some (.slice au l.length cu) := by rw [Lib.cell_of_heap hk]; rfl
  clear hk
  obtain ⟨w3, hw3⟩ : ∃ w3, w3 = w2.alloc (.cells #[.int .i64 1, .int .i64 a, .string ⟨#[]⟩, .int .i64 1, .int .i64 b, .string ⟨#[]⟩, .int .i64 1, .int .i64 c, .string ⟨#[]⟩, .int .i64 4, .int .i64 0, .string k] 104) := ⟨_, rfl⟩
  have B3 : Hid (Below w2.heap.size w2 w3) := by show Below _ _ _; rw [hw3]; exact al_b _ _
  have hn3 : w3.heap[w2.heap.size]? = some (.cells #[.int .i64 1, .int .i64 a, .string ⟨#[]⟩, .int .i64 1, .int .i64 b, .string ⟨#[]⟩, .int .i64 1, .int .i64 c, .string ⟨#[]⟩, .int .i64 4, .int .i64 0, .string k] 104 (0, 0)) := by rw [hw3]; exact new_at _ _
  have C3 : Hid (∀ W, Below w3.heap.size w3 W → W.heap[w2.heap.size]? = some (.cells #[.int .i64 1, .int .i64 a, .string ⟨#[]⟩, .int .i64 1, .int .i64 b, .string ⟨#[]⟩, .int .i64 1, .int .i64 c, .string ⟨#[]⟩, .int .i64 4, .int .i64 0, .string k] 104 (0, 0))) := fun W h => (h.block _ (Array.getElem?_eq_some_iff.1 hn3).1).trans hn3
  clear hn3
  have HRi : Hid (IsRow w3 3 (.slice (some ⟨w2.heap.size, 0, none⟩) 4 4) 4 (itCells [⟨1, a, e0S⟩, ⟨1, b, e0S⟩, ⟨1, c, e0S⟩, ⟨4, 0, k⟩])) := row_blk (C3.out _ (Below.refl _ _)) rfl (Nat.le_refl _) (by decide) (fun j u hj => by rw [List.getElem?_toArray]; exact hj)
  go_wp2_with fail
  rw [← hw3]
  clear hw3
  clear c1_0 c1_1 c1_2 c1_3 c1_4
  refine (HPu.out _ _ (bT (bT B1.out B2.out) B3.out) HRi.out).mono ?_
  rintro e w4 ⟨rfl, hb⟩
  have B4 : Hid (Below w3.heap.size w3 w4) := hb
  clear hb 
  have hk := C1.out w4 (bT (bT B2.out B3.out) B4.out)
  have c1_0 : w4.cell? ⟨w.heap.size, 0, none⟩ = some (.int .i64 a) := by rw [Lib.cell_of_heap hk]; rfl
  have c1_1 : w4.cell? ⟨w.heap.size, 1, none⟩ = some (.int .i64 b) := by rw [Lib.cell_of_heap hk]; rfl
  have c1_2 : w4.cell? ⟨w.heap.size, 2, none⟩ = some (.int .i64 c) := by rw [Lib.cell_of_heap hk]; rfl
  have c1_3 : w4.cell? ⟨w.heap.size, 3, none⟩ = some (.string k) := by rw [Lib.cell_of_heap hk]; rfl
  have c1_4 : w4.cell? ⟨w.heap.size, 4, none⟩ = some (.slice au l.length cu) := by rw [Lib.cell_of_heap hk]; rfl
  clear hk
  go_wp2_with fail
  clear c1_0 c1_1 c1_2 c1_3 c1_4
  refine (HTx.out _ (bT (bT (bT B1.out B2.out) B3.out) B4.out)).mono ?_
  rintro e w5 ⟨rfl, hb⟩
  have B5 : Hid (Below w4.heap.size w4 w5) := hb
  clear hb 
  have HBz : Hid (Below w.heap.size w w5) := (bT (bT (bT (bT B1.out B2.out) B3.out) B4.out) B5.out)
  go_wp2
  go_ret
  exact ⟨by rw [← HRr.out]; rfl, HBz.out⟩
set_option maxRecDepth 100000 in
set_option maxHeartbeats 8000000 in
theorem refText6_any (a b c : Int) (k : ByteArray) (u : Value) (l : List At) (w : World) (hr : IsRow w 4 u l.length (aCells l)) (hl : l.length ≤ 1000000) (hn : NmRA l) (h6 : ∀ x ∈ l, x.n.size ≤ 65536) (hk : k.size ≤ 65536) :
    Calls Tryz.prog 20 #[.agg (evA a b c k u)] w fun e w' => e = .returned (.string (txE a b c k l)) ∧ Below w.heap.size w w' := by
  have HCh := fun (W : World) (h : Below w.heap.size w W) => refCheck6_any a b c k u l W (hr.below h) hl hn (by omega)
  have HAt := fun (W : World) (h : Below w.heap.size w W) => refTextA_any u l W (hr.below h) hl hn h6
  obtain ⟨au, cu, rfl⟩ := hr.form
  unfold txE
  by_cases hc : chkE a b c k l = true
  rotate_left
  · rw [if_neg hc]
    have hf : chkE a b c k l = false := by simpa using hc
    have HC : Hid (∀ W, Below w.heap.size w W → Calls Tryz.prog 12 #[.agg (evA a b c k (.slice au l.length cu))] W fun e w' => e = .returned (.bool false) ∧ Below W.heap.size W w') := fun W h => hf ▸ HCh W h
    clear hc hf hr hl hn h6 hk HCh HAt
    obtain ⟨w1, hw1⟩ : ∃ w1, w1 = w.alloc (.cells (evA a b c k (.slice au l.length cu)) 32) := ⟨_, rfl⟩
    have B1 : Hid (Below w.heap.size w w1) := by show Below _ _ _; rw [hw1]; exact al_b _ _
    have hn1 : w1.heap[w.heap.size]? = some (.cells (evA a b c k (.slice au l.length cu)) 32 (0, 0)) := by rw [hw1]; exact new_at _ _
    have C1 : Hid (∀ W, Below w1.heap.size w1 W → W.heap[w.heap.size]? = some (.cells (evA a b c k (.slice au l.length cu)) 32 (0, 0))) := fun W h => (h.block _ (Array.getElem?_eq_some_iff.1 hn1).1).trans hn1
    clear hn1
    have hk := C1.out w1 (Below.refl _ _)
    have c1_0 : w1.cell? ⟨w.heap.size, 0, none⟩ = some (.int .i64 a) := by rw [Lib.cell_of_heap hk]; rfl
    have c1_1 : w1.cell? ⟨w.heap.size, 1, none⟩ = some (.int .i64 b) := by rw [Lib.cell_of_heap hk]; rfl
    have c1_2 : w1.cell? ⟨w.heap.size, 2, none⟩ = some (.int .i64 c) := by rw [Lib.cell_of_heap hk]; rfl
    have c1_3 : w1.cell? ⟨w.heap.size, 3, none⟩ = some (.string k) := by rw [Lib.cell_of_heap hk]; rfl
    have c1_4 : w1.cell? ⟨w.heap.size, 4, none⟩ = some (.slice au l.length cu) := by rw [Lib.cell_of_heap hk]; rfl
    clear hk
    go_enter Tryz.func20, Tryz.ntmps20
    go_wp2_with fail
    rw [← hw1]
    clear hw1
    try go_wp2_with fail
    clear c1_0 c1_1 c1_2 c1_3 c1_4
    refine (HC.out _ B1.out).mono ?_
    rintro e w2 ⟨rfl, hb⟩
    have B2 : Hid (Below w1.heap.size w1 w2) := hb
    clear hb 
    have HBz : Hid (Below w.heap.size w w2) := (bT B1.out B2.out)
    go_wp2
    go_ret
    exact ⟨rfl, HBz.out⟩
  rw [if_pos hc]
  obtain ⟨R, HRr⟩ : ∃ R, Hid (nmB a ++ nmB b ++ nmB c ++ nmB (k.size : Int) ++ k ++ textA l = R) := ⟨_, rfl⟩
  rw [HRr.out]
  have hi : idB a b c = true := by simp only [chkE, Bool.and_eq_true] at hc; exact hc.1.1
  have ha : chkA l = true := by simp only [chkE, Bool.and_eq_true] at hc; exact hc.2
  have hts := textA_size ha h6
  have hna := nmB_size a
  have hnb := nmB_size b
  have hnc := nmB_size c
  have hnk := nmB_size (k.size : Int)
  have HC : Hid (∀ W, Below w.heap.size w W → Calls Tryz.prog 12 #[.agg (evA a b c k (.slice au l.length cu))] W fun e w' => e = .returned (.bool true) ∧ Below W.heap.size W w') := fun W h => hc ▸ HCh W h
  have HNa : Hid (∀ W, Calls Tryz.prog 58 #[.int .i64 a] W fun e w' => e = .returned (.string (nmB a)) ∧ Below W.heap.size W w') := fun W => Q.refNum_any a W
  have HNb : Hid (∀ W, Calls Tryz.prog 58 #[.int .i64 b] W fun e w' => e = .returned (.string (nmB b)) ∧ Below W.heap.size W w') := fun W => Q.refNum_any b W
  have HNc : Hid (∀ W, Calls Tryz.prog 58 #[.int .i64 c] W fun e w' => e = .returned (.string (nmB c)) ∧ Below W.heap.size W w') := fun W => Q.refNum_any c W
  have HNk : Hid (∀ W, Calls Tryz.prog 58 #[.int .i64 (k.size : Int)] W fun e w' => e = .returned (.string (nmB (k.size : Int))) ∧ Below W.heap.size W w') := fun W => Q.refNum_any _ W
  have HTx : Hid (∀ W, Below w.heap.size w W → Calls Tryz.prog 59 #[.slice au l.length cu] W fun e w' => e = .returned (.string (textA l)) ∧ Below W.heap.size W w') := HAt
  generalize nmB a = A at *
  generalize nmB b = B at *
  generalize nmB c = C at *
  generalize nmB (k.size : Int) = KN at *
  generalize textA l = G at *
  clear hc hr hl hn h6 HCh HAt hi ha
  obtain ⟨w1, hw1⟩ : ∃ w1, w1 = w.alloc (.cells (evA a b c k (.slice au l.length cu)) 32) := ⟨_, rfl⟩
  have B1 : Hid (Below w.heap.size w w1) := by show Below _ _ _; rw [hw1]; exact al_b _ _
  have hn1 : w1.heap[w.heap.size]? = some (.cells (evA a b c k (.slice au l.length cu)) 32 (0, 0)) := by rw [hw1]; exact new_at _ _
  have C1 : Hid (∀ W, Below w1.heap.size w1 W → W.heap[w.heap.size]? = some (.cells (evA a b c k (.slice au l.length cu)) 32 (0, 0))) := fun W h => (h.block _ (Array.getElem?_eq_some_iff.1 hn1).1).trans hn1
  clear hn1
  have HX : Hid (∀ W, Below w1.heap.size w1 W → BxV w.heap.size a b c k (.slice au l.length cu) W) := fun W h => BxV.of (C1.out W h)
  have hk := C1.out w1 (Below.refl _ _)
  have c1_0 : w1.cell? ⟨w.heap.size, 0, none⟩ = some (.int .i64 a) := by rw [Lib.cell_of_heap hk]; rfl
  have c1_1 : w1.cell? ⟨w.heap.size, 1, none⟩ = some (.int .i64 b) := by rw [Lib.cell_of_heap hk]; rfl
  have c1_2 : w1.cell? ⟨w.heap.size, 2, none⟩ = some (.int .i64 c) := by rw [Lib.cell_of_heap hk]; rfl
  have c1_3 : w1.cell? ⟨w.heap.size, 3, none⟩ = some (.string k) := by rw [Lib.cell_of_heap hk]; rfl
  have c1_4 : w1.cell? ⟨w.heap.size, 4, none⟩ = some (.slice au l.length cu) := by rw [Lib.cell_of_heap hk]; rfl
  clear hk
  go_enter Tryz.func20, Tryz.ntmps20
  go_wp2_with fail
  rw [← hw1]
  clear hw1
  try go_wp2_with fail
  clear c1_0 c1_1 c1_2 c1_3 c1_4
  refine (HC.out _ B1.out).mono ?_
  rintro e w2 ⟨rfl, hb⟩
  have B2 : Hid (Below w1.heap.size w1 w2) := hb
  clear hb 
  have H2 : Hid (Below w1.heap.size w1 w2) := B2.out
  have HBw : Hid (∀ W, Below w1.heap.size w1 W → Below w.heap.size w W) := fun W h => bT B1.out h
  clear B1 B2 C1 HC
  go_wp2_with fail
  refine wp_region_quiet (C := fun w' => Below w1.heap.size w1 w') (by kernel_rfl) (by kernel_rfl) (H2.out.drew) ?_
  dsimp only
  repeat (first
    | go_big_quiet_skip
    | (go_big_quiet_want
       apply Exists.intro
       refine ⟨fun W' hW' => ?_, ?_⟩
       · have hw : Below w1.heap.size w1 W' := hW'
         obtain ⟨⟨g0, g1, g2⟩, g3, g4⟩ := HX.out W' hw
         go_simp
         first
           | done
           | rfl
           | (rw [if_neg (by (try simp only [ByteArray.size_append]); omega)]; exact ⟨rfl, rfl⟩)
           | (go_at_call 58; (first | (with_reducible refine Calls.mono (HNa.out W') ?_) | (with_reducible refine Calls.mono (HNb.out W') ?_) | (with_reducible refine Calls.mono (HNc.out W') ?_) | (with_reducible refine Calls.mono (HNk.out W') ?_)); rintro e w'' ⟨rfl, hb⟩; exact ⟨rfl, hw.trans (hb.mono hw.size)⟩)
           | (go_at_call 59; (with_reducible refine Calls.mono (HTx.out W' (HBw.out W' hw)) ?_); rintro e w'' ⟨rfl, hb⟩; exact ⟨rfl, hw.trans (hb.mono hw.size)⟩)
       go_big_quiet_on
       try simp only [Act.put, List.setIfInBounds_toArray, List.set_cons_zero, List.set_cons_succ]))
  refine wpQuiet_nil ?_
  intro w3 hqw2
  have HBz : Hid (Below w.heap.size w w3) := HBw.out _ hqw2
  clear hqw2
  go_wp2
  go_ret
  exact ⟨by rw [← HRr.out]; rfl, HBz.out⟩
end Go.Proofs.YtacpllmlpmllbaaGreatDoor
/- The frame of law03's seven variables lays also the table of trailing noughts that the library's bit counting reads. -/
namespace Go.Proofs.YtacpllmlpmllbaaGreatDoor
open Go.ChangeShapes Go.WideShapes Go.ChangeAt Go.WideMaps Go.WideElems Go.RowKit Go.Deep

theorem qtab_of {W : World} (h : laidMetH Tryz.prog V.laidV W) : Q.Tab W := by
  rw [MakeChecks.laidMetH_plain _ _ _ (by kernel_rfl)] at h
  have h2 := laidMet.tail h
  have h3 : Lib.TabIs Tryz.prog W "math/bits.deBruijn64tab" .u8 V.tab64 := Lib.tabIs_of_head V.g64 V.t64 Tryz.underlying247 Tryz.underlying5 (by kernel_rfl) (by kernel_rfl) h2
  exact ⟨h3.cell V.g64 0 (by decide), h3.cell V.g64 1 (by decide), h3.cell V.g64 3 (by decide), h3.cell V.g64 7 (by decide)⟩
end Go.Proofs.YtacpllmlpmllbaaGreatDoor
/- Values: what is read was written or shown so, and what is written or shown is read. Plain. -/
namespace Go.Proofs.YtacpllmlpmllbaaGreatDoor.V
open Go.RowKit

theorem ok_of_chk {k n : Int} {s : ByteArray} (h : chkV k n s = true) : okL k n s.data.toList := by
  have nil : s.size = 0 → s.data.toList = [] := fun e => List.eq_nil_of_length_eq_zero (by rw [← Lib.size_eq]; exact e)
  unfold chkV at h
  split at h
  · rename_i e; simp only [Bool.and_eq_true, decide_eq_true_eq] at h; exact .inl ⟨e, nil h.1, h.2.1, h.2.2⟩
  split at h
  · rename_i e; simp only [Bool.and_eq_true, decide_eq_true_eq] at h; exact .inr (.inl ⟨e, h.1, by rw [← Lib.size_eq]; exact h.2.1, h.2.2⟩)
  split at h
  · rename_i e; simp only [Bool.and_eq_true, decide_eq_true_eq] at h; exact .inr (.inr (.inl ⟨e, nil h.1, h.2⟩))
  split at h
  · rename_i e; simp only [Bool.and_eq_true, decide_eq_true_eq] at h; exact .inr (.inr (.inr ⟨e, h.1, by rw [← Lib.size_eq]; exact h.2⟩))
  · cases h
theorem shw_is {k n : Int} {s : ByteArray} (h : chkV k n s = true) : shwV k n s = str (shwL k n s.data.toList) := by
  unfold shwV shwL
  rw [if_pos h]
  by_cases k1 : k = 1
  · rw [if_pos k1, if_pos k1]
  rw [if_neg k1, if_neg k1]
  by_cases k3 : k = 3
  · rw [if_pos k3, if_pos k3]
    by_cases hn : n = 1
    · rw [if_pos (by rw [hn]; rfl), if_pos hn]; rfl
    · rw [if_neg (by simpa using hn), if_neg hn]; rfl
  rw [if_neg k3, if_neg k3]
  by_cases k4 : k = 4
  · rw [if_pos k4, if_pos k4]
  · rw [if_neg k4, if_neg k4]
    rfl
theorem flat6 : ∀ l : List Nat, (l.flatMap shR).length ≤ 6 * l.length
  | [] => by simp
  | c :: l => by
    have := flat6 l
    have := shR_len c
    simp only [List.flatMap_cons, List.length_append, List.length_cons]
    omega
theorem shw_size {k n : Int} {s : ByteArray} (h : chkV k n s = true) : (shwV k n s).size ≤ 5000 := by
  rw [shw_is h, str_size]
  rcases ok_of_chk h with ⟨rfl, -, h1, h2⟩ | ⟨rfl, -, h1, -⟩ | ⟨rfl, -, -⟩ | ⟨rfl, -, h1⟩
  · unfold shwL Lib.itoa
    rw [if_pos rfl]
    have l1 := dec_len' 16 n.natAbs (by omega) (by decide)
    have l2 := dec_len' 16 n.toNat (by omega) (by decide)
    split
    · rw [List.length_cons]; omega
    · omega
  · unfold shwL
    rw [if_neg (by decide), if_neg (by decide), if_neg (by decide)]
    have l1 := flat6 (rns s.data.toList)
    have l2 : (rns s.data.toList).length ≤ s.data.toList.length := rns_len_le _ _
    simp only [List.length_append, List.length_cons, List.length_nil]
    omega
  · unfold shwL
    rw [if_neg (by decide), if_pos rfl]
    split <;> decide
  · unfold shwL
    rw [if_neg (by decide), if_neg (by decide), if_pos rfl]
    simp only [List.length_append, List.length_cons, List.length_nil, hexs_len]
    omega
/-! ### bytes -/
end Go.Proofs.YtacpllmlpmllbaaGreatDoor.V
