/- The reference's Bytes, Fold: walks. -/
import Derived.Test.YtmnmjphgpblbhaaDoorZb6
import Derived.Test.YtmnmjphgpblbhaaDoorZb5
import Derived.Test.YtmnmjphgpblbhaaDoorZb2
import Derived.ProofKit
import Derived.LaidMore
import Derived.Stop.LaidErr
import Derived.OpenShut
import Derived.ShutString
import Derived.ChangeOld
import Derived.Below
import Derived.Lib.LaidTab
import Derived.Stop.Joined
import Derived.Deep.Slices
import Derived.Deep.Strs
import Derived.SizedLaws
import Derived.PinnedBridge
import Derived.Lay
import Derived.Lib.LaidU8T
import Derived.Lib.SmallJoins
namespace Go.Proofs.YtmnmjphgpblbhaaDoor
open Go.RowKit

theorem conv1 (w : World) (a : Int) : (convert 70 9 (.slice (some ⟨w.heap.size, 0, none⟩) 1 1)).run Tryd.prog (w.alloc (.cells #[.int .u8 a] 5)) = .ok (.string (strOfNums [a])) (w.alloc (.cells #[.int .u8 a] 5)) :=
  run_convert_bytes_arg (P := Tryd.prog) (w.alloc (.cells #[.int .u8 a] 5)) 70 5 Tryd.underlying70 Tryd.underlying5 w.heap.size 0 1 1 [a] rfl (fun i hi => by
    match i, hi with
    | 0, _ => simp) 9 Tryd.underlying9
theorem conv2 (w : World) (a b : Int) : (convert 70 9 (.slice (some ⟨w.heap.size, 0, none⟩) 2 2)).run Tryd.prog (w.alloc (.cells #[.int .u8 a, .int .u8 b] 5)) = .ok (.string (strOfNums [a, b])) (w.alloc (.cells #[.int .u8 a, .int .u8 b] 5)) :=
  run_convert_bytes_arg (P := Tryd.prog) (w.alloc (.cells #[.int .u8 a, .int .u8 b] 5)) 70 5 Tryd.underlying70 Tryd.underlying5 w.heap.size 0 2 2 [a, b] rfl (fun i hi => by
    match i, hi with
    | 0, _ => simp
    | 1, _ => simp) 9 Tryd.underlying9
theorem conv3 (w : World) (a b c : Int) : (convert 70 9 (.slice (some ⟨w.heap.size, 0, none⟩) 3 3)).run Tryd.prog (w.alloc (.cells #[.int .u8 a, .int .u8 b, .int .u8 c] 5)) = .ok (.string (strOfNums [a, b, c])) (w.alloc (.cells #[.int .u8 a, .int .u8 b, .int .u8 c] 5)) :=
  run_convert_bytes_arg (P := Tryd.prog) (w.alloc (.cells #[.int .u8 a, .int .u8 b, .int .u8 c] 5)) 70 5 Tryd.underlying70 Tryd.underlying5 w.heap.size 0 3 3 [a, b, c] rfl (fun i hi => by
    match i, hi with
    | 0, _ => simp
    | 1, _ => simp
    | 2, _ => simp) 9 Tryd.underlying9
theorem conv4 (w : World) (a b c d : Int) : (convert 70 9 (.slice (some ⟨w.heap.size, 0, none⟩) 4 4)).run Tryd.prog (w.alloc (.cells #[.int .u8 a, .int .u8 b, .int .u8 c, .int .u8 d] 5)) = .ok (.string (strOfNums [a, b, c, d])) (w.alloc (.cells #[.int .u8 a, .int .u8 b, .int .u8 c, .int .u8 d] 5)) :=
  run_convert_bytes_arg (P := Tryd.prog) (w.alloc (.cells #[.int .u8 a, .int .u8 b, .int .u8 c, .int .u8 d] 5)) 70 5 Tryd.underlying70 Tryd.underlying5 w.heap.size 0 4 4 [a, b, c, d] rfl (fun i hi => by
    match i, hi with
    | 0, _ => simp
    | 1, _ => simp
    | 2, _ => simp
    | 3, _ => simp) 9 Tryd.underlying9

theorem str_nums (l : List Nat) (xs : List Int) (h : xs = l.map fun (x : Nat) => (x : Int)) : strOfNums xs = str (l.map UInt8.ofNat) := by
  subst h
  unfold strOfNums str
  congr 2
  rw [List.map_map]
  rfl

set_option maxRecDepth 100000 in
set_option maxHeartbeats 2000000 in
theorem refBytes_any (c : Nat) (w : World) (h : scal c) :
    Calls Tryd.prog 38 #[.int .i64 (c : Int)] w fun e w' => e = .returned (.string (str (enc c))) ∧ Below w.heap.size w w' := by
  have hc : c ≤ 1114111 := by unfold scal at h; omega
  by_cases h1 : c < 128
  · have d1 : (c : Int) < 128 := by omega
    have HE : Hid (strOfNums [(c : Int)] = str (enc c)) := by
      show _ = _
      rw [enc1 h1]
      exact str_nums [c] _ rfl
    go_enter Tryd.func38, Tryd.ntmps38
    go_wp2
    rw [conv1]
    go_wp2
    go_ret
    exact ⟨by rw [← HE.out]; rfl, (Below.refl _ _).alloc (Nat.le_refl _) _⟩
  have d1 : decide ((c : Int) < 128) = false := by simp; omega
  by_cases h2 : c < 2048
  · have d2 : (c : Int) < 2048 := by omega
    have HE : Hid (strOfNums [192 + (c : Int) / 64, 128 + (c : Int) % 64] = str (enc c)) := by
      show _ = _
      rw [enc2 (by omega) h2]
      exact str_nums [192 + c / 64, 128 + c % 64] _ (by simp)
    go_enter Tryd.func38, Tryd.ntmps38
    go_wp2
    rw [conv2]
    go_wp2
    go_ret
    exact ⟨by rw [← HE.out]; rfl, (Below.refl _ _).alloc (Nat.le_refl _) _⟩
  have d2 : decide ((c : Int) < 2048) = false := by simp; omega
  by_cases h3 : c < 65536
  · have d3 : (c : Int) < 65536 := by omega
    have HE : Hid (strOfNums [224 + (c : Int) / 4096, 128 + (c : Int) / 64 % 64, 128 + (c : Int) % 64] = str (enc c)) := by
      show _ = _
      rw [enc3 (by omega) h3 h]
      exact str_nums [224 + c / 4096, 128 + c / 64 % 64, 128 + c % 64] _ (by simp)
    go_enter Tryd.func38, Tryd.ntmps38
    go_wp2
    rw [conv3]
    go_wp2
    go_ret
    exact ⟨by rw [← HE.out]; rfl, (Below.refl _ _).alloc (Nat.le_refl _) _⟩
  · have d3 : decide ((c : Int) < 65536) = false := by simp; omega
    have HE : Hid (strOfNums [240 + (c : Int) / 262144, 128 + (c : Int) / 4096 % 64, 128 + (c : Int) / 64 % 64, 128 + (c : Int) % 64] = str (enc c)) := by
      show _ = _
      rw [enc4 (by omega) h]
      exact str_nums [240 + c / 262144, 128 + c / 4096 % 64, 128 + c / 64 % 64, 128 + c % 64] _ (by simp)
    go_enter Tryd.func38, Tryd.ntmps38
    go_wp2
    rw [conv4]
    go_wp2
    go_ret
    exact ⟨by rw [← HE.out]; rfl, (Below.refl _ _).alloc (Nat.le_refl _) _⟩

theorem str_append (a b : List UInt8) : str a ++ str b = str (a ++ b) := ba_eq (by rw [ba_append, str_data, str_data, str_data])
theorem room {A B : ByteArray} (h1 : A.size ≤ 4000000) (h2 : B.size ≤ 4) : ¬ 9223372036854775807 < A.size + B.size := by omega
theorem ints_row {w : World} {v : Value} {l : List Nat} (h : IsRow w 1 v l.length (icells l)) (i : Nat) (hi : i < l.length) :
    ∃ b off cap, v = .slice (some ⟨b, off, none⟩) l.length cap ∧ b < w.heap.size ∧ w.cell? ⟨b, off + i, none⟩ = some (.int .i64 ((l[i]'hi : Nat) : Int)) := by
  obtain ⟨b, off, cap', hv, hlt, _, _, hc⟩ := h.open (by omega)
  exact ⟨b, off, cap', hv, hlt, hc i _ (by simp [icells, hi])⟩

set_option maxRecDepth 100000 in
set_option maxHeartbeats 2000000 in
theorem refFold_any (s : ByteArray) (w : World) (hs : s.size ≤ 1000000) :
    Calls Tryd.prog 21 #[.string s] w fun e w' => e = .returned (.string (str (foldL s.data.toList))) ∧ Below w.heap.size w w' := by
  by_cases hv : Lib.validD s.data.toList = true
  · have HF : Hid (str (((rns s.data.toList).map smallN).flatMap enc) = str (foldL s.data.toList)) := by show _ = _; rw [foldL, if_pos hv]
    have HL : Hid ((rns s.data.toList).length ≤ 1000000) := by
      have h3 := rns_len_le s.data.toList.length s.data.toList
      have e : s.data.toList.length = s.size := Array.length_toList
      have : (rns s.data.toList).length ≤ s.data.toList.length := h3
      show _ ≤ _
      omega
    have HS : Hid (∀ c ∈ rns s.data.toList, scal c) := rns_scal _
    go_enter Tryd.func21, Tryd.ntmps21
    go_wp2_with fail
    refine (refValid_any s _ (by omega)).mono ?_
    rintro e w1 ⟨rfl, hb1⟩
    rw [hv]
    go_wp2_with fail
    refine (refRunes_any s _ hs hv).mono ?_
    rintro e w2 ⟨v2, rfl, hv2, hb2'⟩
    have hb2 := hb1.trans (hb2'.mono hb1.size)
    clear hb1 hb2'
    generalize rns s.data.toList = l at *
    have hll := HL.out
    obtain ⟨a2, cap2, rfl⟩ := hv2.form
    have hs2 := hb2.size
    go_wp2_with fail
    go_loopw [4, 5] (fun o i wr => ∃ k : Nat, k ≤ l.length ∧ i = .int .i64 k ∧ o = .string (str (((l.take k).map smallN).flatMap enc)) ∧ Below w2.heap.size w2 wr) (fun _ i _ => l.length - (RowKit.intOf i).toNat)
    case atStart => exact ⟨0, Nat.zero_le _, rfl, rfl, Below.refl _ _⟩
    case round =>
      obtain ⟨k, hk, rfl, rfl, hb⟩ := hrel
      have hbs := hb.size
      by_cases hlt : k < l.length
      · obtain ⟨b, off, cap, hvv, hbl, c0⟩ := ints_row (hv2.below hb) k hlt
        simp only [Value.slice.injEq] at hvv
        obtain ⟨rfl, _, rfl⟩ := hvv
        have hi : (k : Int) < l.length := by omega
        have hsc : Hid (scal l[k]) := HS.out _ (List.getElem_mem hlt)
        have hcm : l[k] ≤ 1114111 := by have := hsc.out; unfold scal at this; omega
        have HN : Hid (str (((l.take k).map smallN).flatMap enc) ++ str (enc (smallN l[k])) = str (((l.take (k + 1)).map smallN).flatMap enc)) := by
          show _ = _
          rw [str_append, List.take_succ_eq_append_getElem hlt, List.map_append, List.flatMap_append]
          simp only [List.map_cons, List.map_nil, List.flatMap_cons, List.flatMap_nil, List.append_nil]
        have hz1 : (str (((l.take k).map smallN).flatMap enc)).size ≤ 4000000 := by
          rw [str_size]
          have h1 := flat_len ((l.take k).map smallN)
          rw [List.length_map, List.length_take] at h1
          omega
        have hz2 : (str (enc (smallN l[k]))).size ≤ 4 := by rw [str_size]; exact enc_len4 _
        have hz3 := room hz1 hz2
        clear hz1 hz2
        generalize hA : str (((l.take k).map smallN).flatMap enc) = A at *
        clear hA
        go_wp2_with fail
        refine (refSmall_any _ _ (by omega) (by omega)).mono ?_
        rintro e w' ⟨rfl, rfl⟩
        rw [smallZ_nat]
        go_wp2_with fail
        refine (refBytes_any _ _ (smallN_scal hsc.out)).mono ?_
        rintro e w3 ⟨rfl, hb3'⟩
        have hb3 : Hid (Below w2.heap.size w2 w3) := hb.trans (hb3'.mono hb.size)
        clear hb hb3' c0
        go_wp2
        go_roundw
        case rel => exact ⟨k + 1, by omega, by go_num, by rw [HN.out], hb3.out⟩
        case measure => simp [RowKit.intOf]; omega
      · have hk' : k = l.length := by omega
        subst hk'
        have HN : Hid (str (((l.take l.length).map smallN).flatMap enc) = str (foldL s.data.toList)) := by show _ = _; rw [← HF.out, List.take_of_length_le (Nat.le_refl _)]
        rw [HN.out]
        go_wp2
        go_ret
        exact ⟨rfl, hb2.trans (hb.mono hs2)⟩
  · have hv' : Lib.validD s.data.toList = false := by simpa using hv
    have HF : Hid (s = str (foldL s.data.toList)) := by show _ = _; rw [foldL, if_neg hv, str_of]
    go_enter Tryd.func21, Tryd.ntmps21
    go_wp2_with fail
    refine (refValid_any s _ (by omega)).mono ?_
    rintro e w1 ⟨rfl, hb1⟩
    rw [hv']
    go_wp2
    go_ret
    exact ⟨by rw [← HF.out]; rfl, hb1⟩
end Go.Proofs.YtmnmjphgpblbhaaDoor
/- RingOwners: for all keys, numbers and texts the law returns true. -/
namespace Go.Proofs.YtmnmjphgpblbhaaDoor
open Go.RowKit

set_option maxRecDepth 100000 in
theorem keeper_any (s : ByteArray) (v : Value) (l : List Int) (w : World) (hs : s.size ≤ 1000000) (hr : IsRow w 1 v l.length (iCells l)) (hl : l.length ≤ 1000) (hT : UT w) :
    Calls Tryd.prog 12 #[.string s, v] w fun e w' => e = .returned (.tuple #[.int .i64 (ownL (keyL s.data.toList) l : Int), .bool (hasL l)]) ∧ Below w.heap.size w w' := by
  have HK : Hid (Calls Tryd.prog 33 #[.string s] w fun e w' => e = .returned (.int .u64 (keyL s.data.toList : Int)) ∧ Below w.heap.size w w') := key_any s w hs hT
  have HO : Hid (∀ w, IsRow w 1 v l.length (iCells l) → Calls Tryd.prog 11 #[.int .u64 (keyL s.data.toList : Int), v] w fun e w' => e = .returned (.tuple #[.int .i64 (ownL (keyL s.data.toList) l : Int), .bool (hasL l)]) ∧ Below w.heap.size w w') := fun w h => ownerL_any _ v l w h hl
  have HR : Hid (IsRow w 1 v l.length (iCells l)) := hr
  clear hr
  generalize ownL (keyL s.data.toList) l = o at *
  generalize hasL l = b at *
  generalize keyL s.data.toList = k at *
  go_enter Tryd.func12, Tryd.ntmps12
  go_wp2_with fail
  refine HK.out.mono ?_
  rintro e w1 ⟨rfl, hb1⟩
  have HR1 : Hid (IsRow w1 1 v l.length (iCells l)) := HR.out.below hb1
  go_wp2_with fail
  refine (HO.out _ HR1.out).mono ?_
  rintro e w2 ⟨rfl, hb2⟩
  have HB : Hid (Below w.heap.size w w2) := hb1.trans (hb2.mono hb1.size)
  clear hb1 hb2
  go_wp2
  go_ret2
  exact ⟨rfl, HB.out⟩
abbrev SA (b : Nat) (n : Int) (s : ByteArray) (w0 w : World) : Prop := w.cell? ⟨b, 0, none⟩ = some (.int .i64 n) ∧ w.cell? ⟨b, 1, none⟩ = some (.string s) ∧ b < w.heap.size ∧ Below w0.heap.size w0 w
theorem SA_drew {b : Nat} {n : Int} {s : ByteArray} {w0 W : World} (h : SA b n s w0 W) : SA b n s w0 W.drew := ⟨h.1, h.2.1, h.2.2.1, h.2.2.2.drew⟩
theorem SA_call {b : Nat} {n : Int} {s : ByteArray} {w0 W w' : World} (hb : Below W.heap.size W w') (h : SA b n s w0 W) : SA b n s w0 w' := ⟨(hb.cell (p := ⟨b, 0, none⟩) h.2.2.1).trans h.1, (hb.cell (p := ⟨b, 1, none⟩) h.2.2.1).trans h.2.1, Nat.lt_of_lt_of_le h.2.2.1 hb.size, h.2.2.2.trans (hb.mono h.2.2.2.size)⟩
theorem SA_b {b : Nat} {n : Int} {s : ByteArray} {w0 W : World} (h : SA b n s w0 W) : Below w0.heap.size w0 W := h.2.2.2
set_option maxRecDepth 100000 in
set_option maxHeartbeats 4000000 in
theorem ringOwners_walk (key : Nat) (v : Value) (l : List Int) (xn : Int) (xs : ByteArray) (w : World) (hr : IsRow w 1 v l.length (iCells l)) (hl : l.length ≤ 140737488355328) (hT : UT w) :
    Calls Tryd.prog 3 #[.int .u64 (key : Int), v, .agg #[.int .i64 xn, .string xs]] w fun e w' => e = .returned (.bool true) ∧ Below w.heap.size w w' := by
  obtain ⟨a0, cap0, rfl⟩ := hr.form
  have hA := al_belowJ w (.cells #[.int .i64 xn, .string xs] 25)
  have HR : Hid (IsRow (w.alloc (.cells #[.int .i64 xn, .string xs] 25)) 1 (.slice a0 l.length cap0) l.length (iCells l)) := hr.below hA
  have HA : Hid (∀ w, Calls Tryd.prog 9 #[] w fun e w' => e = .returned (.bool true) ∧ Below w.heap.size w w') := awake10_any
  have HFw : Hid (∀ w, IsRow w 1 (.slice a0 l.length cap0) l.length (iCells l) → Calls Tryd.prog 8 #[.slice a0 l.length cap0] w fun e w' => e = .returned (.bool (decide (l.length ≤ 40))) ∧ w' = w) := fun w h => few_any _ l w h hl
  have HBA : Hid (Below w.heap.size w (w.alloc (.cells #[.int .i64 xn, .string xs] 25))) := hA
  clear hr hA
  by_cases h40 : l.length ≤ 40
  rotate_left
  · rw [decide_eq_false h40] at HFw
    go_enter Tryd.func3, Tryd.ntmps3
    go_wp2_with fail
    refine (HFw.out _ HR.out).mono ?_
    rintro e w1 ⟨rfl, hw⟩
    subst hw
    go_wp2_with fail
    refine (HA.out _).mono ?_
    rintro e w2 ⟨rfl, hb2⟩
    have HB : Hid (Below w.heap.size w w2) := HBA.out.trans (hb2.mono HBA.out.size)
    clear hb2
    go_wp2
    go_ret
    exact ⟨rfl, HB.out⟩
  rw [decide_eq_true h40] at HFw
  by_cases h200 : 200 < xs.size
  · have d200 : decide ((200 : Int) < xs.size) = true := by simp; omega
    go_enter Tryd.func3, Tryd.ntmps3
    go_wp2_with fail
    refine (HFw.out _ HR.out).mono ?_
    rintro e w1 ⟨rfl, hw⟩
    subst hw
    go_wp2_with fail
    refine (HA.out _).mono ?_
    rintro e w2 ⟨rfl, hb2⟩
    have HB : Hid (Below w.heap.size w w2) := HBA.out.trans (hb2.mono HBA.out.size)
    clear hb2
    go_wp2
    go_ret
    exact ⟨rfl, HB.out⟩
  have d200 : decide ((200 : Int) < xs.size) = false := by simp; omega
  have HH : Hid (∀ w, IsRow w 1 (.slice a0 l.length cap0) l.length (iCells l) → Calls Tryd.prog 10 #[.int .u64 (key : Int), .slice a0 l.length cap0] w fun e w' => RiPost ((hsL key (rgL l)).map fun (n : Nat) => (n : Int)) w e w') := fun w h => (refHeirs_any key _ l w h (by omega)).mono fun e w' h => h.ints
  have HO : Hid (∀ w, IsRow w 1 (.slice a0 l.length cap0) l.length (iCells l) → Calls Tryd.prog 11 #[.int .u64 (key : Int), .slice a0 l.length cap0] w fun e w' => e = .returned (.tuple #[.int .i64 (ownL key l : Int), .bool (hasL l)]) ∧ Below w.heap.size w w') := fun w h => ownerL_any key _ l w h (by omega)
  have HKp : Hid (∀ w, UT w → IsRow w 1 (.slice a0 l.length cap0) l.length (iCells l) → Calls Tryd.prog 12 #[.string xs, .slice a0 l.length cap0] w fun e w' => e = .returned (.tuple #[.int .i64 (ownL (keyL xs.data.toList) l : Int), .bool (hasL l)]) ∧ Below w.heap.size w w') := fun w hT h => keeper_any xs _ l w (by omega) h (by omega) hT
  have HN1 : Hid (∀ w, IsRow w 1 (.slice a0 l.length cap0) l.length (iCells l) → Calls Tryd.prog 13 #[.slice a0 l.length cap0] w fun e w' => e = .returned (.bool (nodesB l)) ∧ w' = w) := fun w h => nodes_any _ l w h (by omega)
  have HN2 : Hid (∀ w, IsRow w 1 (.slice a0 l.length cap0) l.length (iCells l) → Calls Tryd.prog 14 #[.slice a0 l.length cap0] w fun e w' => e = .returned (.bool (nodesB l)) ∧ Below w.heap.size w w') := fun w h => refNodes_any _ l w h (by omega)
  have HG1 : Hid (∀ w, IsRow w 1 (.slice a0 l.length cap0) l.length (iCells l) → Calls Tryd.prog 16 #[.slice a0 l.length cap0] w fun e w' => RiPost ((rgL l).map fun (n : Nat) => (n : Int)) w e w') := fun w h => (ring_any _ l w h (by omega)).mono fun e w' h => h.ints
  have HG2 : Hid (∀ w, IsRow w 1 (.slice a0 l.length cap0) l.length (iCells l) → Calls Tryd.prog 17 #[.slice a0 l.length cap0] w fun e w' => RiPost ((rgL l).map fun (n : Nat) => (n : Int)) w e w') := fun w h => (refRing_any _ l w h (by omega)).mono fun e w' h => h.ints
  have HH2 : Hid (∀ w, IsRow w 1 (.slice a0 l.length cap0) l.length (iCells l) → Calls Tryd.prog 18 #[.int .u64 (key : Int), .slice a0 l.length cap0, .int .i64 xn] w fun e w' => RiPost (((hsL key (rgL l)).map fun (n : Nat) => (n : Int)).take xn.toNat) w e w') := fun w h => (heirs_any key _ l xn w h (by omega)).mono fun e w' h => by
    have := h.ints
    rw [List.map_take] at this
    exact this
  have HQ : Hid (∀ (k : Nat) w, IsRow w 1 (.slice a0 l.length cap0) l.length (iCells l) → Calls Tryd.prog 19 #[.int .u64 (k : Int), .slice a0 l.length cap0] w fun e w' => e = .returned (.int .i64 (ownL k l : Int)) ∧ Below w.heap.size w w') := fun k w h => refOwner_any k _ l w h (by omega)
  have HFo : Hid (∀ w, Calls Tryd.prog 21 #[.string xs] w fun e w' => e = .returned (.string (str (foldL xs.data.toList))) ∧ Below w.heap.size w w') := fun w => refFold_any xs w (by omega)
  have HHa : Hid (∀ w, Calls Tryd.prog 20 #[.string (str (foldL xs.data.toList))] w fun e w' => e = .returned (.int .u64 (keyL xs.data.toList : Int)) ∧ w' = w) := fun w => by
    have hz := fold_size xs
    have := refHashJ (str (foldL xs.data.toList)) w (by omega)
    rw [str_data] at this
    exact this
  have HP1 : Hid (∀ w, Calls Tryd.prog 22 #[.int .i64 xn] w fun e w' => e = .returned (.int .u64 (ptI xn : Int)) ∧ w' = w) := fun w => point_any xn w
  have HP2 : Hid (∀ w, Calls Tryd.prog 23 #[.int .i64 xn] w fun e w' => e = .returned (.int .u64 (ptI xn : Int)) ∧ Below w.heap.size w w') := fun w => refPoint_any xn w
  have HQ1 : Hid (∀ w, IsRow w 1 (.slice a0 l.length cap0) l.length (iCells l) → Calls Tryd.prog 19 #[.int .u64 (key : Int), .slice a0 l.length cap0] w fun e w' => e = .returned (.int .i64 (ownL key l : Int)) ∧ Below w.heap.size w w') := fun w h => HQ.out key w h
  have HQ2 : Hid (∀ w, IsRow w 1 (.slice a0 l.length cap0) l.length (iCells l) → Calls Tryd.prog 19 #[.int .u64 (keyL xs.data.toList : Int), .slice a0 l.length cap0] w fun e w' => e = .returned (.int .i64 (ownL (keyL xs.data.toList) l : Int)) ∧ Below w.heap.size w w') := fun w h => HQ.out _ w h
  have hGl : ((rgL l).map fun (n : Nat) => (n : Int)).length ≤ 15 := by rw [List.length_map]; exact rg_le l
  have hHl : ((hsL key (rgL l)).map fun (n : Nat) => (n : Int)).length ≤ 15 := by rw [List.length_map, hsL_len key _ (rgL_sorted l)]; exact rg_le l
  have hhas : hasL l = decide (0 < ((hsL key (rgL l)).map fun (n : Nat) => (n : Int)).length) := by
    rw [List.length_map, hsL_len key _ (rgL_sorted l)]
    unfold hasL
    cases rgL l with
    | nil => rfl
    | cons a b => simp
  generalize (rgL l).map (fun (n : Nat) => (n : Int)) = G at *
  generalize (hsL key (rgL l)).map (fun (n : Nat) => (n : Int)) = H at *
  generalize nodesB l = nb at *
  generalize (ownL (keyL xs.data.toList) l : Int) = o2 at *
  generalize (ownL key l : Int) = o1 at *
  generalize (keyL xs.data.toList : Int) = kk at *
  generalize str (foldL xs.data.toList) = fs at *
  generalize (ptI xn : Int) = pp at *
  have HQg : Hid (∀ (k o : Int), (k = (key : Int) ∧ o = o1) ∨ (k = kk ∧ o = o2) → ∀ w, IsRow w 1 (.slice a0 l.length cap0) l.length (iCells l) → Calls Tryd.prog 19 #[.int .u64 k, .slice a0 l.length cap0] w fun e w' => e = .returned (.int .i64 o) ∧ Below w.heap.size w w') := fun k o h w hr => by
    rcases h with ⟨rfl, rfl⟩ | ⟨rfl, rfl⟩
    · exact HQ1.out w hr
    · exact HQ2.out w hr
  clear HQ HQ1 HQ2
  have hTA := Utf8Tabs_below hT HBA.out
  go_enter Tryd.func3, Tryd.ntmps3
  go_wp2_with fail
  refine (HFw.out _ HR.out).mono ?_
  rintro e w1 ⟨rfl, hw⟩
  have k0 : w1.cell? ⟨w.heap.size, 0, none⟩ = some (.int .i64 xn) := by rw [hw]; simp
  have k1 : w1.cell? ⟨w.heap.size, 1, none⟩ = some (.string xs) := by rw [hw]; simp
  have hs1 : w.heap.size < w1.heap.size := by rw [hw]; simp
  have HR1 : Hid (IsRow w1 1 (.slice a0 l.length cap0) l.length (iCells l)) := by rw [hw]; exact HR
  have HB1 : Hid (Below w.heap.size w w1) := by rw [hw]; exact HBA
  have HT1 : Hid (UT w1) := by rw [hw]; exact hTA
  clear hw HR HBA hTA HFw
  go_wp2_with fail
  refine (HH.out _ HR1.out).mono ?_
  rintro e w2 ⟨v2, rfl, hrow2, hb2⟩
  obtain ⟨a2, cap2, rfl⟩ := hrow2.form
  have k0 := (hb2.cell (p := ⟨w.heap.size, 0, none⟩) hs1).trans k0
  have k1 := (hb2.cell (p := ⟨w.heap.size, 1, none⟩) hs1).trans k1
  have hs2 : w.heap.size < w2.heap.size := Nat.lt_of_lt_of_le hs1 hb2.size
  have HR2 : Hid (IsRow w2 1 (.slice a0 l.length cap0) l.length (iCells l)) := HR1.out.below hb2
  have HH2r : Hid (IsRow w2 1 (.slice a2 H.length cap2) H.length (iCells H)) := hrow2
  have HB2 : Hid (Below w.heap.size w w2) := HB1.out.trans (hb2.mono HB1.out.size)
  have HT2 : Hid (UT w2) := Utf8Tabs_below HT1.out hb2
  clear hb2 hrow2 HR1 HB1 HT1 HH
  go_wp2_with fail
  refine (HO.out _ HR2.out).mono ?_
  rintro e w3 ⟨rfl, hb3⟩
  have k0 := (hb3.cell (p := ⟨w.heap.size, 0, none⟩) hs2).trans k0
  have k1 := (hb3.cell (p := ⟨w.heap.size, 1, none⟩) hs2).trans k1
  have hs3 : w.heap.size < w3.heap.size := Nat.lt_of_lt_of_le hs2 hb3.size
  have HR3 : Hid (IsRow w3 1 (.slice a0 l.length cap0) l.length (iCells l)) := HR2.out.below hb3
  have HH3r : Hid (IsRow w3 1 (.slice a2 H.length cap2) H.length (iCells H)) := HH2r.out.below hb3
  have HB3 : Hid (Below w.heap.size w w3) := HB2.out.trans (hb3.mono HB2.out.size)
  have HT3 : Hid (UT w3) := Utf8Tabs_below HT2.out hb3
  clear hb3 HR2 HB2 HT2 HH2r HO
  go_wp2_with fail
  refine (HKp.out _ HT3.out HR3.out).mono ?_
  rintro e w4 ⟨rfl, hb4⟩
  have k0 := (hb4.cell (p := ⟨w.heap.size, 0, none⟩) hs3).trans k0
  have k1 := (hb4.cell (p := ⟨w.heap.size, 1, none⟩) hs3).trans k1
  have hs4 : w.heap.size < w4.heap.size := Nat.lt_of_lt_of_le hs3 hb4.size
  have HR4 : Hid (IsRow w4 1 (.slice a0 l.length cap0) l.length (iCells l)) := HR3.out.below hb4
  have HH4r : Hid (IsRow w4 1 (.slice a2 H.length cap2) H.length (iCells H)) := HH3r.out.below hb4
  have HB4 : Hid (Below w.heap.size w w4) := HB3.out.trans (hb4.mono HB3.out.size)
  clear hb4 HR3 HB3 HT3 HH3r HKp
  obtain ⟨M, hM⟩ : ∃ M : Nat, M = min xn.toNat H.length := ⟨_, rfl⟩
  have hMH : M ≤ H.length := by omega
  have dM : min (max xn 0) (H.length : Int) = (M : Int) := by omega
  have HTk : Hid (H.take xn.toNat = H.take M) := by
    show _ = _
    rw [hM, List.take_eq_take_iff]
    omega
  rw [HTk.out] at HH2
  clear hM HTk
  have HRz : Hid (∀ w', Below w4.heap.size w4 w' → IsRow w' 1 (.slice a0 l.length cap0) l.length (iCells l)) := fun w' h => HR4.out.below h
  have hS : SA w.heap.size xn xs w4 w4 := ⟨k0, k1, hs4, Below.refl _ _⟩
  by_cases hH0 : 0 < H.length
  · obtain ⟨b2, off2, hbo2, -, hlt2, hcap2, -⟩ := iCells_at HH4r.out hH0
    subst hbo2
    have HKz : Hid (∀ w', Below w4.heap.size w4 w' → IsRow w' 1 (.slice (some ⟨b2, off2, none⟩) M cap2) (H.take M).length (iCells (H.take M))) := fun w' h => row_take (HH4r.out.below h) M hMH hH0
    have q2 : (0 : Int) ≤ (M : Int) := by omega
    have q3 : (M : Int) ≤ (cap2 : Int) := by omega
    have hKl : (H.take M).length ≤ 1000000 := by rw [List.length_take]; omega
    have hGl' : G.length ≤ 1000000 := by omega
    have hhl : hasL l = true := by rw [hhas]; simpa using hH0
    rw [hhl]
    have dH0 : decide ((0 : Int) < (H.length : Int)) = true := by simp; omega
    generalize H.take M = K at *
    clear k0 k1 HR4 HH4r hhas
    go_wp2_with fail
    go_region_held3 (fun w' => SA w.heap.size xn xs w4 w') (first | assumption | exact SA_call (by assumption) (by assumption) | exact SA_drew (by assumption))
      (first
        | (go_at_call 13; refine (HN1.out _ (HRz.out _ (SA_b (b := w.heap.size) (n := xn) (s := xs) (by first | assumption | exact SA_drew (by assumption))))).mono ?_; rintro e w' ⟨rfl, rfl⟩)
        | (go_at_call 14; refine (HN2.out _ (HRz.out _ (SA_b (b := w.heap.size) (n := xn) (s := xs) (by first | assumption | exact SA_drew (by assumption))))).mono ?_; rintro e w' ⟨rfl, hb⟩)
        | (go_at_call 16; refine (HG1.out _ (HRz.out _ (SA_b (b := w.heap.size) (n := xn) (s := xs) (by first | assumption | exact SA_drew (by assumption))))).mono ?_; rintro e w' ⟨v5, rfl, hrow5, hb⟩)
        | (go_at_call 17; refine (HG2.out _ (HRz.out _ (SA_b (b := w.heap.size) (n := xn) (s := xs) (by first | assumption | exact SA_drew (by assumption))))).mono ?_; rintro e w' ⟨v6, rfl, hrow6, hb6⟩)
        | (go_at_call 15; refine (same_eq _ _ G _ (by first | assumption | exact IsRow.below (by assumption) (by assumption)) (by first | assumption | exact IsRow.below (by assumption) (by assumption)) hGl').mono ?_; rintro e w' ⟨rfl, hb7⟩)
        | (go_at_call 18; refine (HH2.out _ (HRz.out _ (SA_b (b := w.heap.size) (n := xn) (s := xs) (by first | assumption | exact SA_drew (by assumption))))).mono ?_; rintro e w' ⟨v8, rfl, hrow8, hb8⟩)
        | (go_at_call 15; refine (same_eq _ _ K _ (by first | assumption | exact IsRow.below (by assumption) (by assumption)) (HKz.out _ (SA_b (b := w.heap.size) (n := xn) (s := xs) (by first | assumption | exact SA_drew (by assumption)))) hKl).mono ?_; rintro e w' ⟨rfl, hb9⟩))
    rename_i hS2
    generalize hw5 : w' = w5 at *
    have hS3 : SA w.heap.size xn xs w4 w5 := hS2
    clear hS2 hS hw5
    go_wp2_with fail
    go_region_held3 (fun w' => SA w.heap.size xn xs w4 w') (first | assumption | exact SA_call (by assumption) (by assumption) | exact SA_drew (by assumption))
      (first
        | (go_at_call 9; refine (HA.out _).mono ?_; rintro e w' ⟨rfl, hb1⟩)
        | (go_at_call 19; refine (HQg.out _ _ (by first | exact .inl ⟨rfl, rfl⟩ | exact .inr ⟨rfl, rfl⟩) _ (HRz.out _ (SA_b (b := w.heap.size) (n := xn) (s := xs) (w0 := w4) (by first | assumption | exact SA_drew (by assumption))))).mono ?_; rintro e w' ⟨rfl, hb2⟩)
        | (go_at_call 21; refine (HFo.out _).mono ?_; rintro e w' ⟨rfl, hb3⟩)
        | (go_at_call 20; refine (HHa.out _).mono ?_; rintro e w' ⟨rfl, rfl⟩)
          | (go_at_call 22; refine (HP1.out _).mono ?_; rintro e w' ⟨rfl, rfl⟩)
        | (go_at_call 23; refine (HP2.out _).mono ?_; rintro e w' ⟨rfl, hb5⟩))
    rename_i hS4
    have HB9 := HB4.out.trans (hS4.2.2.2.mono HB4.out.size)
    clear hS4 hS3
    go_wp2
    go_ret
    exact ⟨rfl, HB9⟩
  · have hHn : H = [] := List.eq_nil_of_length_eq_zero (by omega)
    subst hHn
    have hM0 : M = 0 := by simpa using hMH
    subst hM0
    have hhl : hasL l = false := by rw [hhas]; rfl
    rw [hhl]
    have hGl' : G.length ≤ 1000000 := by omega
    obtain ⟨K, hK⟩ : ∃ K : List Int, K = [] := ⟨_, rfl⟩
    have hKl : K.length ≤ 1000000 := by rw [hK]; simp
    have HH2' : Hid (∀ w, IsRow w 1 (.slice a0 l.length cap0) l.length (iCells l) → Calls Tryd.prog 18 #[.int .u64 (key : Int), .slice a0 l.length cap0, .int .i64 xn] w fun e w' => RiPost K w e w') := by rw [hK]; exact HH2.out
    clear k0 k1 HR4 HH4r hhas HH2 hH0 hMH
    have HKz : Hid (∀ (a : Option Addr) (c : Nat) (w' : World), IsRow w' 1 (.slice a 0 c) K.length (iCells K)) := fun a c w' => by rw [hK]; exact ⟨rfl, .inl ⟨rfl, a, c, rfl⟩⟩
    have dM2 : min (max xn 0) (0 : Int) = 0 := by omega
    have q3 : (0 : Int) ≤ (cap2 : Int) := by omega
    clear dM hK
    simp only [List.length_nil]
    cases a2 with
    | none =>
      go_wp2_with fail
      go_region_held3 (fun w' => SA w.heap.size xn xs w4 w') (first | assumption | exact SA_call (by assumption) (by assumption) | exact SA_drew (by assumption))
        (first
          | (go_at_call 13; refine (HN1.out _ (HRz.out _ (SA_b (b := w.heap.size) (n := xn) (s := xs) (by first | assumption | exact SA_drew (by assumption))))).mono ?_; rintro e w' ⟨rfl, rfl⟩)
          | (go_at_call 14; refine (HN2.out _ (HRz.out _ (SA_b (b := w.heap.size) (n := xn) (s := xs) (by first | assumption | exact SA_drew (by assumption))))).mono ?_; rintro e w' ⟨rfl, hb⟩)
          | (go_at_call 16; refine (HG1.out _ (HRz.out _ (SA_b (b := w.heap.size) (n := xn) (s := xs) (by first | assumption | exact SA_drew (by assumption))))).mono ?_; rintro e w' ⟨v5, rfl, hrow5, hb⟩)
          | (go_at_call 17; refine (HG2.out _ (HRz.out _ (SA_b (b := w.heap.size) (n := xn) (s := xs) (by first | assumption | exact SA_drew (by assumption))))).mono ?_; rintro e w' ⟨v6, rfl, hrow6, hb6⟩)
          | (go_at_call 15; refine (same_eq _ _ G _ (by first | assumption | exact IsRow.below (by assumption) (by assumption)) (by first | assumption | exact IsRow.below (by assumption) (by assumption)) hGl').mono ?_; rintro e w' ⟨rfl, hb7⟩)
          | (go_at_call 18; refine (HH2'.out _ (HRz.out _ (SA_b (b := w.heap.size) (n := xn) (s := xs) (by first | assumption | exact SA_drew (by assumption))))).mono ?_; rintro e w' ⟨v8, rfl, hrow8, hb8⟩)
          | (go_at_call 15; refine (same_eq _ _ K _ (by first | assumption | exact IsRow.below (by assumption) (by assumption)) (HKz.out _ _ _) hKl).mono ?_; rintro e w' ⟨rfl, hb9⟩))
      rename_i hS2
      generalize hw5 : w' = w5 at *
      have hS3 : SA w.heap.size xn xs w4 w5 := hS2
      clear hS2 hS hw5
      go_wp2_with fail
      go_region_held3 (fun w' => SA w.heap.size xn xs w4 w') (first | assumption | exact SA_call (by assumption) (by assumption) | exact SA_drew (by assumption))
        (first
          | (go_at_call 9; refine (HA.out _).mono ?_; rintro e w' ⟨rfl, hb1⟩)
          | (go_at_call 19; refine (HQg.out _ _ (by first | exact .inl ⟨rfl, rfl⟩ | exact .inr ⟨rfl, rfl⟩) _ (HRz.out _ (SA_b (b := w.heap.size) (n := xn) (s := xs) (w0 := w4) (by first | assumption | exact SA_drew (by assumption))))).mono ?_; rintro e w' ⟨rfl, hb2⟩)
          | (go_at_call 21; refine (HFo.out _).mono ?_; rintro e w' ⟨rfl, hb3⟩)
          | (go_at_call 20; refine (HHa.out _).mono ?_; rintro e w' ⟨rfl, rfl⟩)
            | (go_at_call 22; refine (HP1.out _).mono ?_; rintro e w' ⟨rfl, rfl⟩)
          | (go_at_call 23; refine (HP2.out _).mono ?_; rintro e w' ⟨rfl, hb5⟩))
      rename_i hS4
      have HB9 := HB4.out.trans (hS4.2.2.2.mono HB4.out.size)
      clear hS4 hS3
      go_wp2
      go_ret
      exact ⟨rfl, HB9⟩
    | some ad =>
      go_wp2_with fail
      go_region_held3 (fun w' => SA w.heap.size xn xs w4 w') (first | assumption | exact SA_call (by assumption) (by assumption) | exact SA_drew (by assumption))
        (first
          | (go_at_call 13; refine (HN1.out _ (HRz.out _ (SA_b (b := w.heap.size) (n := xn) (s := xs) (by first | assumption | exact SA_drew (by assumption))))).mono ?_; rintro e w' ⟨rfl, rfl⟩)
          | (go_at_call 14; refine (HN2.out _ (HRz.out _ (SA_b (b := w.heap.size) (n := xn) (s := xs) (by first | assumption | exact SA_drew (by assumption))))).mono ?_; rintro e w' ⟨rfl, hb⟩)
          | (go_at_call 16; refine (HG1.out _ (HRz.out _ (SA_b (b := w.heap.size) (n := xn) (s := xs) (by first | assumption | exact SA_drew (by assumption))))).mono ?_; rintro e w' ⟨v5, rfl, hrow5, hb⟩)
          | (go_at_call 17; refine (HG2.out _ (HRz.out _ (SA_b (b := w.heap.size) (n := xn) (s := xs) (by first | assumption | exact SA_drew (by assumption))))).mono ?_; rintro e w' ⟨v6, rfl, hrow6, hb6⟩)
          | (go_at_call 15; refine (same_eq _ _ G _ (by first | assumption | exact IsRow.below (by assumption) (by assumption)) (by first | assumption | exact IsRow.below (by assumption) (by assumption)) hGl').mono ?_; rintro e w' ⟨rfl, hb7⟩)
          | (go_at_call 18; refine (HH2'.out _ (HRz.out _ (SA_b (b := w.heap.size) (n := xn) (s := xs) (by first | assumption | exact SA_drew (by assumption))))).mono ?_; rintro e w' ⟨v8, rfl, hrow8, hb8⟩)
          | (go_at_call 15; refine (same_eq _ _ K _ (by first | assumption | exact IsRow.below (by assumption) (by assumption)) (HKz.out _ _ _) hKl).mono ?_; rintro e w' ⟨rfl, hb9⟩))
      rename_i hS2
      generalize hw5 : w' = w5 at *
      have hS3 : SA w.heap.size xn xs w4 w5 := hS2
      clear hS2 hS hw5
      go_wp2_with fail
      go_region_held3 (fun w' => SA w.heap.size xn xs w4 w') (first | assumption | exact SA_call (by assumption) (by assumption) | exact SA_drew (by assumption))
        (first
          | (go_at_call 9; refine (HA.out _).mono ?_; rintro e w' ⟨rfl, hb1⟩)
          | (go_at_call 19; refine (HQg.out _ _ (by first | exact .inl ⟨rfl, rfl⟩ | exact .inr ⟨rfl, rfl⟩) _ (HRz.out _ (SA_b (b := w.heap.size) (n := xn) (s := xs) (w0 := w4) (by first | assumption | exact SA_drew (by assumption))))).mono ?_; rintro e w' ⟨rfl, hb2⟩)
          | (go_at_call 21; refine (HFo.out _).mono ?_; rintro e w' ⟨rfl, hb3⟩)
          | (go_at_call 20; refine (HHa.out _).mono ?_; rintro e w' ⟨rfl, rfl⟩)
            | (go_at_call 22; refine (HP1.out _).mono ?_; rintro e w' ⟨rfl, rfl⟩)
          | (go_at_call 23; refine (HP2.out _).mono ?_; rintro e w' ⟨rfl, hb5⟩))
      rename_i hS4
      have HB9 := HB4.out.trans (hS4.2.2.2.mono HB4.out.size)
      clear hS4 hS3
      go_wp2
      go_ret
      exact ⟨rfl, HB9⟩
end Go.Proofs.YtmnmjphgpblbhaaDoor
/- What the listed variables give to the ring's laws (nothing is asked of them); ints and keys that came in. -/
namespace Go.Proofs.YtmnmjphgpblbhaaDoor
open Go.ChangeShapes Go.WideShapes Go.ChangeAt Go.WideMaps Go.WideElems Go.RowKit Go.Deep

theorem own : ownKnob Tryd.prog.godebug = none := by kernel_rfl
theorem laidOut : laidOutB Tryd.prog = true := by kernel_rfl
def laidR : List (String × DataW Unit) := [("math/bits.deBruijn32tab", Rows.laid_math_bits_deBruijn32tab), ("math/bits.deBruijn64tab", Rows.laid_math_bits_deBruijn64tab), ("internal/strconv.uint64pow10", Rows.laid_internal_strconv_uint64pow10)]
theorem door_met (os : Os) (args : Array Value) : laidMetH Tryd.prog laidR ((World.doorLaid Tryd.prog 400 os).forCall (fun _ _ => 0) ⟨#[], args, []⟩).memory :=
  laidMetH_of_parts3 (fuel := 8) (laidMet_of_run' 8 (by kernel_rfl) (by kernel_rfl)) (by kernel_rfl) (by kernel_rfl)
theorem c_int : Tryd.prog.cellsOf 3 = 1 := by kernel_rfl
theorem b_int : Tryd.prog.bytesOf 3 = 8 := by kernel_rfl
theorem add_lit (b off j : Nat) : (⟨b, off, none⟩ : Addr).add j = ⟨b, off + j, none⟩ := by unfold Addr.add; split <;> simp_all
theorem row_of_cells {w : World} {a : Addr} {len cap : Nat} {xs : List Value} (hx : xs.length = len) (hl : len ≤ cap) (hm : cap ≤ maxLen) (hc : ∀ i, i < len → w.cell? (a.add i) = xs[i]?) : IsRow w 1 (.slice (some a) len cap) len xs := by
  refine ⟨by omega, ?_⟩
  by_cases h0 : len = 0
  · subst h0
    exact .inl ⟨rfl, _, _, rfl⟩
  · right
    obtain ⟨b, off, spot⟩ := a
    obtain ⟨u0, hu0⟩ : ∃ u, xs[0]? = some u := ⟨xs[0]'(by omega), by simp⟩
    have hspot : spot = none := by
      have := (hc 0 (by omega)).trans hu0
      simpa [Addr.add] using World.cell?_spot this
    subst hspot
    have hcell : ∀ i, i < len → w.cell? ⟨b, off + i, none⟩ = xs[i]? := fun i hi => by rw [← add_lit]; exact hc i hi
    refine ⟨b, off, cap, rfl, block_lt_of_cell ((hcell 0 (by omega)).trans hu0), hl, hm, ?_⟩
    intro j u hu
    have hj : j < len := by have := (List.getElem?_eq_some_iff.1 hu).1; omega
    rw [hcell j hj]; exact hu
theorem open_ints' {H : Type} {enc : TypeId × Value → H} {w : World} {fuel : Nat} {v : Value} {x : DataW H × List MemPlace} (h : DataW.trod enc Tryd.prog w 0 (fun _ => true) true fuel 23 [v] = some x)
    (hz : ∀ n ∈ x.1.weights Tryd.prog 23, n ≤ reachBytes) :
    ∃ l : List Int, IsRow w 1 v l.length (iCells l) ∧ l.length ≤ 140737488355328 ∧ True := by
  rcases open_slice1 Tryd.underlying23 c_int h with ⟨hv, _⟩ | ⟨a, len, cap, m, n, V, D, Pl, hv, hb, hl, hm, hmm, rfl, hx⟩
  · simp at hv
    subst hv
    exact ⟨[], ⟨rfl, .inl ⟨rfl, _, _, rfl⟩⟩, by simp, trivial⟩
  simp at hv
  subst hv
  simp at hmm
  subst hmm
  have key : ∀ i, i < len → ∃ y : Int, V i = .int .i64 y := by
    intro i hi
    obtain ⟨y, e, _, _⟩ := DataW.trod_int Tryd.underlying3 (hx i (by omega)).2
    exact ⟨y, by simpa using e⟩
  obtain ⟨X, hX⟩ := choose_lt key
  have hlen : len * 8 ≤ reachBytes := by
    have := hz ((len + (m - len)) * 8) (by simp only [DataW.weights, Tryd.underlying23, b_int]; simp)
    omega
  have r := row_of_cells (w := w) (a := a) (xs := ((List.range len).map X).map (Value.int .i64)) (len := len) (cap := m) (by simp) hl hm (fun i hi => by rw [(hx i (by omega)).1, hX i hi]; simp [hi])
  refine ⟨(List.range len).map X, ?_, ?_, trivial⟩
  · simpa [iCells] using r
  · simp; unfold reachBytes at hlen; omega
/-- A key that came in. -/
theorem key_nat {x : Int} (h : (Lit.int .u64 x).wf = true) : ∃ n : Nat, x = (n : Int) := by
  have : 0 ≤ x := by
    have h2 : 0 ≤ x ∧ x ≤ 18446744073709551615 := by simpa [Lit.wf, IntKind.min, IntKind.max, IntKind.signed, IntKind.bits] using h
    exact h2.1
  exact ⟨x.toNat, by omega⟩
theorem int_rng {x : Int} (h : (Lit.int .i64 x).wf = true) : -9223372036854775808 ≤ x ∧ x ≤ 9223372036854775807 := by
  simpa [Lit.wf, IntKind.min, IntKind.max, IntKind.signed, IntKind.bits] using h
end Go.Proofs.YtmnmjphgpblbhaaDoor
/- What the listed variables give to RingOwners; an ask opened and shut. -/
namespace Go.Proofs.YtmnmjphgpblbhaaDoor
open Go.ChangeShapes Go.WideShapes Go.ChangeAt Go.WideMaps Go.WideElems Go.RowKit Go.Joins

def laidO : List (String × DataW Unit) := [("math/bits.deBruijn32tab", Rows.laid_math_bits_deBruijn32tab), ("math/bits.deBruijn64tab", Rows.laid_math_bits_deBruijn64tab), ("internal/strconv.uint64pow10", Rows.laid_internal_strconv_uint64pow10), ("unicode/utf8.acceptRanges", Rows.laid_unicode_utf8_acceptRanges), ("unicode/utf8.first", Rows.laid_unicode_utf8_first)]
theorem accept_eq : (Rows.laid_unicode_utf8_acceptRanges : DataW Unit) = Lib.acceptData := by kernel_rfl
theorem first_eq : Rows.laid_unicode_utf8_first = Lib.firstData := Pinned.utf8First_eq
theorem tabs_of_laid {W : World} (h : laidMetH Tryd.prog laidO W) : UT W := by
  rw [MakeChecks.laidMetH_plain _ _ _ (by kernel_rfl)] at h
  exact utf8Tabs_of_readsT (U8Types.of196 Tryd.lays196) ⟨by kernel_rfl, by kernel_rfl, by kernel_rfl, by kernel_rfl, by kernel_rfl, by kernel_rfl, by kernel_rfl⟩ (first_eq ▸ Lib.laidMet.reads h (.tail _ (.tail _ (.tail _ (.tail _ (.head _)))))) (accept_eq ▸ Lib.laidMet.reads h (.tail _ (.tail _ (.tail _ (.head _)))))
theorem all_met (os : Os) (args : Array Value) : laidMetH Tryd.prog laidO ((World.laidAll Tryd.prog os laidO).forCall (fun _ _ => 0) ⟨#[], args, []⟩).memory := by
  rw [MakeChecks.laidMetH_plain _ _ _ (by kernel_rfl)]
  exact laidMet_laidAll _ (by kernel_rfl) (by kernel_rfl)
theorem cellsA : Tryd.prog.cellsOf 25 = 2 := by kernel_rfl
abbrev da {H : Type} (n : Int) (s : ByteArray) : DataW H := .agg [.lit (.int .i64 n), .lit (.string s.data.toList)]
set_option maxRecDepth 100000 in
theorem open_ask {H : Type} {enc : TypeId × Value → H} {W : World} {base b0 : Nat} {sp : Nat → Bool} {held : Bool} {v : Value} {d : DataW H} {p : List MemPlace} (hv : Value.okWide Tryd.prog W .any b0 25 v) (h : DataW.Trod enc Tryd.prog W base sp held 25 v d p) :
    ∃ (n : Int) (s : ByteArray), v = .agg #[.int .i64 n, .string s] ∧ d = da n s ∧ p = [] ∧ (Lit.int .i64 n).wf = true ∧ s.size ≤ maxLen := by
  obtain ⟨c0, c1, y0, y1, m, rfl, rfl, rfl, hy0, hy1⟩ := open_agg2 Tryd.underlying25 (by kernel_rfl) cellsA hv h
  obtain ⟨n, e0, rfl, wn⟩ := DataW.trod_int Tryd.underlying3 hy0
  obtain ⟨s, e1, rfl, ws⟩ := DataW.trod_string Tryd.underlying9 hy1
  simp at e0 e1
  subst e0 e1
  exact ⟨n, s, rfl, rfl, rfl, wn, ws⟩
set_option maxRecDepth 100000 in
theorem shut_ask {H : Type} {enc : TypeId × Value → H} {W : World} {base : Nat} {sp : Nat → Bool} {held : Bool} {n : Int} {s : ByteArray} (wn : (Lit.int .i64 n).wf = true) (ws : s.size ≤ maxLen) :
    DataW.Trod enc Tryd.prog W base sp held 25 (.agg #[.int .i64 n, .string s]) (da n s) [] :=
  shut_agg2 (y0 := (.lit (.int .i64 n), [])) (y1 := (.lit (.string s.data.toList), [])) Tryd.underlying25 (by kernel_rfl) cellsA ⟨1, by simp [DataW.trod, Tryd.underlying3, wn]⟩ ⟨1, by simp [DataW.trod, Tryd.underlying9, ws]⟩
end Go.Proofs.YtmnmjphgpblbhaaDoor
