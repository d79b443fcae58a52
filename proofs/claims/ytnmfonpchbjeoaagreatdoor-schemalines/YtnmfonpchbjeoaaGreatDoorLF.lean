/- SchemaLines: for every input the law returns true. -/
import Derived.Test.YtnmfonpchbjeoaaGreatDoorLE
import Derived.Test.YtnmfonpchbjeoaaGreatDoorLM2
import Derived.Test.YtnmfonpchbjeoaaGreatDoorEZ
import Derived.Test.YtnmfonpchbjeoaaGreatDoorEO
namespace Go.Proofs.YtnmfonpchbjeoaaGreatDoor
open Go.RowKit

theorem parseR_len (s : ByteArray) (hs : s.size ≤ 2000) : (parseR s).1.length ≤ 1000000 := by
  have h := pL_len s
  unfold parseR
  split
  · simp
  split
  · unfold parseL; rw [List.length_map]; omega
  · simp
theorem few_20 {l : List Fd} (h : fewF l = true) : ∀ x ∈ l, x.n.size ≤ 20000 := by
  have h' := of_decide_eq_true h
  intro x hx
  obtain ⟨k, hk, rfl⟩ := List.getElem_of_mem hx
  have := (h' k hk).2
  omega
set_option maxRecDepth 100000 in
set_option maxHeartbeats 4000000 in
theorem schemaLines_walk (v : Value) (l : List Fd) (s : ByteArray) (w : World) (hr : IsRow w 3 v l.length (fCells l)) (hl : l.length ≤ 140737488355328) (_ : s.size ≤ 140737488355328) (hW : W4 w) :
    Calls Tryz.prog 5 #[v, .string s] w fun e w' => e = .returned (.bool true) ∧ Below w.heap.size w w' := by
  have HFw : Hid (Calls Tryz.prog 6 #[v] w fun e w' => e = .returned (.bool (fewF l)) ∧ w' = w) := fewF_any v l w hr hl
  have HWk : Hid (∀ w', Below w.heap.size w w' → Calls Tryz.prog 7 #[] w' fun e w'' => e = .returned (.bool true) ∧ Below w'.heap.size w' w'') := fun w' h => awake4_any w' (hW.below h)
  obtain ⟨a0, cap0, rfl⟩ := hr.form
  cases hf : fewF l with
  | false =>
    rw [hf] at HFw
    go_enter Tryz.func5, Tryz.ntmps5
    go_wp2_with fail
    refine HFw.out.mono ?_
    rintro e w1 ⟨rfl, rfl⟩
    go_wp2_with fail
    refine (HWk.out _ (Below.refl _ _)).mono ?_
    rintro e w2 ⟨rfl, hb⟩
    have HB : Hid (Below _ _ w2) := hb
    clear hb
    go_wp2
    go_ret
    exact ⟨rfl, HB.out⟩
  | true =>
  rw [hf] at HFw
  by_cases hs : s.size ≤ 2000
  rotate_left
  · have ds : decide ((2000 : Int) < (s.size : Int)) = true := by simp; omega
    go_enter Tryz.func5, Tryz.ntmps5
    go_wp2_with fail
    refine HFw.out.mono ?_
    rintro e w1 ⟨rfl, rfl⟩
    go_wp2_with fail
    refine (HWk.out _ (Below.refl _ _)).mono ?_
    rintro e w2 ⟨rfl, hb⟩
    have HB : Hid (Below _ _ w2) := hb
    clear hb
    go_wp2
    go_ret
    exact ⟨rfl, HB.out⟩
  have ds : decide ((2000 : Int) < (s.size : Int)) = false := by simp; omega
  have f1 := (few_F hf).1
  have f20 := few_20 hf
  have hpl := parseR_len s hs
  have HPr : Hid (∀ w', Below w.heap.size w w' → Calls Tryz.prog 22 #[.string s] w' fun e w'' => PrPost s w' e w'') := fun w' h => parse_any s w' (by omega) (hW.below h).t (hW.below h).m (hW.below h).k
  have HRp : Hid (∀ w', Calls Tryz.prog 23 #[.string s] w' fun e w'' => PrPost s w' e w'') := fun w' => (refParse_any s w' hs).mono fun e w'' h => by
    unfold RpPost at h
    rw [rparse_eq] at h
    exact h
  have HSw : Hid (∀ w', Below w.heap.size w w' → Calls Tryz.prog 24 #[.slice a0 l.length cap0] w' fun e w'' => e = .returned (.string (str (showL l))) ∧ Below w'.heap.size w' w'') := fun w' h => showS_any _ l w' (hr.below h) (by omega) f20 (hW.below h)
  have HRf : Hid (∀ w', Below w.heap.size w w' → Calls Tryz.prog 10 #[.slice a0 l.length cap0] w' fun e w'' => RfPost l w' e w'') := fun w' h => refs_any _ l w' (hr.below h) (by omega)
  have HRs : Hid (∀ v w', IsRow w' 3 v l.length (fCells l) → Calls Tryz.prog 25 #[v] w' fun e w'' => e = .returned (.string (str (showL l))) ∧ Below w'.heap.size w' w'') := fun v w' h => refShow_any v l w' h (by omega) f20
  have HRm : Hid (∀ v w', IsRow w' 3 v (parseR s).1.length (fCells (parseR s).1) → Calls Tryz.prog 10 #[v] w' fun e w'' => RfPost (parseR s).1 w' e w'') := fun v w' h => refs_any v _ w' h hpl
  have HSm : Hid (∀ v u w', IsRow w' 3 v (parseR s).1.length (fCells (parseR s).1) → IsRow w' 3 u (parseR s).1.length (fCells (parseR s).1) → Calls Tryz.prog 13 #[v, u] w' fun e w'' => e = .returned (.bool true) ∧ Below w'.heap.size w' w'') := fun v u w' h1 h2 => by
    have := refSame_any v u (parseR s).1 (parseR s).1 w' h1 h2 hpl hpl
    rw [(sameR_iff _ _).2 rfl] at this
    exact this
  clear hr hW hf f20 hs hl hpl f1
  unfold PrPost at HPr HRp
  generalize (parseR s).2 = E at *
  generalize (parseR s).1 = M at *
  generalize str (showL l) = Z at *
  go_enter Tryz.func5, Tryz.ntmps5
  go_wp2_with fail
  refine HFw.out.mono ?_
  rintro e w1 ⟨rfl, rfl⟩
  rename World => w0
  go_wp2_with fail
  refine (HPr.out w0 (Below.refl _ _)).mono ?_
  rintro e w1 ⟨v1, rfl, hr1, hb1⟩
  obtain ⟨a1, cap1, rfl⟩ := hr1.form
  have B1 : Hid (Below w0.heap.size w0 w1) := hb1
  have HR1 : Hid (∀ w', Below w1.heap.size w1 w' → IsRow w' 3 (.slice a1 M.length cap1) M.length (fCells M)) := fun w' h => hr1.below h
  clear hb1 hr1 HFw HPr
  go_wp2_with fail
  refine (HRp.out w1).mono ?_
  rintro e w2 ⟨v2, rfl, hr2, hb2⟩
  obtain ⟨a2, cap2, rfl⟩ := hr2.form
  have B2 : Hid (Below w0.heap.size w0 w2) := B1.out.trans (hb2.mono B1.out.size)
  have HR2 : Hid (∀ w', Below w2.heap.size w2 w' → IsRow w' 3 (.slice a1 M.length cap1) M.length (fCells M) ∧ IsRow w' 3 (.slice a2 M.length cap2) M.length (fCells M)) := fun w' h => ⟨HR1.out w' (hb2.trans (h.mono hb2.size)), hr2.below h⟩
  clear hb2 hr2 HR1 HRp
  go_wp2_with fail
  refine (HWk.out w2 B2.out).mono ?_
  rintro e w3 ⟨rfl, hb3⟩
  have B3 : Hid (Below w0.heap.size w0 w3) := B2.out.trans (hb3.mono B2.out.size)
  have C3 : Hid (Below w2.heap.size w2 w3) := hb3
  clear hb3
  go_wp2_with fail
  refine (HSw.out w3 B3.out).mono ?_
  rintro e w4 ⟨rfl, hb4⟩
  have B4 : Hid (Below w0.heap.size w0 w4) := B3.out.trans (hb4.mono B3.out.size)
  have C4 : Hid (Below w2.heap.size w2 w4) := C3.out.trans (hb4.mono C3.out.size)
  clear hb4
  go_wp2_with fail
  refine (HRf.out w4 B4.out).mono ?_
  rintro e w5 ⟨v5, rfl, hr5, hb5⟩
  obtain ⟨a5, cap5, rfl⟩ := hr5.form
  have B5 : Hid (Below w0.heap.size w0 w5) := B4.out.trans (hb5.mono B4.out.size)
  have C5 : Hid (Below w2.heap.size w2 w5) := C4.out.trans (hb5.mono C4.out.size)
  have HS5 : Hid (Calls Tryz.prog 25 #[.slice a5 l.length cap5] w5 fun e w'' => e = .returned (.string Z) ∧ Below w5.heap.size w5 w'') := HRs.out _ w5 hr5
  clear hb5 hr5 HRs
  go_wp2_with fail
  refine HS5.out.mono ?_
  rintro e w6 ⟨rfl, hb6⟩
  have B6 : Hid (Below w0.heap.size w0 w6) := B5.out.trans (hb6.mono B5.out.size)
  have C6 : Hid (Below w2.heap.size w2 w6) := C5.out.trans (hb6.mono C5.out.size)
  clear hb6
  go_wp2_with fail
  refine (HRm.out _ w6 (HR2.out w6 C6.out).1).mono ?_
  rintro e w7 ⟨v7, rfl, hr7, hb7⟩
  obtain ⟨a7, cap7, rfl⟩ := hr7.form
  have B7 : Hid (Below w0.heap.size w0 w7) := B6.out.trans (hb7.mono B6.out.size)
  have C7 : Hid (Below w2.heap.size w2 w7) := C6.out.trans (hb7.mono C6.out.size)
  have HS7 : Hid (Calls Tryz.prog 13 #[.slice a7 M.length cap7, .slice a2 M.length cap2] w7 fun e w'' => e = .returned (.bool true) ∧ Below w7.heap.size w7 w'') := HSm.out _ _ w7 hr7 (HR2.out w7 C7.out).2
  clear hb7 hr7 HSm HRm
  go_wp2_with fail
  refine HS7.out.mono ?_
  rintro e w8 ⟨rfl, hb8⟩
  have B8 : Hid (Below w0.heap.size w0 w8) := B7.out.trans (hb8.mono B7.out.size)
  clear hb8
  go_wp2
  go_ret
  exact ⟨rfl, B8.out⟩
end Go.Proofs.YtnmfonpchbjeoaaGreatDoor
