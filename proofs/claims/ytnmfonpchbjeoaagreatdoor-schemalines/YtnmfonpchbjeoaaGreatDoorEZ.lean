/- SchemaFits: for every input the law returns true. -/
import Derived.Test.YtnmfonpchbjeoaaGreatDoorEY
namespace Go.Proofs.YtnmfonpchbjeoaaGreatDoor
open Go.RowKit

theorem few_F {l : List Fd} (h : fewF l = true) : l.length ≤ 41 ∧ NmF l ∧ NmR l := by
  have h' := of_decide_eq_true h
  have hx : ∀ x ∈ l, x.n.size ≤ 200 := fun x hx => by
    obtain ⟨k, hk, rfl⟩ := List.getElem_of_mem hx
    exact (h' k hk).2
  refine ⟨?_, fun x hx' => by have := hx x hx'; omega, fun x hx' => by have := hx x hx'; omega⟩
  rcases Nat.lt_or_ge 41 l.length with q | q
  · have := (h' 41 q).1; omega
  · exact q
theorem few_A {l : List At} (h : fewA l = true) : l.length ≤ 41 ∧ NmA l ∧ NmRA l := by
  have h' := of_decide_eq_true h
  have hx : ∀ x ∈ l, x.n.size ≤ 200 ∧ x.s.size ≤ 500 := fun x hx => by
    obtain ⟨k, hk, rfl⟩ := List.getElem_of_mem hx
    exact (h' k hk).2
  refine ⟨?_, fun x hx' => by have := hx x hx'; omega, fun x hx' => by have := hx x hx'; omega⟩
  rcases Nat.lt_or_ge 41 l.length with q | q
  · have := (h' 41 q).1; omega
  · exact q
set_option maxRecDepth 100000 in
set_option maxHeartbeats 4000000 in
theorem schemaFits_walk (v : Value) (l : List Fd) (u : Value) (a : List At) (s : ByteArray) (w : World) (hr : IsRow w 3 v l.length (fCells l)) (hl : l.length ≤ 140737488355328) (hq : IsRow w 4 u a.length (aCells a)) (hal : a.length ≤ 140737488355328) (_ : s.size ≤ 140737488355328) (hW : W4 w) :
    Calls Tryz.prog 4 #[v, u, .string s] w fun e w' => e = .returned (.bool true) ∧ Below w.heap.size w w' := by
  have HFw : Hid (Calls Tryz.prog 6 #[v] w fun e w' => e = .returned (.bool (fewF l)) ∧ w' = w) := fewF_any v l w hr hl
  have HAw : Hid (Calls Tryz.prog 14 #[u] w fun e w' => e = .returned (.bool (fewA a)) ∧ w' = w) := fewA_any u a w hq hal
  have HWk : Hid (∀ w', Below w.heap.size w w' → Calls Tryz.prog 7 #[] w' fun e w'' => e = .returned (.bool true) ∧ Below w'.heap.size w' w'') := fun w' h => awake4_any w' (hW.below h)
  obtain ⟨a0, cap0, rfl⟩ := hr.form
  obtain ⟨a1, cap1, rfl⟩ := hq.form
  cases hf : fewF l with
  | false =>
    rw [hf] at HFw
    go_enter Tryz.func4, Tryz.ntmps4
    go_wp2_with fail
    refine HFw.out.mono ?_
    rintro e w1 ⟨rfl, rfl⟩
    go_wp2_with fail
    refine (HWk.out _ (Below.refl _ _)).mono ?_
    rintro e w2 ⟨rfl, hb⟩
    have HB : Hid (Below _ _ w2) := hb
    clear hb
    go_wp2
    go_ret
    exact ⟨rfl, HB.out⟩
  | true =>
  rw [hf] at HFw
  cases ha : fewA a with
  | false =>
    rw [ha] at HAw
    go_enter Tryz.func4, Tryz.ntmps4
    go_wp2_with fail
    refine HFw.out.mono ?_
    rintro e w1 ⟨rfl, rfl⟩
    go_wp2_with fail
    refine HAw.out.mono ?_
    rintro e w1 ⟨rfl, rfl⟩
    go_wp2_with fail
    refine (HWk.out _ (Below.refl _ _)).mono ?_
    rintro e w2 ⟨rfl, hb⟩
    have HB : Hid (Below _ _ w2) := hb
    clear hb
    go_wp2
    go_ret
    exact ⟨rfl, HB.out⟩
  | true =>
  rw [ha] at HAw
  by_cases hs : s.size ≤ 200
  rotate_left
  · have ds : decide ((200 : Int) < (s.size : Int)) = true := by simp; omega
    go_enter Tryz.func4, Tryz.ntmps4
    go_wp2_with fail
    refine HFw.out.mono ?_
    rintro e w1 ⟨rfl, rfl⟩
    go_wp2_with fail
    refine HAw.out.mono ?_
    rintro e w1 ⟨rfl, rfl⟩
    go_wp2_with fail
    refine (HWk.out _ (Below.refl _ _)).mono ?_
    rintro e w2 ⟨rfl, hb⟩
    have HB : Hid (Below _ _ w2) := hb
    clear hb
    go_wp2
    go_ret
    exact ⟨rfl, HB.out⟩
  have ds : decide ((200 : Int) < (s.size : Int)) = false := by simp; omega
  obtain ⟨f1, f2, f3⟩ := few_F hf
  obtain ⟨f4, f5, f6⟩ := few_A ha
  have HGt : Hid (Calls Tryz.prog 15 #[.slice a1 a.length cap1, .string s] w fun e w'' => e = .returned (.tuple #[vOf (getA a s), .bool (getA a s).isSome]) ∧ Below w.heap.size w w'') := get_any _ a s w hq (by omega) f5 (by omega) hW.t
  have HAr : Hid (∀ w', Below w.heap.size w w' → Calls Tryz.prog 17 #[.slice a1 a.length cap1] w' fun e w'' => RaPost a w' e w'') := fun w' h => attrsR_any _ a w' (hq.below h) (by omega)
  have HRf : Hid (∀ w', Below w.heap.size w w' → Calls Tryz.prog 10 #[.slice a0 l.length cap0] w' fun e w'' => RfPost l w' e w'') := fun w' h => refs_any _ l w' (hr.below h) (by omega)
  have HRg : Hid (∀ v w', IsRow w' 4 v a.length (aCells a) → Calls Tryz.prog 16 #[v, .string s] w' fun e w'' => ∃ r, e = .returned (.int .i64 r) ∧ GiR a s r ∧ Below w'.heap.size w' w'') := fun v w' h => refGetA_any v a s w' h (by omega) f6 (by omega)
  have HFt : Hid (∀ w', Below w.heap.size w w' → Calls Tryz.prog 18 #[.slice a0 l.length cap0, .slice a1 a.length cap1] w' fun e w'' => e = .returned (.int .i64 (fitsL l a)) ∧ Below w'.heap.size w' w'') := fun w' h => fits_any _ _ l a w' (hr.below h) (hq.below h) (by omega) (by omega) f2 f5 (hW.below h).t (hW.below h).m
  have HRt : Hid (∀ v u w', IsRow w' 3 v l.length (fCells l) → IsRow w' 4 u a.length (aCells a) → Calls Tryz.prog 19 #[v, u] w' fun e w'' => e = .returned (.int .i64 (fitsL l a)) ∧ Below w'.heap.size w' w'') := fun v u w' h1 h2 => refFits_any v u l a w' h1 h2 (by omega) (by omega) f3 f6
  have HAt : Hid (∀ w', Below w.heap.size w w' → Calls Tryz.prog 20 #[.slice a1 a.length cap1] w' fun e w'' => e = .returned (.bool (chkA a)) ∧ Below w'.heap.size w' w'') := fun w' h => attrs_any _ a w' (hq.below h) (by omega) f5 (hW.below h).t (hW.below h).m
  have HRa : Hid (∀ u w', IsRow w' 4 u a.length (aCells a) → Calls Tryz.prog 21 #[u] w' fun e w'' => e = .returned (.bool (chkA a)) ∧ Below w'.heap.size w' w'') := fun u w' h => refAttrsA_any u a w' h (by omega) f6
  have HQ : Hid (∀ w', Below w.heap.size w w' → IsRow w' 4 (.slice a1 a.length cap1) a.length (aCells a)) := fun w' h => hq.below h
  clear hr hq hW hf ha f2 f3 f5 f6 hs hl hal
  obtain ⟨p, q, z, hvo⟩ : ∃ p q z, vOf (getA a s) = vv p q z := by
    cases getA a s with
    | none => exact ⟨_, _, _, rfl⟩
    | some x => exact ⟨_, _, _, rfl⟩
  have HVO : Hid (vOf (getA a s) = vv p q z) := hvo
  rw [hvo] at HGt
  clear hvo
  go_enter Tryz.func4, Tryz.ntmps4
  go_wp2_with fail
  refine HFw.out.mono ?_
  rintro e w1 ⟨rfl, rfl⟩
  go_wp2_with fail
  refine HAw.out.mono ?_
  rintro e w1 ⟨rfl, rfl⟩
  rename World => w0
  go_wp2_with fail
  refine HGt.out.mono ?_
  rintro e w1 ⟨rfl, hb⟩
  have B1 : Hid (Below w0.heap.size w0 (w1.alloc (.cells #[.int .i64 p, .int .i64 q, .string z] 37))) := hb.trans ((al_b w1 _).mono hb.size)
  have HZ : Hid (∀ w', Below (w1.alloc (.cells #[.int .i64 p, .int .i64 q, .string z] 37)).heap.size (w1.alloc (.cells #[.int .i64 p, .int .i64 q, .string z] 37)) w' → (w'.cell? ⟨w1.heap.size, 0, none⟩ = some (.int .i64 p) ∧ w'.cell? ⟨w1.heap.size, 1, none⟩ = some (.int .i64 q) ∧ w'.cell? ⟨w1.heap.size, 2, none⟩ = some (.string z)) ∧ Below w0.heap.size w0 w') := fun w' h => by
    have e := (h.block w1.heap.size (by simp)).trans (new_at w1 _)
    exact ⟨⟨by rw [Lib.cell_of_heap e]; rfl, by rw [Lib.cell_of_heap e]; rfl, by rw [Lib.cell_of_heap e]; rfl⟩, B1.out.trans (h.mono B1.out.size)⟩
  clear hb HGt HFw HAw
  go_wp2_with fail
  refine (HAr.out _ B1.out).mono ?_
  rintro e w2 ⟨v2, rfl, hr2, hb2⟩
  obtain ⟨a2, cap2, rfl⟩ := hr2.form
  have HG2 : Hid (Calls Tryz.prog 16 #[.slice a2 a.length cap2, .string s] w2 fun e w'' => ∃ r, e = .returned (.int .i64 r) ∧ GiR a s r ∧ Below w2.heap.size w2 w'') := HRg.out _ w2 hr2
  have B2 : Hid (Below (w1.alloc (.cells #[.int .i64 p, .int .i64 q, .string z] 37)).heap.size (w1.alloc (.cells #[.int .i64 p, .int .i64 q, .string z] 37)) w2) := hb2
  clear hr2 hb2
  go_wp2_with fail
  refine HG2.out.mono ?_
  rintro e w3 ⟨r, rfl, hgi, hb3⟩
  have B3' := B2.out.trans (hb3.mono B2.out.size)
  obtain ⟨⟨y0, y1, y2⟩, B3''⟩ := HZ.out w3 B3'
  have B3 : Hid (Below w0.heap.size w0 w3) := B3''
  clear hb3 B2 B1 HZ B3' B3'' HG2 HRg
  rcases hgi with ⟨j, hj, rfl, hg⟩ | ⟨rfl, hg⟩
  · have dj : decide ((0 : Int) ≤ (j : Int)) = true := by simp
    obtain ⟨b, off, rfl, hlt, hcap, hc⟩ := a_at (HQ.out w3 B3.out) (by omega)
    obtain ⟨-, c1, c2, c3⟩ := hc j hj
    have hv := HVO.out
    rw [hg] at hv
    have his : (getA a s).isSome = true := by rw [hg]; rfl
    simp only [vOf, Value.agg.injEq] at hv
    have hv2 : a[j].k = p ∧ a[j].v = q ∧ a[j].s = z := by simpa using hv
    rw [hv2.1] at c1
    rw [hv2.2.1] at c2
    rw [hv2.2.2] at c3
    have q1 : (0 : Int) ≤ (j : Int) := by omega
    have q2 : (j : Int) < (a.length : Int) := by omega
    rw [his]
    clear hv hv2 hg HVO hc his HQ
    go_wp2_with fail
    go_quiet (fail)
    have B4 : Hid (Below w0.heap.size w0 (w3.drewN nq)) := drewN_bE B3.out nq
    clear y0 y1 y2 B3 c1 c2 c3
    generalize w3.drewN nq = w4 at *
    go_wp2_with fail
    refine (HWk.out w4 B4.out).mono ?_
    rintro e w5 ⟨rfl, hb⟩
    have B5 : Hid (Below w0.heap.size w0 w5) := B4.out.trans (hb.mono B4.out.size)
    clear hb
    go_wp2_with fail
    refine (HFt.out w5 B5.out).mono ?_
    rintro e w6 ⟨rfl, hb⟩
    have B6 : Hid (Below w0.heap.size w0 w6) := B5.out.trans (hb.mono B5.out.size)
    clear hb
    go_wp2_with fail
    refine (HRf.out w6 B6.out).mono ?_
    rintro e w7 ⟨v7, rfl, hr7, hb7⟩
    obtain ⟨a7, cap7, rfl⟩ := hr7.form
    have B7 : Hid (Below w0.heap.size w0 w7) := B6.out.trans (hb7.mono B6.out.size)
    have HR7 : Hid (∀ w', Below w7.heap.size w7 w' → IsRow w' 3 (.slice a7 l.length cap7) l.length (fCells l)) := fun w' h => hr7.below h
    clear hb7 hr7
    go_wp2_with fail
    refine (HAr.out w7 B7.out).mono ?_
    rintro e w8 ⟨v8, rfl, hr8, hb8⟩
    obtain ⟨a8, cap8, rfl⟩ := hr8.form
    have B8 : Hid (Below w0.heap.size w0 w8) := B7.out.trans (hb8.mono B7.out.size)
    have HRt8 : Hid (Calls Tryz.prog 19 #[.slice a7 l.length cap7, .slice a8 a.length cap8] w8 fun e w'' => e = .returned (.int .i64 (fitsL l a)) ∧ Below w8.heap.size w8 w'') := HRt.out _ _ w8 (HR7.out w8 hb8) hr8
    clear hb8 hr8 HR7
    go_wp2_with fail
    refine HRt8.out.mono ?_
    rintro e w9 ⟨rfl, hb⟩
    have B9 : Hid (Below w0.heap.size w0 w9) := B8.out.trans (hb.mono B8.out.size)
    clear hb
    go_wp2_with fail
    refine (HAt.out w9 B9.out).mono ?_
    rintro e w10 ⟨rfl, hb⟩
    have B10 : Hid (Below w0.heap.size w0 w10) := B9.out.trans (hb.mono B9.out.size)
    clear hb
    go_wp2_with fail
    refine (HAr.out w10 B10.out).mono ?_
    rintro e w11 ⟨v11, rfl, hr11, hb11⟩
    obtain ⟨a11, cap11, rfl⟩ := hr11.form
    have B11 : Hid (Below w0.heap.size w0 w11) := B10.out.trans (hb11.mono B10.out.size)
    have HRa11 : Hid (Calls Tryz.prog 21 #[.slice a11 a.length cap11] w11 fun e w'' => e = .returned (.bool (chkA a)) ∧ Below w11.heap.size w11 w'') := HRa.out _ w11 hr11
    clear hb11 hr11
    go_wp2_with fail
    refine HRa11.out.mono ?_
    rintro e w12 ⟨rfl, hb⟩
    have B12 : Hid (Below w0.heap.size w0 w12) := B11.out.trans (hb.mono B11.out.size)
    clear hb
    go_wp2
    go_ret
    exact ⟨rfl, B12.out⟩
  · have hv := HVO.out
    rw [hg] at hv
    have his : (getA a s).isSome = false := by rw [hg]; rfl
    simp only [vOf, Value.agg.injEq] at hv
    have hv2 : 0 = p ∧ 0 = q ∧ (⟨#[]⟩ : ByteArray) = z := by simpa using hv
    rw [← hv2.1] at y0
    rw [← hv2.2.1] at y1
    rw [← hv2.2.2] at y2
    rw [his]
    clear hv hv2 hg HVO his HQ
    go_wp2_with fail
    go_quiet (fail)
    have B4 : Hid (Below w0.heap.size w0 (w3.drewN nq)) := drewN_bE B3.out nq
    clear y0 y1 y2 B3
    generalize w3.drewN nq = w4 at *
    go_wp2_with fail
    refine (HWk.out w4 B4.out).mono ?_
    rintro e w5 ⟨rfl, hb⟩
    have B5 : Hid (Below w0.heap.size w0 w5) := B4.out.trans (hb.mono B4.out.size)
    clear hb
    go_wp2_with fail
    refine (HFt.out w5 B5.out).mono ?_
    rintro e w6 ⟨rfl, hb⟩
    have B6 : Hid (Below w0.heap.size w0 w6) := B5.out.trans (hb.mono B5.out.size)
    clear hb
    go_wp2_with fail
    refine (HRf.out w6 B6.out).mono ?_
    rintro e w7 ⟨v7, rfl, hr7, hb7⟩
    obtain ⟨a7, cap7, rfl⟩ := hr7.form
    have B7 : Hid (Below w0.heap.size w0 w7) := B6.out.trans (hb7.mono B6.out.size)
    have HR7 : Hid (∀ w', Below w7.heap.size w7 w' → IsRow w' 3 (.slice a7 l.length cap7) l.length (fCells l)) := fun w' h => hr7.below h
    clear hb7 hr7
    go_wp2_with fail
    refine (HAr.out w7 B7.out).mono ?_
    rintro e w8 ⟨v8, rfl, hr8, hb8⟩
    obtain ⟨a8, cap8, rfl⟩ := hr8.form
    have B8 : Hid (Below w0.heap.size w0 w8) := B7.out.trans (hb8.mono B7.out.size)
    have HRt8 : Hid (Calls Tryz.prog 19 #[.slice a7 l.length cap7, .slice a8 a.length cap8] w8 fun e w'' => e = .returned (.int .i64 (fitsL l a)) ∧ Below w8.heap.size w8 w'') := HRt.out _ _ w8 (HR7.out w8 hb8) hr8
    clear hb8 hr8 HR7
    go_wp2_with fail
    refine HRt8.out.mono ?_
    rintro e w9 ⟨rfl, hb⟩
    have B9 : Hid (Below w0.heap.size w0 w9) := B8.out.trans (hb.mono B8.out.size)
    clear hb
    go_wp2_with fail
    refine (HAt.out w9 B9.out).mono ?_
    rintro e w10 ⟨rfl, hb⟩
    have B10 : Hid (Below w0.heap.size w0 w10) := B9.out.trans (hb.mono B9.out.size)
    clear hb
    go_wp2_with fail
    refine (HAr.out w10 B10.out).mono ?_
    rintro e w11 ⟨v11, rfl, hr11, hb11⟩
    obtain ⟨a11, cap11, rfl⟩ := hr11.form
    have B11 : Hid (Below w0.heap.size w0 w11) := B10.out.trans (hb11.mono B10.out.size)
    have HRa11 : Hid (Calls Tryz.prog 21 #[.slice a11 a.length cap11] w11 fun e w'' => e = .returned (.bool (chkA a)) ∧ Below w11.heap.size w11 w'') := HRa.out _ w11 hr11
    clear hb11 hr11
    go_wp2_with fail
    refine HRa11.out.mono ?_
    rintro e w12 ⟨rfl, hb⟩
    have B12 : Hid (Below w0.heap.size w0 w12) := B11.out.trans (hb.mono B11.out.size)
    clear hb
    go_wp2
    go_ret
    exact ⟨rfl, B12.out⟩
end Go.Proofs.YtnmfonpchbjeoaaGreatDoor
