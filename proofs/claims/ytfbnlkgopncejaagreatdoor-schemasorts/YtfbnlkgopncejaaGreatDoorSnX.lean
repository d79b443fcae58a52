/- SchemaSorts: its walk. -/
import Derived.Test.YtfbnlkgopncejaaGreatDoorSnW
import Derived.Test.YtfbnlkgopncejaaGreatDoorEM
import Derived.Test.YtfbnlkgopncejaaGreatDoorEN
import Derived.Test.YtfbnlkgopncejaaGreatDoorEO
namespace Go.Proofs.YtfbnlkgopncejaaGreatDoor
open Go.RowKit

/-- What is answered, of any fields. -/
def SrtM (l M : List Fd) (E : Int) : Prop := (24 < l.length ∧ M = [] ∧ E = 2) ∨ (l.length ≤ 24 ∧ (∃ x ∈ l, mayF x = false) ∧ M = [] ∧ E = 1) ∨ (l.length ≤ 24 ∧ (∀ x ∈ l, mayF x = true) ∧ ((rsrt [] l = none ∧ M = [] ∧ E = 9) ∨ (rsrt [] l = some M ∧ E = 0)))
theorem srtM_uniq {l M M' : List Fd} {E E' : Int} (h : SrtM l M E) (h' : SrtM l M' E') : M' = M ∧ E' = E := by
  rcases h with ⟨a1, rfl, rfl⟩ | ⟨a1, ⟨x, hx, a2⟩, rfl, rfl⟩ | ⟨a1, a2, a3⟩ <;> rcases h' with ⟨b1, rfl, rfl⟩ | ⟨b1, ⟨y, hy, b2⟩, rfl, rfl⟩ | ⟨b1, b2, b3⟩
  · exact ⟨rfl, rfl⟩
  · omega
  · omega
  · omega
  · exact ⟨rfl, rfl⟩
  · rw [b2 x hx] at a2; cases a2
  · omega
  · rw [a2 y hy] at b2; cases b2
  · rcases a3 with ⟨r1, rfl, rfl⟩ | ⟨r1, rfl⟩ <;> rcases b3 with ⟨r2, rfl, rfl⟩ | ⟨r2, rfl⟩
    · exact ⟨rfl, rfl⟩
    · rw [r1] at r2; cases r2
    · rw [r1] at r2; cases r2
    · rw [r1] at r2; exact ⟨(Option.some.inj r2).symm, rfl⟩
def SrA (_l M : List Fd) (E : Int) (w : World) (e : Ending) (w' : World) : Prop := ∃ a c, e = .returned (.tuple #[.slice a M.length c, .int .i64 E]) ∧ IsRow w' 3 (.slice a M.length c) M.length (fCells M) ∧ Below w.heap.size w w'
theorem srtP_A {l : List Fd} {w w' : World} {e : Ending} (h : SrtP l w e w') : ∃ M E, SrtM l M E ∧ SrA l M E w e w' := by
  rcases h.2 with ⟨h1, rfl⟩ | ⟨h1, h2, rfl⟩ | ⟨h1, h2, D, hp, hs, h3⟩
  · exact ⟨[], 2, .inl ⟨h1, rfl, rfl⟩, none, 0, rfl, IsRow.nil _ _, h.1⟩
  · exact ⟨[], 1, .inr (.inl ⟨h1, h2, rfl, rfl⟩), none, 0, rfl, IsRow.nil _ _, h.1⟩
  · have hr := srt_same h1 h2 hp hs
    rcases h3 with ⟨hc, a, c, rfl, hrow⟩ | ⟨hc, rfl⟩
    · rw [if_pos hc] at hr
      exact ⟨D, 0, .inr (.inr ⟨h1, h2, .inr ⟨hr, rfl⟩⟩), a, c, rfl, hrow, h.1⟩
    · rw [if_neg (by rw [hc]; decide)] at hr
      exact ⟨[], 9, .inr (.inr ⟨h1, h2, .inl ⟨hr, rfl, rfl⟩⟩), none, 0, rfl, IsRow.nil _ _, h.1⟩
theorem rsP_A {l : List Fd} {w w' : World} {e : Ending} (h : RsP l w e w') : ∃ M E, SrtM l M E ∧ SrA l M E w e w' := by
  rcases h.2 with ⟨h1, rfl⟩ | ⟨h1, h2, rfl⟩ | ⟨h1, h2, ⟨h3, rfl⟩ | ⟨R, a, c, h3, rfl, hrow⟩⟩
  · exact ⟨[], 2, .inl ⟨h1, rfl, rfl⟩, none, 0, rfl, IsRow.nil _ _, h.1⟩
  · exact ⟨[], 1, .inr (.inl ⟨h1, h2, rfl, rfl⟩), none, 0, rfl, IsRow.nil _ _, h.1⟩
  · exact ⟨[], 9, .inr (.inr ⟨h1, h2, .inl ⟨h3, rfl, rfl⟩⟩), none, 0, rfl, IsRow.nil _ _, h.1⟩
  · exact ⟨R, 0, .inr (.inr ⟨h1, h2, .inr ⟨h3, rfl⟩⟩), a, c, rfl, hrow, h.1⟩
theorem srtM_len {l M : List Fd} {E : Int} (h : SrtM l M E) : M.length ≤ 24 := by
  rcases h with ⟨a1, rfl, rfl⟩ | ⟨a1, a2, rfl, rfl⟩ | ⟨a1, a2, ⟨r1, rfl, rfl⟩ | ⟨r1, rfl⟩⟩
  · simp
  · simp
  · simp
  · obtain ⟨p, -⟩ := rsrt_some l [] M List.Pairwise.nil r1
    rw [p.length_eq]
    exact a1
def RfX (l : List Fd) (w : World) (e : Ending) (w' : World) : Prop := ∃ a c, e = .returned (.slice a l.length c) ∧ IsRow w' 3 (.slice a l.length c) l.length (fCells l) ∧ Below w.heap.size w w'
theorem refsX (v : Value) (l : List Fd) (w : World) (hr : IsRow w 3 v l.length (fCells l)) (hl : l.length ≤ 1000000) : Calls Tryz.prog 8 #[v] w fun e w' => RfX l w e w' := by
  refine (refs_any v l w hr hl).mono ?_
  rintro e W' ⟨v', rfl, hrow, hbl⟩
  obtain ⟨a, c, rfl⟩ := hrow.form
  exact ⟨a, c, rfl, hrow, hbl⟩
theorem sameX (v u : Value) (l : List Fd) (w : World) (hr : IsRow w 3 v l.length (fCells l)) (hq : IsRow w 3 u l.length (fCells l)) (hl : l.length ≤ 1000000) : Calls Tryz.prog 11 #[v, u] w fun e w' => e = .returned (.bool true) ∧ Below w.heap.size w w' := by
  refine (refSame_any v u l l w hr hq hl hl).mono ?_
  rintro e W' ⟨rfl, hbl⟩
  exact ⟨by rw [(sameR_iff l l).2 rfl], hbl⟩
theorem few_namesX {l : List Fd} (h : fewF l = true) : (∀ x ∈ l, x.n.size ≤ 200) ∧ l.length ≤ 41 := by
  have h := of_decide_eq_true h
  refine ⟨fun x hx => ?_, ?_⟩
  · obtain ⟨i, hi, rfl⟩ := List.mem_iff_getElem.1 hx
    exact (h i hi).2
  · by_cases h0 : l.length ≤ 41
    · exact h0
    · have := (h 41 (by omega)).1
      omega
set_option maxRecDepth 100000 in
set_option maxHeartbeats 4000000 in
theorem schemaSorts_walk (v : Value) (l : List Fd) (w : World) (hr : IsRow w 3 v l.length (fCells l)) (hl : l.length ≤ 140737488355328) (h : W4 w) :
    Calls Tryz.prog 3 #[v] w fun e w' => e = .returned (.bool true) ∧ Below w.heap.size w w' := by
  have HAw : Hid (∀ W, Below w.heap.size w W → Calls Tryz.prog 5 #[] W fun e W' => e = .returned (.bool true) ∧ Below W.heap.size W W') := fun W hW => awake4_any W (h.below hW)
  have HF := fewF_any v l w hr hl
  cases hf : fewF l
  · rw [hf] at HF
    obtain ⟨av, cv, rfl⟩ := hr.form
    clear hr h hf
    go_enter Tryz.func3, Tryz.ntmps3
    go_wp2_with fail
    refine HF.mono ?_
    rintro e w0 ⟨rfl, he0⟩
    obtain rfl := he0.symm
    clear HF
    go_wp2_with (refine (HAw.out w (Below.refl _ _)).mono ?_; rintro e w1 ⟨rfl, hb1⟩)
    go_ret
    exact ⟨rfl, hb1⟩
  · rw [hf] at HF
    obtain ⟨hn, h41⟩ := few_namesX hf
    have HSo : Hid (Calls Tryz.prog 6 #[v] w fun e w' => ∃ M E, SrtM l M E ∧ SrA l M E w e w') := (sortS_any v l w hr (by omega) (fun x hx => by have := hn x hx; omega) h).mono fun e w' hp => srtP_A hp
    have HRs : Hid (∀ u W, IsRow W 3 u l.length (fCells l) → Calls Tryz.prog 7 #[u] W fun e w' => ∃ M E, SrtM l M E ∧ SrA l M E W e w') := fun u W hu => (refSort_any u l W hu (by omega) (fun x hx => by have := hn x hx; omega)).mono fun e w' hp => rsP_A hp
    have HRf : Hid (∀ W, Below w.heap.size w W → Calls Tryz.prog 8 #[v] W fun e w' => RfX l W e w') := fun W hW => refsX v l W (hr.below hW) (by omega)
    have HCk : Hid (∀ W, Below w.heap.size w W → Calls Tryz.prog 9 #[v] W fun e w' => e = .returned (.bool (chkF l)) ∧ Below W.heap.size W w') := fun W hW => checkF_any v l W (hr.below hW) (by omega) (fun x hx => by have := hn x hx; omega) (h.below hW).t (h.below hW).m
    have HRc : Hid (∀ u W, IsRow W 3 u l.length (fCells l) → Calls Tryz.prog 10 #[u] W fun e w' => e = .returned (.bool (chkF l)) ∧ Below W.heap.size W w') := fun u W hu => refCheckF_any u l W hu (by omega) (fun x hx => by have := hn x hx; omega)
    obtain ⟨av, cv, rfl⟩ := hr.form
    clear hr h hf hn hl
    generalize chkF l = C at *
    have eC : (C == C) = true := by simp
    go_enter Tryz.func3, Tryz.ntmps3
    go_wp2_with fail
    refine HF.mono ?_
    rintro e w0 ⟨rfl, he0⟩
    obtain rfl := he0.symm
    clear HF
    go_wp2_with fail
    refine HSo.out.mono ?_
    rintro e w1 ⟨M, E, hSM, a1, c1, rfl, hr1, hb1⟩
    have HB1 : Hid (Below w.heap.size w w1) := hb1
    have HR1 : Hid (∀ W, Below w1.heap.size w1 W → IsRow W 3 (.slice a1 M.length c1) M.length (fCells M)) := fun W hW => hr1.below hW
    have HSM : Hid (SrtM l M E) := hSM
    have hM24 := srtM_len hSM
    clear hb1 hr1 HSo hSM
    go_wp2_with fail
    refine (HRf.out w1 HB1.out).mono ?_
    rintro e w2 ⟨a2, c2, rfl, hr2, hb2⟩
    have HB2 : Hid (Below w.heap.size w w2) := HB1.out.trans (hb2.mono HB1.out.size)
    have HX2 : Hid (Below w1.heap.size w1 w2) := hb2
    have HRs2 := HRs.out _ w2 hr2
    clear hb2 hr2 HRs
    go_wp2_with fail
    refine HRs2.mono ?_
    rintro e w3 ⟨M', E', hSM', a3, c3, rfl, hr3, hb3⟩
    obtain ⟨rfl, rfl⟩ := srtM_uniq HSM.out hSM'
    have HB3 : Hid (Below w.heap.size w w3) := HB2.out.trans (hb3.mono HB2.out.size)
    have HX3 : Hid (Below w1.heap.size w1 w3) := HX2.out.trans (hb3.mono HX2.out.size)
    have HR3 : Hid (∀ W, Below w3.heap.size w3 W → IsRow W 3 (.slice a3 M'.length c3) M'.length (fCells M')) := fun W hW => hr3.below hW
    have HSm : Hid (∀ W u y, IsRow W 3 u M'.length (fCells M') → IsRow W 3 y M'.length (fCells M') → Calls Tryz.prog 11 #[u, y] W fun e w' => e = .returned (.bool true) ∧ Below W.heap.size W w') := fun W u y hu hy => sameX u y M' W hu hy (by omega)
    have HRm : Hid (∀ W u, IsRow W 3 u M'.length (fCells M') → Calls Tryz.prog 8 #[u] W fun e w' => RfX M' W e w') := fun W u hu => refsX u M' W hu (by omega)
    have eE : (E' == E') = true := by simp
    clear hb3 hr3 HRs2 hSM' HSM
    go_wp2_with fail
    refine (HAw.out w3 HB3.out).mono ?_
    rintro e w4 ⟨rfl, hb4⟩
    have HB4 : Hid (Below w.heap.size w w4) := HB3.out.trans (hb4.mono HB3.out.size)
    have HX4 : Hid (Below w1.heap.size w1 w4) := HX3.out.trans (hb4.mono HX3.out.size)
    have HY4 : Hid (Below w3.heap.size w3 w4) := hb4
    clear hb4 HAw
    go_wp2_with fail
    refine (HCk.out w4 HB4.out).mono ?_
    rintro e w5 ⟨rfl, hb5⟩
    have HB5 : Hid (Below w.heap.size w w5) := HB4.out.trans (hb5.mono HB4.out.size)
    have HX5 : Hid (Below w1.heap.size w1 w5) := HX4.out.trans (hb5.mono HX4.out.size)
    have HY5 : Hid (Below w3.heap.size w3 w5) := HY4.out.trans (hb5.mono HY4.out.size)
    clear hb5 HCk
    go_wp2_with fail
    refine (HRf.out w5 HB5.out).mono ?_
    rintro e w6 ⟨a6, c6, rfl, hr6, hb6⟩
    have HB6 : Hid (Below w.heap.size w w6) := HB5.out.trans (hb6.mono HB5.out.size)
    have HX6 : Hid (Below w1.heap.size w1 w6) := HX5.out.trans (hb6.mono HX5.out.size)
    have HY6 : Hid (Below w3.heap.size w3 w6) := HY5.out.trans (hb6.mono HY5.out.size)
    have HRc6 := HRc.out _ w6 hr6
    clear hb6 hr6 HRf HRc
    go_wp2_with fail
    refine HRc6.mono ?_
    rintro e w7 ⟨rfl, hb7⟩
    have HB7 : Hid (Below w.heap.size w w7) := HB6.out.trans (hb7.mono HB6.out.size)
    have HX7 : Hid (Below w1.heap.size w1 w7) := HX6.out.trans (hb7.mono HX6.out.size)
    have HY7 : Hid (Below w3.heap.size w3 w7) := HY6.out.trans (hb7.mono HY6.out.size)
    clear hb7 HRc6
    go_wp2_with fail
    refine (HRm.out w7 _ (HR1.out w7 HX7.out)).mono ?_
    rintro e w8 ⟨a8, c8, rfl, hr8, hb8⟩
    have HB8 : Hid (Below w.heap.size w w8) := HB7.out.trans (hb8.mono HB7.out.size)
    have HY8 : Hid (Below w3.heap.size w3 w8) := HY7.out.trans (hb8.mono HY7.out.size)
    have HS8 := HSm.out w8 _ _ hr8 (HR3.out w8 HY8.out)
    clear hb8 hr8 HRm HSm HR1 HR3
    go_wp2_with fail
    refine HS8.mono ?_
    rintro e w9 ⟨rfl, hb9⟩
    have HB9 : Hid (Below w.heap.size w w9) := HB8.out.trans (hb9.mono HB8.out.size)
    clear hb9 HS8
    go_wp2
    go_ret
    exact ⟨rfl, HB9.out⟩
end Go.Proofs.YtfbnlkgopncejaaGreatDoor
