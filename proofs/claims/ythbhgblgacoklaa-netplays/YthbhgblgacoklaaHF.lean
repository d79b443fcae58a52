/- The net's add where there is no room, Send: walks. -/
import Derived.Test.YthbhgblgacoklaaHE
namespace Go.Proofs.Ythbhgblgacoklaa
open Go.RowKit

set_option maxRecDepth 100000 in
set_option maxHeartbeats 1000000 in
theorem add_full {base : Nat} {w : World} {g : Nat} {V : Nat → Value} {R : Nat → List Pk} {A : Nat → Bool} (f t : Int) (p : Pk) (hv : NetV base w g V R A) (hc : cntN R 256 ≤ 1000) (hfull : 400 ≤ cntN R 256) :
    Calls Try.prog 37 #[nP g, hV f t, pV p] w fun e w' => NP base w g V R A (.int .i64 6) e w' := by
  have hB1 : Below w.heap.size w ((w.alloc (.cells #[.int .i64 f, .int .i64 t] 33)).alloc (.cells (pA p) 31)) := (al_b w _).trans ((al_b _ _).mono (by simp))
  have HF : Hid (NetV base ((w.alloc (.cells #[.int .i64 f, .int .i64 t] 33)).alloc (.cells (pA p) 31)) g V R A ∧ NStep w g V V ((w.alloc (.cells #[.int .i64 f, .int .i64 t] 33)).alloc (.cells (pA p) 31))) := ⟨hv.below hB1, NStep.of g V hB1⟩
  have dn : decide ((400 : Int) ≤ ((cntN R 256 : Nat) : Int)) = true := by simp; omega
  have HC : Hid (Calls Try.prog 23 #[nP g] ((w.alloc (.cells #[.int .i64 f, .int .i64 t] 33)).alloc (.cells (pA p) 31)) fun e w' => e = .returned (.int .i64 (cntN R 256)) ∧ w' = ((w.alloc (.cells #[.int .i64 f, .int .i64 t] 33)).alloc (.cells (pA p) 31))) := count_any HF.out.1 hc
  clear hv hB1 hfull hc
  generalize cntN R 256 = n at *
  obtain ⟨pf, pt, pfl, ptl, psq, pak, px⟩ := p
  dsimp only [pV, pA] at *
  go_enter Try.func37, Try.ntmps37
  go_wp2_with fail
  refine HC.out.mono ?_
  rintro e w1 ⟨rfl, rfl⟩
  go_wp2
  go_ret
  exact ⟨rfl, V, HF.out⟩
/-- What a net is, and what is answered, behind a packet that is sent. -/
def sendR (R : Nat → List Pk) (p : Pk) : Nat → List Pk := if chkP p = true ∧ cntN R 256 < 400 then up R (rix p.f p.t) (R (rix p.f p.t) ++ [p]) else R
def sendE (R : Nat → List Pk) (p : Pk) : Int := if chkP p = true then (if cntN R 256 < 400 then 0 else 6) else 1
theorem chk_hop {p : Pk} (h : chkP p = true) : hopB p.f p.t = true := by
  simp only [chkP, Bool.and_eq_true] at h
  simp only [hopB, Bool.and_eq_true]
  exact ⟨h.1, h.2.1, h.2.2.1⟩
theorem NP.before {base : Nat} {w w1 : World} {g : Nat} {V : Nat → Value} {R : Nat → List Pk} {A : Nat → Bool} {r : Value} {e : Ending} {w' : World} (hb : Below w.heap.size w w1) (h : NP base w1 g V R A r e w') : NP base w g V R A r e w' := by
  obtain ⟨he, V', h1, h2⟩ := h
  exact ⟨he, V', h1, (NStep.of g V hb).trans h2⟩
set_option maxRecDepth 100000 in
set_option maxHeartbeats 1000000 in
theorem send_any {base : Nat} {w : World} {g : Nat} {V : Nat → Value} {R : Nat → List Pk} {A : Nat → Bool} (p : Pk) (hx : p.x.size ≤ 140737488355328) (hv : NetV base w g V R A) (hc : cntN R 256 ≤ 1000) :
    Calls Try.prog 18 #[nP g, pV p] w fun e w' => NP base w g V (sendR R p) A (.int .i64 (sendE R p)) e w' := by
  have hB1 : Below w.heap.size w ((w.alloc (.cells (pA p) 31)).alloc (.cells (pA p) 31)) := (al_b w _).trans ((al_b _ _).mono (by simp))
  have HK : Hid (Calls Try.prog 36 #[pV p] (w.alloc (.cells (pA p) 31)) fun e w' => e = .returned (.bool (chkP p)) ∧ w' = (w.alloc (.cells (pA p) 31)).alloc (.cells (pA p) 31)) := checkP_any p _ hx
  have HB : Hid (Below w.heap.size w ((w.alloc (.cells (pA p) 31)).alloc (.cells (pA p) 31))) := hB1
  have HV : Hid (NetV base ((w.alloc (.cells (pA p) 31)).alloc (.cells (pA p) 31)) g V R A) := hv.below hB1
  cases hk : chkP p with
  | false =>
    have e0 : sendR R p = R := by unfold sendR; rw [hk]; simp
    have e1 : sendE R p = 1 := by unfold sendE; rw [hk]; simp
    rw [e0, e1]
    rw [hk] at HK
    clear e0 e1 hk hc hv hB1
    obtain ⟨pf, pt, pfl, ptl, psq, pak, px⟩ := p
    dsimp only [pV, pA] at *
    go_enter Try.func18, Try.ntmps18
    go_wp2_with fail
    refine HK.out.mono ?_
    rintro e w1 ⟨rfl, rfl⟩
    go_wp2
    go_ret
    exact ⟨rfl, V, HV.out, NStep.of g V HB.out⟩
  | true =>
    have HA : Hid (Calls Try.prog 37 #[nP g, hV p.f p.t, pV p] ((w.alloc (.cells (pA p) 31)).alloc (.cells (pA p) 31)) fun e w' => NP base w g V (sendR R p) A (.int .i64 (sendE R p)) e w') := by
      by_cases hf : cntN R 256 < 400
      · have e0 : sendR R p = up R (rix p.f p.t) (R (rix p.f p.t) ++ [p]) := by unfold sendR; rw [hk, if_pos ⟨rfl, hf⟩]
        have e1 : sendE R p = 0 := by unfold sendE; rw [hk]; simp [hf]
        rw [e0, e1]
        exact (add_any p.f p.t p HV.out hc (chk_hop hk) hf).mono fun e w' h => h.before HB.out
      · have e0 : sendR R p = R := by unfold sendR; rw [if_neg (fun h => hf h.2)]
        have e1 : sendE R p = 6 := by unfold sendE; rw [hk]; simp [hf]
        rw [e0, e1]
        exact (add_full p.f p.t p HV.out hc (by omega)).mono fun e w' h => h.before HB.out
    rw [hk] at HK
    clear hk hc hv hB1
    generalize sendR R p = R' at *
    generalize sendE R p = E' at *
    obtain ⟨pf, pt, pfl, ptl, psq, pak, px⟩ := p
    dsimp only [pV, pA] at *
    go_enter Try.func18, Try.ntmps18
    go_wp2_with fail
    refine HK.out.mono ?_
    rintro e w1 ⟨rfl, rfl⟩
    go_wp2_with fail
    refine HA.out.mono ?_
    rintro e w1 ⟨rfl, h⟩
    have HH : Hid (∃ V', NetV base w1 g V' R' A ∧ NStep w g V V' w1) := h
    clear h
    go_wp2
    go_ret
    exact ⟨rfl, HH.out⟩
end Go.Proofs.Ythbhgblgacoklaa
