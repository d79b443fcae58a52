/- The pair's out: its walk. -/
import Derived.Test.YtiejehaaglpkoaaLnU
namespace Go.Proofs.Ytiejehaaglpkoaa
open Go.RowKit Go.ChangeMaps

theorem below_dr (w : World) : Below w.heap.size w w.drew := ⟨rfl, rfl, rfl, Nat.le_refl _, fun _ _ => rfl⟩
set_option maxRecDepth 100000 in
set_option maxHeartbeats 4000000 in
theorem out_any {w0 w : World} {P : Nat} {a : Ad} {s : Pr} {ext : List (Tg w0.heap.size)} {R : Nat → List Pk} {r : Value} {O : List Pk} (h : PSn w0 P a s (pkT _ r O :: ext) R w) (hc : cntN R 256 ≤ 400) (hx : ∀ p ∈ O, p.x.size ≤ 140737488355328) (hO : O.length ≤ 1000) :
    Calls Try.prog 29 #[.pointer (some ⟨P, 0, none⟩), r] w fun e w' => e = .returned (.tuple #[]) ∧ PSn w0 P a s (pkT _ r O :: ext) (outR R O) w' := by
  have HT : Hid (PSn w0 P a s (pkT _ r O :: ext) (outR R (O.take 0)) w) := h
  obtain ⟨ra, rcap, hrf⟩ := (show OwnW w _ r O from h.ext (t := pkT _ r O) (by simp)).form
  clear h
  subst hrf
  have HX : Hid (∀ p ∈ O, p.x.size ≤ 140737488355328) := hx
  have HC : Hid (∀ n, cntN (outR R (O.take n)) 256 ≤ 400) := fun n => cnt_out hc _
  have HE : Hid (outR R (O.take O.length) = outR R O) := by show _ = _; rw [List.take_length]
  clear hc hx
  go_enter Try.func29, Try.ntmps29
  go_wp2_with fail
  go_loopw [4] (fun i wr => ∃ k : Nat, k ≤ O.length ∧ i = .int .i64 (k : Int) ∧ Hid (PSn w0 P a s (pkT _ (.slice ra O.length rcap) O :: ext) (outR R (O.take k)) wr)) (fun i _ => O.length - (intOf i).toNat)
  case atStart => exact ⟨0, Nat.zero_le _, rfl, HT⟩
  case round =>
    obtain ⟨k, hk, rfl, HR⟩ := hrel
    clear HT
    by_cases hlk : k < O.length
    · have dk : decide (k < O.length) = true := by simp; omega
      have wk : IntKind.i64.wrap ((k : Int) + 1) = (k : Int) + 1 := wrapI (by omega) (by omega)
      have hrow : OwnW wr _ (.slice ra O.length rcap) O := HR.out.ext (t := pkT _ (.slice ra O.length rcap) O) (by simp)
      obtain ⟨rb, rfl⟩ := row_ptr hrow (by omega)
      obtain ⟨z0, z1, z2, z3, z4, z5, z6⟩ := hrow.atj k hlk
      obtain ⟨-, p2, -, -, -⟩ := HR.out.cells
      have HStep := out_succ R O hlk
      have hxk := HX.out (O[k]'hlk) (List.getElem_mem hlk)
      have HS1 : Hid (Calls Try.prog 50 #[nP a.gn, pV (O[k]'hlk)] wr.drew fun e w' => e = .returned (.int .i64 (sendE (outR R (O.take k)) (O[k]'hlk))) ∧ PSn w0 P a s (pkT _ (.slice (some ⟨rb, 0, none⟩) O.length rcap) O :: ext) (outR R (O.take (k + 1))) w') := by
        rw [HStep]
        exact PSn.send (HR.out.below (below_dr wr)) _ hxk (HC.out k)
      clear HStep hxk HR hrow
      generalize sendE (outR R (O.take k)) (O[k]'hlk) = ee at *
      generalize (O[k]'hlk) = pk at *
      obtain ⟨pf, pt, pfl, ptl, psq, pak, px⟩ := pk
      dsimp only [pV] at *
      have i1 : (0 : Int) ≤ (k : Int) := by omega
      have i2 : (k : Int) < (O.length : Int) := by omega
      go_wp2_with fail
      go_region_with (go_at_call 50; refine HS1.out.mono ?_; rintro e w4 ⟨rfl, hT4⟩; have HR4 : Hid (PSn w0 P a s (pkT _ (.slice (some ⟨rb, 0, none⟩) O.length rcap) O :: ext) (outR R (O.take (k + 1))) w4) := hT4; clear hT4)
      all_goals
        go_wp2
        go_roundw
        case rel => exact ⟨k + 1, by omega, by simp, HR4⟩
        case measure => simp [intOf]; omega
    · have hk' : k = O.length := by omega
      subst hk'
      rw [HE.out] at HR
      go_wp2
      refine bodyPost_end (results_none rfl _ _ _) rfl ⟨rfl, HR.out⟩
end Go.Proofs.Ytiejehaaglpkoaa
