/- The net's look: its walk. -/
import Derived.Test.YthbhgblgacoklaaHC
namespace Go.Proofs.Ythbhgblgacoklaa
open Go.RowKit

theorem drewN_b {B : Nat} {a w : World} (h : Below B a w) (n : Nat) : Below B a (w.drewN n) := ⟨h.os, h.tape, h.output, h.size, h.block⟩
theorem hop_nat {f t : Int} (h : hopB f t = true) : ∃ a b : Nat, f = a ∧ t = b ∧ 1 ≤ a ∧ a ≤ 15 ∧ 1 ≤ b ∧ b ≤ 15 ∧ a ≠ b := by
  simp [hopB, nodeB] at h
  obtain ⟨⟨h1, h2⟩, ⟨h3, h4⟩, h5⟩ := h
  exact ⟨f.toNat, t.toNat, by omega, by omega, by omega, by omega, by omega, by omega, by omega⟩
/-- The place of a hop's row. -/
def rix (f t : Int) : Nat := f.toNat * 16 + t.toNat
theorem rix_nat (a b : Nat) : rix (a : Int) (b : Int) = a * 16 + b := rfl
/-- What is wrong with a hop's i-th packet. -/
def lookI (R : Nat → List Pk) (f t i : Int) : Int := if hopB f t = true then (if i < 0 ∨ ((R (rix f t)).length : Int) ≤ i then 4 else 0) else 1
set_option maxRecDepth 100000 in
set_option maxHeartbeats 1000000 in
theorem look_any {base : Nat} {w : World} {g : Nat} {V : Nat → Value} {R : Nat → List Pk} {A : Nat → Bool} (f t i : Int) (hv : NetV base w g V R A) :
    Calls Try.prog 38 #[nP g, hV f t, .int .i64 i] w fun e w' => e = .returned (.int .i64 (lookI R f t i)) ∧ Below w.heap.size w w' := by
  have HV : Hid (NetV base w g V R A) := hv
  have HI : Hid (∀ f t w, Calls Try.prog 34 #[hV f t] w fun e w' => e = .returned (.bool (hopB f t)) ∧ w' = w.alloc (.cells #[.int .i64 f, .int .i64 t] 33)) := isHop_any
  clear hv
  have HA : Hid (Below w.heap.size w ((w.alloc (.cells #[.int .i64 f, .int .i64 t] 33)).alloc (.cells #[.int .i64 f, .int .i64 t] 33))) := (al_b w _).trans ((al_b _ _).mono (by simp))
  cases hh : hopB f t with
  | false =>
    have e0 : lookI R f t i = 1 := by unfold lookI; rw [hh]; rfl
    rw [e0]
    go_enter Try.func38, Try.ntmps38
    go_wp2_with fail
    refine (HI.out f t _).mono ?_
    rintro e w1 ⟨rfl, rfl⟩
    rw [hh]
    go_wp2
    go_ret
    exact ⟨rfl, HA.out⟩
  | true =>
    have e0 : lookI R f t i = if i < 0 ∨ ((R (rix f t)).length : Int) ≤ i then 4 else 0 := by unfold lookI; rw [hh]; rfl
    rw [e0]
    clear e0
    obtain ⟨a, b, rfl, rfl, h1, h2, h3, h4, h5⟩ := hop_nat hh
    rw [rix_nat]
    by_cases hi : i < 0
    · have di : decide (i < 0) = true := decide_eq_true hi
      rw [if_pos (.inl hi)]
      go_enter Try.func38, Try.ntmps38
      go_wp2_with fail
      refine (HI.out _ _ _).mono ?_
      rintro e w1 ⟨rfl, rfl⟩
      rw [hh]
      go_wp2_with fail
      go_quiet (fail)
      go_wp2
      go_ret
      exact ⟨rfl, drewN_b HA.out _⟩
    · have di : decide (i < 0) = false := decide_eq_false hi
      obtain ⟨c1, -, -, -, hg⟩ := HV.out.cell (a * 16 + b) (by omega)
      obtain ⟨a0, cap0, hf⟩ := (HV.out.own (a * 16 + b) (by omega)).form
      rw [hf] at c1
      have c2 := (((al_b w (.cells #[.int .i64 a, .int .i64 b] 33)).trans ((al_b _ (.cells #[.int .i64 a, .int .i64 b] 33)).mono (by simp))).cell (p := ⟨g, a * 16 + b, none⟩) hg).trans c1
      have q1 : (0 : Int) ≤ (a : Int) := by omega
      have q2 : (a : Int) < 16 := by omega
      have q3 : (0 : Int) ≤ (b : Int) := by omega
      have q4 : (b : Int) < 16 := by omega
      clear hf c1
      generalize (R (a * 16 + b)).length = n at *
      by_cases hn : (n : Int) ≤ i
      · have dn : decide ((n : Int) ≤ i) = true := decide_eq_true hn
        rw [if_pos (.inr hn)]
        go_enter Try.func38, Try.ntmps38
        go_wp2_with fail
        refine (HI.out _ _ _).mono ?_
        rintro e w1 ⟨rfl, rfl⟩
        rw [hh]
        go_wp2_with fail
        go_quiet (fail)
        go_wp2
        go_ret
        exact ⟨rfl, drewN_b HA.out _⟩
      · have dn : decide ((n : Int) ≤ i) = false := decide_eq_false hn
        rw [if_neg (by omega)]
        go_enter Try.func38, Try.ntmps38
        go_wp2_with fail
        refine (HI.out _ _ _).mono ?_
        rintro e w1 ⟨rfl, rfl⟩
        rw [hh]
        go_wp2_with fail
        go_quiet (fail)
        go_wp2
        go_ret
        exact ⟨rfl, drewN_b HA.out _⟩
end Go.Proofs.Ythbhgblgacoklaa
