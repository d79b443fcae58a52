/- The pair's do, behind what a pair keeps. -/
import Derived.Test.YtiejehaaglpkoaaLoB
namespace Go.Proofs.Ytiejehaaglpkoaa
open Go.RowKit Go.ChangeMaps

theorem hop_i {i : Nat} (hi : i < 2) : hopB (2 - (i : Int)) (1 + (i : Int)) = true := by
  match i, hi with
  | 0, _ => decide
  | 1, _ => decide
theorem cnt_one {R : Nat → List Pk} {c : Nat} (hc : c < 256) : (R c).length ≤ cntN R 256 := by
  have h1 := cntN_mono R (a := c + 1) (b := 256) (by omega)
  have h2 : cntN R (c + 1) = cntN R c + (R c).length := rfl
  omega
theorem zP_look (L : Lk) : lookE L zP ≠ 0 := by
  unfold lookE
  rw [if_neg (fun h => by have := h.1; revert this; decide)]
  decide
theorem PI.do {w0 w : World} {P : Nat} {a : Ad} {s : Pr} {ext : List (Tg w0.heap.size)} {R : Nat → List Pk} {k : Nat} (h : PSn w0 P a s ext R w) (hI : PI s R k) (hk : k ≤ 500) (kd ad n : Int) (t : ByteArray) :
    Calls Try.prog 27 #[.pointer (some ⟨P, 0, none⟩), dV kd ad n t] w fun e w' => e = .returned (.bool true) ∧ ∃ a' s' R', PSn w0 P a' s' ext R' w' ∧ PI s' R' (k + 1) := by
  have hlen : ∀ i : Nat, i < 2 → (R (rix (2 - (i : Int)) (1 + (i : Int)))).length ≤ 400 := fun i hi => Nat.le_trans (cnt_one (rix_lt (hop_i hi))) hI.net.2
  refine (do_any kd ad n t h hlen hI.net.2 (fun i hi u hu => Nat.le_trans ((hI.en i hi).qz u hu) (by omega)) (fun i hi => by have := hI.S i hi; omega) (fun i hi => by have := hI.G i hi; omega) (fun i hi => by have := hI.G i hi; omega) ?_ (fun i hi k => (hI.net.take _ _ _).2) (fun i hi => (hI.en i hi).ok) (fun i hi => by unfold lenI; rw [if_pos (hop_i hi)])).mono fun e w' hp => ?_
  · intro i hi k x hx
    subst hx
    obtain ⟨t1, t2, t3⟩ := (hI.en i hi).take hi (takeP R noA (2 - (i : Int)) (1 + (i : Int)) k)
    refine ⟨?_, fun p hp => Nat.le_trans (t3 p hp).2.2.2.2 (by omega), ?_, by have := hI.G i hi; omega⟩
    · by_cases he : takeE R noA (2 - (i : Int)) (1 + (i : Int)) k = 0
      · exact Nat.le_trans (hI.net.taken he).1.2.2.2.2 (by omega)
      · unfold takeP; rw [if_neg he]; decide
    · unfold tkO
      split
      · split
        · rw [pks_len]; unfold goK; omega
        · split
          · simp
          · rw [pks_len]; unfold goK; omega
      · simp
  · obtain ⟨d1, d2⟩ := hI.doF kd ad n t
    obtain ⟨he, a', hp⟩ := hp
    rw [d1] at he
    exact ⟨he, a', _, _, hp, d2⟩
theorem pi_0 (f : Int) (h1 : 1 ≤ f) (h2 : f ≤ 1099511627775) : PI (pr0 f) noR 0 := by
  have ho : ∀ x : Ed, x.fi = f → LkOk (newL x) := fun x hx => ⟨by show 1 ≤ x.fi; omega, by show x.fi + ((0 : Nat) : Int) ≤ _; omega, Nat.zero_le _, Nat.zero_le _, Nat.zero_le _, by show 1 ≤ x.fi; omega, by show x.fi ≤ _; omega⟩
  refine ⟨goodR_no, fun i hi => ?_, fun i hi => Nat.le_refl _, fun i hi => ?_⟩
  · match i, hi with
    | 0, _ => exact ⟨⟨rfl, rfl, rfl, rfl⟩, ho (edA f) rfl, fun u hu => by cases hu⟩
    | 1, _ => exact ⟨⟨rfl, rfl, rfl, rfl⟩, ho (edB f) rfl, fun u hu => by cases hu⟩
  · match i, hi with
    | 0, _ => exact Nat.le_refl _
    | 1, _ => exact Nat.le_refl _
end Go.Proofs.Ytiejehaaglpkoaa
