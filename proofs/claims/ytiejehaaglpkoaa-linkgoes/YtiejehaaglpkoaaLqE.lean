/- LinkGoes: the calls of its rounds. -/
import Derived.Test.YtiejehaaglpkoaaLqD
namespace Go.Proofs.Ytiejehaaglpkoaa
open Go.RowKit Go.ChangeMaps

/-- A pair alone, behind k deeds, with all that it keeps. -/
def PG (w : World) (P : Nat) (k : Nat) (wr : World) : Prop := ∃ a s R, PSn w P a s [] R wr ∧ PI s R k ∧ OI 1 s R ∧ VI s R
theorem PG.to {w wr : World} {P k : Nat} (h : PG w P k wr) : Below w.heap.size w wr := by
  obtain ⟨a, s, R, h1, -⟩ := h
  exact PSn.to h1
theorem PG.below {w wr w' : World} {P k : Nat} (h : PG w P k wr) (hb : Below wr.heap.size wr w') : PG w P k w' := by
  obtain ⟨a, s, R, h1, h2⟩ := h
  exact ⟨a, s, R, PSn.below h1 hb, h2⟩
theorem PG.cells {w wr : World} {P k : Nat} (h : PG w P k wr) : ∃ g0 g1, wr.cell? ⟨P, 0, none⟩ = some (lP g0) ∧ wr.cell? ⟨P, 1, none⟩ = some (lP g1) := by
  obtain ⟨a, s, R, h1, -⟩ := h
  obtain ⟨-, -, pc, -⟩ := PSn.cells h1
  exact ⟨_, _, (pc 0 (by omega)).1, (pc 1 (by omega)).1⟩
theorem tkO_fit {s : Pr} {R : Nat → List Pk} {k : Nat} (hI : PI s R k) (hk : k ≤ 500) {i : Nat} (hi : i < 2) (j : Int) : ∀ x, takeP R noA (2 - (i : Int)) (1 + (i : Int)) j = x → x.x.size ≤ 140737488355328 ∧ (∀ p ∈ tkO (s.L i) x, p.x.size ≤ 140737488355328) ∧ (tkO (s.L i) x).length ≤ 1000 ∧ (tkT (s.L i) x).length ≤ 1000 := by
  intro x hx
  subst hx
  obtain ⟨t1, t2, t3⟩ := (hI.en i hi).take hi (takeP R noA (2 - (i : Int)) (1 + (i : Int)) j)
  refine ⟨?_, fun p hp => Nat.le_trans (t3 p hp).2.2.2.2 (by omega), ?_, by have := hI.G i hi; omega⟩
  · by_cases he : takeE R noA (2 - (i : Int)) (1 + (i : Int)) j = 0
    · exact Nat.le_trans (hI.net.taken he).1.2.2.2.2 (by omega)
    · unfold takeP; rw [if_neg he]; decide
  · have := tkO_len (s.L i) (takeP R noA (2 - (i : Int)) (1 + (i : Int)) j)
    omega
theorem PG.do {w wr : World} {P k : Nat} (h : PG w P k wr) (hk : k ≤ 500) (kd ad n : Int) (t : ByteArray) : Calls Try.prog 27 #[.pointer (some ⟨P, 0, none⟩), dV kd ad n t] wr fun e w' => e = .returned (.bool true) ∧ PG w P (k + 1) w' := by
  obtain ⟨a, s, R, h1, hI, hO, hV⟩ := h
  refine (do_any kd ad n t h1 (fun i hi => Nat.le_trans (cnt_one (rix_lt (hop_i hi))) hI.net.2) hI.net.2 (fun i hi u hu => Nat.le_trans ((hI.en i hi).qz u hu) (by omega)) (fun i hi => by have := hI.S i hi; omega) (fun i hi => by have := hI.G i hi; omega) (fun i hi => by have := hI.G i hi; omega) (fun i hi j => tkO_fit hI hk hi j) (fun i hi k => (hI.net.take _ _ _).2) (fun i hi => (hI.en i hi).ok) (fun i hi => by unfold lenI; rw [if_pos (hop_i hi)])).mono fun e w' hp => ?_
  obtain ⟨d1, d2⟩ := hI.doF kd ad n t
  obtain ⟨he, a', hp⟩ := hp
  rw [d1] at he
  exact ⟨he, a', _, _, hp, d2, hO.doF hI kd ad n t, hV.doF hO hI kd ad n t⟩
/-- A packet comes to an end, or none is there. -/
theorem come_c {w0 w : World} {P : Nat} {a : Ad} {s : Pr} {ext : List (Tg w0.heap.size)} {R : Nat → List Pk} (h : PSn w0 P a s ext R w) (g : GI s R) {m : Nat} (hm : m < 2) :
    Calls Try.prog 31 #[.pointer (some ⟨P, 0, none⟩), .int .i64 (m : Int), .int .i64 0] w fun e w' => e = .returned (.bool true) ∧ ∃ a', PSn w0 P a' (cmF m s R).1 ext (cmF m s R).2 w' := by
  refine (come_any h hm 0 (g.pi.en m hm).ok (by have := g.pi.G m hm; omega) g.pi.net.2 (by have := g.pi.G m hm; omega) (tkO_fit g.pi (by omega) hm 0) (g.pi.net.take _ _ _).2).mono fun e w' hc => ?_
  cases hR : R (hp m) with
  | nil =>
    have hl : takeE R noA (2 - (m : Int)) (1 + (m : Int)) 0 ≠ 0 := fun he => by
      have := mem_takeP he
      rw [hR] at this
      simp at this
    unfold CmP at hc
    rw [if_neg hl] at hc
    unfold cmF
    rw [come_nil hm _ hR]
    exact ⟨hc.1, a, hc.2⟩
  | cons p l =>
    have hl : lookI R (2 - (m : Int)) (1 + (m : Int)) 0 = 0 := by
      unfold lookI
      rw [if_pos (hop_i hm), if_neg (by rw [hR, List.length_cons]; omega)]
    have he : takeE R noA (2 - (m : Int)) (1 + (m : Int)) 0 = 0 := by
      unfold takeE
      rw [if_pos hl, if_neg (by simp [noA])]
    have hp' : takeP R noA (2 - (m : Int)) (1 + (m : Int)) 0 = p := by
      unfold takeP
      rw [if_pos he, hR]; rfl
    have hr : takeR R noA (2 - (m : Int)) (1 + (m : Int)) 0 = up R (hp m) l := by
      unfold takeR
      rw [if_pos he, hR]; rfl
    obtain ⟨gp, gr⟩ := g.pi.net.1 (hp m) p (by rw [hR]; exact List.mem_cons_self)
    have hlk := good_look hm (g.pi.en m hm).x gp gr
    unfold CmP at hc
    rw [if_pos he, hp', hr, hlk] at hc
    unfold cmF
    rw [come_eq hm _ hR]
    exact hc
theorem tick_c {w0 w : World} {P : Nat} {a : Ad} {s : Pr} {R : Nat → List Pk} (h : PSn w0 P a s [] R w) (g : GI s R) {m : Nat} (hm : m < 2) :
    Calls Try.prog 20 #[lP (a.gl m)] w fun e w' => ∃ r, e = .returned r ∧ PSn w0 P a s [pkT _ r (pks (s.L m) 0 (s.L m).o)] R w' := PSn.tickL h hm (g.pi.en m hm).ok
theorem out_c {w0 w : World} {P : Nat} {a : Ad} {s : Pr} {R : Nat → List Pk} {r : Value} {m : Nat} (g : GI s R) (hm : m < 2) (h : PSn w0 P a s [pkT _ r (pks (s.L m) 0 (s.L m).o)] R w) :
    Calls Try.prog 29 #[.pointer (some ⟨P, 0, none⟩), r] w fun e w' => e = .returned (.tuple #[]) ∧ PSn w0 P a s [] (outR R (pks (s.L m) 0 (s.L m).o)) w' :=
  (out_any h g.pi.net.2 (fun p hp => Nat.le_trans ((g.pi.en m hm).tick hm p hp).2.2.2.2 (by omega)) (by rw [pks_len]; have := (g.pi.en m hm).ok.o8; omega)).mono fun _ _ ⟨he, h⟩ => ⟨he, h.tl⟩
theorem count_c {w0 w : World} {P : Nat} {a : Ad} {s : Pr} {R : Nat → List Pk} (h : PSn w0 P a s [] R w) (g : GI s R) :
    Calls Try.prog 30 #[nP a.gn] w fun e w' => e = .returned (.int .i64 ((cntN R 256 : Nat) : Int)) ∧ PSn w0 P a s [] R w' :=
  h.look (r := .int .i64 ((cntN R 256 : Nat) : Int)) fun V hv => (count_any hv (by have := g.pi.net.2; omega)).mono fun _ _ ⟨he, hw⟩ => ⟨he, by rw [hw]; exact Below.refl _ _⟩
/-- Behind n rounds. -/
def RW (w : World) (P n : Nat) (wr : World) : Prop := ∃ a s R, PSn w P a s [] R wr ∧ RV n s R
theorem PG.rw {w wr : World} {P k : Nat} (h : PG w P k wr) (hk : k ≤ 80) : RW w P 0 wr := by
  obtain ⟨a, s, R, h1, hI, hO, hV⟩ := h
  exact ⟨a, s, R, h1, RV.start (GI.norm hI hO hV fun i hi => by have := hI.S i hi; omega)⟩
/-- Within a round that began with s0, R0. -/
def IW (w : World) (P n : Nat) (s0 : Pr) (R0 : Nat → List Pk) (k : Nat) (wr : World) : Prop := ∃ a s R, PSn w P a s [] R wr ∧ IV n (decide (cntN R0 256 = 0)) (fun i => (s0.L i).b) (fun i => (s0.L i).b + ((s0.L i).o : Int)) (fun i => (s0.S i).length) k s R
end Go.Proofs.Ytiejehaaglpkoaa
