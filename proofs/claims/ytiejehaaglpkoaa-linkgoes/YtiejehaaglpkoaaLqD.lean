/- Rounds of ticks: what is under way comes to its end, and queues empty. Plainly; and the calls. -/
import Derived.Test.YtiejehaaglpkoaaLqC
import Derived.Test.YtiejehaaglpkoaaLpD
namespace Go.Proofs.Ytiejehaaglpkoaa
open Go.RowKit Go.ChangeMaps

/-- A pair that has sent at most 80 texts each way, with all that it keeps. -/
structure GI (s : Pr) (R : Nat → List Pk) : Prop where
  pi : PI s R 100
  oi : OI 1 s R
  vi : VI s R
  sl : ∀ i, i < 2 → (s.S i).length ≤ 80
theorem GI.norm {s : Pr} {R : Nat → List Pk} {k : Nat} (h : PI s R k) (hO : OI 1 s R) (hV : VI s R) (hS : ∀ i, i < 2 → (s.S i).length ≤ 80) : GI s R := by
  refine ⟨⟨h.net, h.en, fun i hi => by have := hS i hi; omega, fun i hi => ?_⟩, hO, hV, hS⟩
  have h1 := (hO.rcv i hi).1.pre.length_le
  have h2 := (hO.rcv i hi).1.early (hO.rcv i hi).2
  have := hS (1 - i) (by omega)
  omega
abbrev e0s : ByteArray := ⟨#[]⟩
abbrev cmF (m : Nat) (s : Pr) (R : Nat → List Pk) : Pr × (Nat → List Pk) := (doF s R 2 (m : Int) 0 e0s).2
abbrev tiF (m : Nat) (s : Pr) (R : Nat → List Pk) : Pr × (Nat → List Pk) := (doF s R 1 (m : Int) 0 e0s).2
theorem come_S {s : Pr} {R : Nat → List Pk} {m : Nat} (hm : m < 2) : (cmF m s R).1.S = s.S := by
  cases h : R (hp m) with
  | nil => unfold cmF; rw [come_nil hm _ h]
  | cons p l => unfold cmF; rw [come_eq hm _ h]; rfl
theorem GI.come {s : Pr} {R : Nat → List Pk} (h : GI s R) {m : Nat} (hm : m < 2) : GI (cmF m s R).1 (cmF m s R).2 :=
  GI.norm (h.pi.doF 2 m 0 e0s).2 (h.oi.doF h.pi 2 m 0 e0s) (h.vi.doF h.oi h.pi 2 m 0 e0s) (by show ∀ i, i < 2 → ((cmF m s R).1.S i).length ≤ 80; rw [come_S hm]; exact h.sl)
theorem tick_s {s : Pr} {R : Nat → List Pk} {m : Nat} (hm : m < 2) : (tiF m s R).1 = s ∧ (tiF m s R).2 = outR R (pks (s.L m) 0 (s.L m).o) := by
  unfold tiF
  rw [tick_eq hm]
  exact ⟨rfl, rfl⟩
theorem GI.tick {s : Pr} {R : Nat → List Pk} (h : GI s R) {m : Nat} (hm : m < 2) : GI s (outR R (pks (s.L m) 0 (s.L m).o)) := by
  obtain ⟨e1, e2⟩ := tick_s (s := s) (R := R) hm
  have := GI.norm (h.pi.doF 1 m 0 e0s).2 (h.oi.doF h.pi 1 m 0 e0s) (h.vi.doF h.oi h.pi 1 m 0 e0s) (by show ∀ i, i < 2 → ((tiF m s R).1.S i).length ≤ 80; rw [e1]; exact h.sl)
  have h2 : GI (tiF m s R).1 (tiF m s R).2 := this
  rw [e1, e2] at h2
  exact h2
theorem come_b {s : Pr} {R : Nat → List Pk} (h : GI s R) {m : Nat} (hm : m < 2) (i : Nat) : (s.L i).b ≤ ((cmF m s R).1.L i).b := by
  cases hR : R (hp m) with
  | nil => unfold cmF; rw [come_nil hm _ hR]; exact Int.le_refl _
  | cons p l =>
    unfold cmF
    rw [come_eq hm _ hR]
    show (s.L i).b ≤ (up s.L m (tkL (s.L m) p) i).b
    by_cases hi : i = m
    · subst hi
      rw [up_same]
      have a3 := (ack_facts (h.pi.en i hm).ok p.ak (h.vi.o i hm)).2.2.1
      unfold tkL
      split
      · split
        · exact a3
        · show _ ≤ (tkB (s.L i) p).b
          rw [show (tkB (s.L i) p).b = (tkA (s.L i) p).b from (hnd_b _ _).trans (arr_b _ _ _)]
          exact a3
      · exact Int.le_refl _
    · rw [up_other _ _ hi]; exact Int.le_refl _
theorem half {s : Pr} {R : Nat → List Pk} (h : GI s R) {m : Nat} (hm : m < 2) : (R (hp m) = [] ∧ (cmF m s R).1 = s ∧ (cmF m s R).2 = R) ∨ (R (hp m) ≠ [] ∧ Ph (cmF m s R).1 (cmF m s R).2 + 1 ≤ Ph s R) := by
  cases hR : R (hp m) with
  | nil => exact .inl ⟨rfl, by unfold cmF; rw [come_nil hm _ hR], by unfold cmF; rw [come_nil hm _ hR]⟩
  | cons p l => exact .inr ⟨by simp, Ph_come hm e0s h.pi h.oi h.vi hR⟩
/-- Within a round: so many packets came. -/
structure IV (n : Nat) (lv : Bool) (B T : Nat → Int) (N : Nat → Nat) (k : Nat) (s : Pr) (R : Nat → List Pk) : Prop where
  gi : GI s R
  ph : cntN R 256 = 0 ∨ (lv = true ∧ Ph s R + k ≤ 288) ∨ (lv = false ∧ Ph s R + k + 468 * n ≤ 1088)
  li : lv = true → ∀ i, i < 2 → B i < T i → LV i (B i) (T i) s R
  bb : ∀ i, i < 2 → B i ≤ (s.L i).b
  sn : ∀ i, i < 2 → (s.S i).length = N i
theorem cnt_nil {R : Nat → List Pk} (h : GoodR R) (hc : cntN R 256 = 0) : R (hp 0) = [] ∧ R (hp 1) = [] := by
  rw [cnt_two h] at hc
  exact ⟨List.length_eq_zero_iff.1 (by omega), List.length_eq_zero_iff.1 (by omega)⟩
/-- A packet comes, or none. -/
theorem IV.half {lv : Bool} {B T : Nat → Int} {N : Nat → Nat} {s : Pr} {R : Nat → List Pk} {m : Nat} (hm : m < 2) (gi : GI s R) (hph : lv = true → Ph s R ≤ 288) (li : lv = true → ∀ i, i < 2 → B i < T i → LV i (B i) (T i) s R) (bb : ∀ i, i < 2 → B i ≤ (s.L i).b) (sn : ∀ i, i < 2 → (s.S i).length = N i) :
    (lv = true → ∀ i, i < 2 → B i < T i → LV i (B i) (T i) (cmF m s R).1 (cmF m s R).2) ∧ (∀ i, i < 2 → B i ≤ ((cmF m s R).1.L i).b) ∧ (∀ i, i < 2 → ((cmF m s R).1.S i).length = N i) := by
  refine ⟨fun hl i hi hbt => ?_, fun i hi => Int.le_trans (bb i hi) (come_b gi hm i), fun i hi => by rw [come_S hm]; exact sn i hi⟩
  cases hR : R (hp m) with
  | nil =>
    have := come_nil (s := s) (R := R) hm e0s hR
    unfold cmF
    rw [this]
    exact li hl i hi hbt
  | cons p l => exact (li hl i hi hbt).come hi hm e0s gi.pi gi.oi gi.vi (by have := hph hl; omega) hR
theorem IV.step {n : Nat} {lv : Bool} {B T : Nat → Int} {N : Nat → Nat} {k : Nat} {s : Pr} {R : Nat → List Pk} (h : IV n lv B T N k s R) (hc : cntN R 256 ≠ 0) : IV n lv B T N (k + 1) (cmF 1 (cmF 0 s R).1 (cmF 0 s R).2).1 (cmF 1 (cmF 0 s R).1 (cmF 0 s R).2).2 := by
  have g0 := h.gi
  have p0 : (lv = true ∧ Ph s R + k ≤ 288) ∨ (lv = false ∧ Ph s R + k + 468 * n ≤ 1088) := by
    rcases h.ph with h | h
    · exact absurd h hc
    · exact h
  have pl : lv = true → Ph s R ≤ 288 := fun hl => by
    rcases p0 with ⟨_, h⟩ | ⟨h, _⟩
    · omega
    · rw [hl] at h; cases h
  have hne : R (hp 0) ≠ [] ∨ R (hp 1) ≠ [] := by
    rw [cnt_two g0.pi.net] at hc
    by_cases h0 : R (hp 0) = []
    · refine .inr fun h1 => hc ?_
      rw [h0, h1]; rfl
    · exact .inl h0
  obtain ⟨l1, b1, n1⟩ := IV.half (m := 0) (by omega) g0 pl h.li h.bb h.sn
  have g1 := g0.come (m := 0) (by omega)
  have q1 : Ph (cmF 0 s R).1 (cmF 0 s R).2 ≤ Ph s R := by
    rcases Go.Proofs.Ytiejehaaglpkoaa.half g0 (m := 0) (by omega) with ⟨-, e1, e2⟩ | ⟨-, e⟩
    · rw [e1, e2]; exact Nat.le_refl _
    · omega
  obtain ⟨l2, b2, n2⟩ := IV.half (m := 1) (by omega) g1 (fun hl => Nat.le_trans q1 (pl hl)) l1 b1 n1
  have g2 := g1.come (m := 1) (by omega)
  have q2 : Ph (cmF 1 (cmF 0 s R).1 (cmF 0 s R).2).1 (cmF 1 (cmF 0 s R).1 (cmF 0 s R).2).2 + 1 ≤ Ph s R := by
    rcases Go.Proofs.Ytiejehaaglpkoaa.half g0 (m := 0) (by omega) with ⟨h0, e1, e2⟩ | ⟨-, e⟩
    · rw [e1, e2]
      rcases Go.Proofs.Ytiejehaaglpkoaa.half g0 (m := 1) (by omega) with ⟨h1, -, -⟩ | ⟨-, e⟩
      · rcases hne with h | h
        · exact absurd h0 h
        · exact absurd h1 h
      · exact e
    · rcases Go.Proofs.Ytiejehaaglpkoaa.half g1 (m := 1) (by omega) with ⟨-, e1, e2⟩ | ⟨-, e'⟩
      · rw [e1, e2]; exact e
      · omega
  refine ⟨g2, .inr ?_, l2, b2, n2⟩
  rcases p0 with ⟨h1, h2⟩ | ⟨h1, h2⟩
  · exact .inl ⟨h1, by omega⟩
  · exact .inr ⟨h1, by omega⟩
/-- Behind n rounds. -/
structure RV (n : Nat) (s : Pr) (R : Nat → List Pk) : Prop where
  gi : GI s R
  ph : cntN R 256 = 0 ∨ Ph s R + 468 * n ≤ 1056
  q : ∀ i, i < 2 → (s.L i).q.length + 8 * n ≤ 88 ∨ (s.L i).q.length = 0
theorem RV.start {s : Pr} {R : Nat → List Pk} (h : GI s R) : RV 0 s R := by
  have := (Ph_le h.pi).1
  have := h.pi.net.2
  exact ⟨h, .inr (by omega), fun i hi => .inl (by have := (h.pi.en i hi).ok.q64; omega)⟩
theorem tick_in {f : Int} {s : Pr} {R : Nat → List Pk} {k : Nat} {i : Nat} (hi : i < 2) (hI : PI s R k) (hO : OI f s R) (hc : cntN R 256 ≤ 300) : outR R (pks (s.L i) 0 (s.L i).o) (hp (1 - i)) = R (hp (1 - i)) ++ pks (s.L i) 0 (s.L i).o ∧ outR R (pks (s.L i) 0 (s.L i).o) (hp i) = R (hp i) := by
  have hne := hp_ne hi (j := 1 - i) (by omega) (by omega)
  have o8 := (hI.en i hi).ok.o8
  exact ⟨out_exact (hp_lt (by omega)) _ R (tick_hop hi hI hO) (by rw [pks_len]; omega), (out_hop _ R fun q hq => (tick_hop hi hI hO q hq).2).1 (hp i) hne⟩
theorem LV.start {s : Pr} {R : Nat → List Pk} {i : Nat} (hi : i < 2) (h : GI s R) (ho : 0 < (s.L i).o) (hR : R (hp (1 - i)) = pks (s.L i) 0 (s.L i).o) : LV i (s.L i).b ((s.L i).b + ((s.L i).o : Int)) s R := by
  have b0 := (h.pi.en i hi).ok.b0
  have o8 := (h.pi.en i hi).ok.o8
  have hm : ∀ j : Nat, j < (s.L i).o → ∃ p ∈ R (hp (1 - i)), p.sq = (s.L i).b + (j : Int) := fun j hj => by
    rw [hR]
    refine ⟨pkL (s.L i) ((s.L i).b + ((0 + j : Nat) : Int)) ((s.L i).q.getD (0 + j) ⟨#[]⟩), List.mem_map.2 ⟨j, List.mem_range.2 hj, rfl⟩, ?_⟩
    show (s.L i).b + ((0 + j : Nat) : Int) = _
    rw [Nat.zero_add]
  refine ⟨b0, h.vi.bw i hi, by omega, fun n h1 h2 => .inl ?_, .inl ?_⟩
  · obtain ⟨p, hp1, hp2⟩ := hm (n - (s.L i).b).toNat (by omega)
    exact ⟨p, hp1, by omega⟩
  · obtain ⟨p, hp1, hp2⟩ := hm 0 ho
    exact ⟨p, hp1, by omega⟩
/-- Both ends tick. -/
theorem RV.ticks {n : Nat} {s : Pr} {R : Nat → List Pk} (h : RV n s R) : IV n (decide (cntN R 256 = 0)) (fun i => (s.L i).b) (fun i => (s.L i).b + ((s.L i).o : Int)) (fun i => (s.S i).length) 0 s (outR (outR R (pks (s.L 0) 0 (s.L 0).o)) (pks (s.L 1) 0 (s.L 1).o)) := by
  have g0 := h.gi
  have g1 := g0.tick (m := 0) (by omega)
  have g2 := g1.tick (m := 1) (by omega)
  have q1 := Ph_tick (i := 0) (by omega) e0s g0.pi g0.oi
  have q2 := Ph_tick (i := 1) (by omega) e0s g1.pi g1.oi
  rw [show (doF s R 1 ((0 : Nat) : Int) 0 e0s) = (true, s, outR R (pks (s.L 0) 0 (s.L 0).o)) from tick_eq (by omega) _] at q1
  rw [show (doF s (outR R (pks (s.L 0) 0 (s.L 0).o)) 1 ((1 : Nat) : Int) 0 e0s) = (true, s, outR (outR R (pks (s.L 0) 0 (s.L 0).o)) (pks (s.L 1) 0 (s.L 1).o)) from tick_eq (by omega) _] at q2
  dsimp only at q1 q2
  have hcl := (Ph_le g0.pi).1
  have hc1 := (Ph_le g1.pi).2
  refine ⟨g2, ?_, fun hl i hi hbt => ?_, fun i hi => Int.le_refl _, fun i hi => rfl⟩
  · by_cases hz : cntN R 256 = 0
    · exact .inr (.inl ⟨decide_eq_true hz, by omega⟩)
    · refine .inr (.inr ⟨decide_eq_false hz, ?_⟩)
      rcases h.ph with h | h
      · exact absurd h hz
      · omega
  · have hz : cntN R 256 = 0 := of_decide_eq_true hl
    obtain ⟨z0, z1⟩ := cnt_nil g0.pi.net hz
    obtain ⟨a1, a2⟩ := tick_in (i := 0) (by omega) g0.pi g0.oi (by omega)
    obtain ⟨b1, b2⟩ := tick_in (i := 1) (by omega) g1.pi g1.oi (by omega)
    have a1 : outR R (pks (s.L 0) 0 (s.L 0).o) (hp 1) = R (hp 1) ++ pks (s.L 0) 0 (s.L 0).o := a1
    have b1 : outR (outR R (pks (s.L 0) 0 (s.L 0).o)) (pks (s.L 1) 0 (s.L 1).o) (hp 0) = outR R (pks (s.L 0) 0 (s.L 0).o) (hp 0) ++ pks (s.L 1) 0 (s.L 1).o := b1
    rw [z1, List.nil_append] at a1
    rw [a2, z0, List.nil_append] at b1
    match i, hi with
    | 0, _ => exact LV.start (i := 0) (by omega) g2 (by omega) (b2.trans a1)
    | 1, _ => exact LV.start (i := 1) (by omega) g2 (by omega) b1
/-- The round's end. -/
theorem IV.done {n : Nat} {s0 s : Pr} {R0 R : Nat → List Pk} {k : Nat} (h0 : RV n s0 R0) (h : IV n (decide (cntN R0 256 = 0)) (fun i => (s0.L i).b) (fun i => (s0.L i).b + ((s0.L i).o : Int)) (fun i => (s0.S i).length) k s R) (hk : cntN R 256 = 0 ∨ k = 500) : RV (n + 1) s R := by
  have hz : cntN R 256 = 0 ∨ (decide (cntN R0 256 = 0) = false ∧ Ph s R + 500 + 468 * n ≤ 1088) := by
    rcases hk with hk | hk
    · exact .inl hk
    · subst hk
      rcases h.ph with h | ⟨-, h⟩ | ⟨h1, h2⟩
      · exact .inl h
      · omega
      · exact .inr ⟨h1, h2⟩
  refine ⟨h.gi, ?_, fun i hi => ?_⟩
  · rcases hz with hz | ⟨-, hz⟩
    · exact .inl hz
    · exact .inr (by omega)
  · have s1 := h.gi.oi.snd i hi
    have s2 := h0.gi.oi.snd i hi
    have sn := h.sn i hi
    have bb := h.bb i hi
    have q64 := (h.gi.pi.en i hi).ok.q64
    have len : ∀ {S : List ByteArray} {L : Lk}, SI 1 S L → (L.q.length : Int) = 1 + (S.length : Int) - L.b := fun {S} {L} hs => by
      obtain ⟨A, e1, e2, e3⟩ := hs
      have : L.q.length = S.length - A := by rw [e2, List.length_drop]
      omega
    have l1 := len s1
    have l2 := len s2
    have o := h0.gi.vi.o i hi
    have q := h0.q i hi
    by_cases hl : cntN R0 256 = 0
    · have hcz : cntN R 256 = 0 := by
        rcases hz with hz | ⟨hz, -⟩
        · exact hz
        · rw [decide_eq_true hl] at hz; cases hz
      obtain ⟨z0, z1⟩ := cnt_nil h.gi.pi.net hcz
      by_cases hbt : 0 < (s0.L i).o
      · have hL := h.li (decide_eq_true hl) i hi (by omega)
        have hend : (s0.L i).b + ((s0.L i).o : Int) ≤ (s.L i).b := by
          match i, hi with
          | 0, _ => exact LV.end (by omega) h.gi.oi z0 z1 hL
          | 1, _ => exact LV.end (by omega) h.gi.oi z1 z0 hL
        omega
      · omega
    · rcases h0.ph with hp0 | hp0
      · exact absurd hp0 hl
      · have := (Ph_le h0.gi.pi).2
        exact .inl (by omega)
/-- All that was sent is handed on, and nothing waits. -/
theorem RV.all {s : Pr} {R : Nat → List Pk} (h : RV 20 s R) : (∀ i, i < 2 → (s.L i).q.length = 0) ∧ ∀ i, i < 2 → (s.G i).length = (s.S (1 - i)).length := by
  have hq : ∀ i, i < 2 → (s.L i).q.length = 0 := fun i hi => by
    rcases h.q i hi with h | h
    · omega
    · exact h
  refine ⟨hq, fun i hi => ?_⟩
  have h1 := (h.gi.oi.rcv i hi).1
  have h2 := h1.pre.length_le
  have h3 := h1.wn
  obtain ⟨A, e1, e2, e3⟩ := h.gi.oi.snd (1 - i) (by omega)
  have h4 := hq (1 - i) (by omega)
  rw [e2, List.length_drop] at h4
  have h5 := h.gi.vi.bw (1 - i) (by omega)
  rw [show 1 - (1 - i) = i by omega] at h5
  omega
end Go.Proofs.Ytiejehaaglpkoaa
