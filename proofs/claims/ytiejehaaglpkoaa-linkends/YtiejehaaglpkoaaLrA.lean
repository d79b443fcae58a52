/- LinkEnds: texts whose numbers end, and rounds of ticks. Plainly; and the calls. -/
import Derived.Test.YtiejehaaglpkoaaLqC
import Derived.Test.YtiejehaaglpkoaaLpD
namespace Go.Proofs.Ytiejehaaglpkoaa
open Go.RowKit Go.ChangeMaps

structure GE (f : Int) (s : Pr) (R : Nat → List Pk) : Prop where
  pi : PI s R 100
  oi : OI f s R
  vi : VI s R
  sl : ∀ i, i < 2 → (s.S i).length ≤ 80
theorem GE.norm {f : Int} {s : Pr} {R : Nat → List Pk} {k : Nat} (h : PI s R k) (hO : OI f s R) (hV : VI s R) (hS : ∀ i, i < 2 → (s.S i).length ≤ 80) : GE f s R := by
  refine ⟨⟨h.net, h.en, fun i hi => by have := hS i hi; omega, fun i hi => ?_⟩, hO, hV, hS⟩
  have h1 := (hO.rcv i hi).1.pre.length_le
  have h2 := (hO.rcv i hi).1.early (hO.rcv i hi).2
  have := hS (1 - i) (by omega)
  omega
abbrev e0s : ByteArray := ⟨#[]⟩
abbrev cmF (m : Nat) (s : Pr) (R : Nat → List Pk) : Pr × (Nat → List Pk) := (doF s R 2 (m : Int) 0 e0s).2
abbrev tiF (m : Nat) (s : Pr) (R : Nat → List Pk) : Pr × (Nat → List Pk) := (doF s R 1 (m : Int) 0 e0s).2
theorem come_S {s : Pr} {R : Nat → List Pk} {m : Nat} (hm : m < 2) : (cmF m s R).1.S = s.S := by
  cases h : R (hp m) with
  | nil => unfold cmF; rw [come_nil hm _ h]
  | cons p l => unfold cmF; rw [come_eq hm _ h]; rfl
theorem GE.come {f : Int} {s : Pr} {R : Nat → List Pk} (h : GE f s R) {m : Nat} (hm : m < 2) : GE f (cmF m s R).1 (cmF m s R).2 :=
  GE.norm (h.pi.doF 2 m 0 e0s).2 (h.oi.doF h.pi 2 m 0 e0s) (h.vi.doF h.oi h.pi 2 m 0 e0s) (by show ∀ i, i < 2 → ((cmF m s R).1.S i).length ≤ 80; rw [come_S hm]; exact h.sl)
theorem tick_s {s : Pr} {R : Nat → List Pk} {m : Nat} (hm : m < 2) : (tiF m s R).1 = s ∧ (tiF m s R).2 = outR R (pks (s.L m) 0 (s.L m).o) := by
  unfold tiF
  rw [tick_eq hm]
  exact ⟨rfl, rfl⟩
theorem GE.tick {f : Int} {s : Pr} {R : Nat → List Pk} (h : GE f s R) {m : Nat} (hm : m < 2) : GE f s (outR R (pks (s.L m) 0 (s.L m).o)) := by
  obtain ⟨e1, e2⟩ := tick_s (s := s) (R := R) hm
  have := GE.norm (h.pi.doF 1 m 0 e0s).2 (h.oi.doF h.pi 1 m 0 e0s) (h.vi.doF h.oi h.pi 1 m 0 e0s) (by show ∀ i, i < 2 → ((tiF m s R).1.S i).length ≤ 80; rw [e1]; exact h.sl)
  have h2 : GE f (tiF m s R).1 (tiF m s R).2 := this
  rw [e1, e2] at h2
  exact h2
theorem come_b {f : Int} {s : Pr} {R : Nat → List Pk} (h : GE f s R) {m : Nat} (hm : m < 2) (i : Nat) : (s.L i).b ≤ ((cmF m s R).1.L i).b := by
  cases hR : R (hp m) with
  | nil => unfold cmF; rw [come_nil hm _ hR]; exact Int.le_refl _
  | cons p l =>
    unfold cmF
    rw [come_eq hm _ hR]
    show (s.L i).b ≤ (up s.L m (tkL (s.L m) p) i).b
    by_cases hi : i = m
    · subst hi
      rw [up_same]
      have a3 := (ack_facts (h.pi.en i hm).ok p.ak (h.vi.o i hm)).2.2.1
      unfold tkL
      split
      · split
        · exact a3
        · show _ ≤ (tkB (s.L i) p).b
          rw [show (tkB (s.L i) p).b = (tkA (s.L i) p).b from (hnd_b _ _).trans (arr_b _ _ _)]
          exact a3
      · exact Int.le_refl _
    · rw [up_other _ _ hi]; exact Int.le_refl _
theorem half {f : Int} {s : Pr} {R : Nat → List Pk} (h : GE f s R) {m : Nat} (hm : m < 2) : (R (hp m) = [] ∧ (cmF m s R).1 = s ∧ (cmF m s R).2 = R) ∨ (R (hp m) ≠ [] ∧ Ph (cmF m s R).1 (cmF m s R).2 + 1 ≤ Ph s R) := by
  cases hR : R (hp m) with
  | nil => exact .inl ⟨rfl, by unfold cmF; rw [come_nil hm _ hR], by unfold cmF; rw [come_nil hm _ hR]⟩
  | cons p l => exact .inr ⟨by simp, Ph_come hm e0s h.pi h.oi h.vi hR⟩
theorem cnt_nil {R : Nat → List Pk} (h : GoodR R) (hc : cntN R 256 = 0) : R (hp 0) = [] ∧ R (hp 1) = [] := by
  rw [cnt_two h] at hc
  exact ⟨List.length_eq_zero_iff.1 (by omega), List.length_eq_zero_iff.1 (by omega)⟩
theorem tick_in {f : Int} {s : Pr} {R : Nat → List Pk} {k : Nat} {i : Nat} (hi : i < 2) (hI : PI s R k) (hO : OI f s R) (hc : cntN R 256 ≤ 300) : outR R (pks (s.L i) 0 (s.L i).o) (hp (1 - i)) = R (hp (1 - i)) ++ pks (s.L i) 0 (s.L i).o ∧ outR R (pks (s.L i) 0 (s.L i).o) (hp i) = R (hp i) := by
  have hne := hp_ne hi (j := 1 - i) (by omega) (by omega)
  have o8 := (hI.en i hi).ok.o8
  exact ⟨out_exact (hp_lt (by omega)) _ R (tick_hop hi hI hO) (by rw [pks_len]; omega), (out_hop _ R fun q hq => (tick_hop hi hI hO q hq).2).1 (hp i) hne⟩
theorem LV.start {f : Int} {s : Pr} {R : Nat → List Pk} {i : Nat} (hi : i < 2) (h : GE f s R) (ho : 0 < (s.L i).o) (hR : R (hp (1 - i)) = pks (s.L i) 0 (s.L i).o) : LV i (s.L i).b ((s.L i).b + ((s.L i).o : Int)) s R := by
  have b0 := (h.pi.en i hi).ok.b0
  have o8 := (h.pi.en i hi).ok.o8
  have hm : ∀ j : Nat, j < (s.L i).o → ∃ p ∈ R (hp (1 - i)), p.sq = (s.L i).b + (j : Int) := fun j hj => by
    rw [hR]
    refine ⟨pkL (s.L i) ((s.L i).b + ((0 + j : Nat) : Int)) ((s.L i).q.getD (0 + j) ⟨#[]⟩), List.mem_map.2 ⟨j, List.mem_range.2 hj, rfl⟩, ?_⟩
    show (s.L i).b + ((0 + j : Nat) : Int) = _
    rw [Nat.zero_add]
  refine ⟨b0, h.vi.bw i hi, by omega, fun n h1 h2 => .inl ?_, .inl ?_⟩
  · obtain ⟨p, hp1, hp2⟩ := hm (n - (s.L i).b).toNat (by omega)
    exact ⟨p, hp1, by omega⟩
  · obtain ⟨p, hp1, hp2⟩ := hm 0 ho
    exact ⟨p, hp1, by omega⟩
theorem tkO_fit {s : Pr} {R : Nat → List Pk} {k : Nat} (hI : PI s R k) (hk : k ≤ 500) {i : Nat} (hi : i < 2) (j : Int) : ∀ x, takeP R noA (2 - (i : Int)) (1 + (i : Int)) j = x → x.x.size ≤ 140737488355328 ∧ (∀ p ∈ tkO (s.L i) x, p.x.size ≤ 140737488355328) ∧ (tkO (s.L i) x).length ≤ 1000 ∧ (tkT (s.L i) x).length ≤ 1000 := by
  intro x hx
  subst hx
  obtain ⟨t1, t2, t3⟩ := (hI.en i hi).take hi (takeP R noA (2 - (i : Int)) (1 + (i : Int)) j)
  refine ⟨?_, fun p hp => Nat.le_trans (t3 p hp).2.2.2.2 (by omega), ?_, by have := hI.G i hi; omega⟩
  · by_cases he : takeE R noA (2 - (i : Int)) (1 + (i : Int)) j = 0
    · exact Nat.le_trans (hI.net.taken he).1.2.2.2.2 (by omega)
    · unfold takeP; rw [if_neg he]; decide
  · have := tkO_len (s.L i) (takeP R noA (2 - (i : Int)) (1 + (i : Int)) j)
    omega
/-- A packet comes to an end, or none is there. -/
theorem come_c {f : Int} {w0 w : World} {P : Nat} {a : Ad} {s : Pr} {ext : List (Tg w0.heap.size)} {R : Nat → List Pk} (h : PSn w0 P a s ext R w) (g : GE f s R) {m : Nat} (hm : m < 2) :
    Calls Try.prog 31 #[.pointer (some ⟨P, 0, none⟩), .int .i64 (m : Int), .int .i64 0] w fun e w' => e = .returned (.bool true) ∧ ∃ a', PSn w0 P a' (cmF m s R).1 ext (cmF m s R).2 w' := by
  refine (come_any h hm 0 (g.pi.en m hm).ok (by have := g.pi.G m hm; omega) g.pi.net.2 (by have := g.pi.G m hm; omega) (tkO_fit g.pi (by omega) hm 0) (g.pi.net.take _ _ _).2).mono fun e w' hc => ?_
  cases hR : R (hp m) with
  | nil =>
    have hl : takeE R noA (2 - (m : Int)) (1 + (m : Int)) 0 ≠ 0 := fun he => by
      have := mem_takeP he
      rw [hR] at this
      simp at this
    unfold CmP at hc
    rw [if_neg hl] at hc
    unfold cmF
    rw [come_nil hm _ hR]
    exact ⟨hc.1, a, hc.2⟩
  | cons p l =>
    have hl : lookI R (2 - (m : Int)) (1 + (m : Int)) 0 = 0 := by
      unfold lookI
      rw [if_pos (hop_i hm), if_neg (by rw [hR, List.length_cons]; omega)]
    have he : takeE R noA (2 - (m : Int)) (1 + (m : Int)) 0 = 0 := by
      unfold takeE
      rw [if_pos hl, if_neg (by simp [noA])]
    have hp' : takeP R noA (2 - (m : Int)) (1 + (m : Int)) 0 = p := by
      unfold takeP
      rw [if_pos he, hR]; rfl
    have hr : takeR R noA (2 - (m : Int)) (1 + (m : Int)) 0 = up R (hp m) l := by
      unfold takeR
      rw [if_pos he, hR]; rfl
    obtain ⟨gp, gr⟩ := g.pi.net.1 (hp m) p (by rw [hR]; exact List.mem_cons_self)
    have hlk := good_look hm (g.pi.en m hm).x gp gr
    unfold CmP at hc
    rw [if_pos he, hp', hr, hlk] at hc
    unfold cmF
    rw [come_eq hm _ hR]
    exact hc
theorem tick_c {f : Int} {w0 w : World} {P : Nat} {a : Ad} {s : Pr} {R : Nat → List Pk} (h : PSn w0 P a s [] R w) (g : GE f s R) {m : Nat} (hm : m < 2) :
    Calls Try.prog 20 #[lP (a.gl m)] w fun e w' => ∃ r, e = .returned r ∧ PSn w0 P a s [pkT _ r (pks (s.L m) 0 (s.L m).o)] R w' := PSn.tickL h hm (g.pi.en m hm).ok
theorem out_c {f : Int} {w0 w : World} {P : Nat} {a : Ad} {s : Pr} {R : Nat → List Pk} {r : Value} {m : Nat} (g : GE f s R) (hm : m < 2) (h : PSn w0 P a s [pkT _ r (pks (s.L m) 0 (s.L m).o)] R w) :
    Calls Try.prog 29 #[.pointer (some ⟨P, 0, none⟩), r] w fun e w' => e = .returned (.tuple #[]) ∧ PSn w0 P a s [] (outR R (pks (s.L m) 0 (s.L m).o)) w' :=
  (out_any h g.pi.net.2 (fun p hp => Nat.le_trans ((g.pi.en m hm).tick hm p hp).2.2.2.2 (by omega)) (by rw [pks_len]; have := (g.pi.en m hm).ok.o8; omega)).mono fun _ _ ⟨he, h⟩ => ⟨he, h.tl⟩
theorem count_c {f : Int} {w0 w : World} {P : Nat} {a : Ad} {s : Pr} {R : Nat → List Pk} (h : PSn w0 P a s [] R w) (g : GE f s R) :
    Calls Try.prog 30 #[nP a.gn] w fun e w' => e = .returned (.int .i64 ((cntN R 256 : Nat) : Int)) ∧ PSn w0 P a s [] R w' :=
  h.look (r := .int .i64 ((cntN R 256 : Nat) : Int)) fun V hv => (count_any hv (by have := g.pi.net.2; omega)).mono fun _ _ ⟨he, hw⟩ => ⟨he, by rw [hw]; exact Below.refl _ _⟩
/-- Within a round: so many packets came. -/
structure JV (f : Int) (lv : Bool) (B T : Nat → Int) (N : Nat → Nat) (X k : Nat) (s : Pr) (R : Nat → List Pk) : Prop where
  gi : GE f s R
  ph : cntN R 256 = 0 ∨ Ph s R + k ≤ X
  li : lv = true → ∀ i, i < 2 → B i < T i → LV i (B i) (T i) s R
  bb : ∀ i, i < 2 → B i ≤ (s.L i).b
  sn : ∀ i, i < 2 → (s.S i).length = N i
theorem JV.half {f : Int} {lv : Bool} {B T : Nat → Int} {N : Nat → Nat} {s : Pr} {R : Nat → List Pk} {m : Nat} (hm : m < 2) (gi : GE f s R) (hph : Ph s R ≤ 288) (li : lv = true → ∀ i, i < 2 → B i < T i → LV i (B i) (T i) s R) (bb : ∀ i, i < 2 → B i ≤ (s.L i).b) (sn : ∀ i, i < 2 → (s.S i).length = N i) :
    (lv = true → ∀ i, i < 2 → B i < T i → LV i (B i) (T i) (cmF m s R).1 (cmF m s R).2) ∧ (∀ i, i < 2 → B i ≤ ((cmF m s R).1.L i).b) ∧ (∀ i, i < 2 → ((cmF m s R).1.S i).length = N i) := by
  refine ⟨fun hl i hi hbt => ?_, fun i hi => Int.le_trans (bb i hi) (come_b gi hm i), fun i hi => by rw [come_S hm]; exact sn i hi⟩
  cases hR : R (hp m) with
  | nil =>
    have := come_nil (s := s) (R := R) hm e0s hR
    unfold cmF
    rw [this]
    exact li hl i hi hbt
  | cons p l => exact (li hl i hi hbt).come hi hm e0s gi.pi gi.oi gi.vi (by omega) hR
theorem come_ph {f : Int} {s : Pr} {R : Nat → List Pk} (h : GE f s R) {m : Nat} (hm : m < 2) : Ph (cmF m s R).1 (cmF m s R).2 ≤ Ph s R := by
  rcases Go.Proofs.Ytiejehaaglpkoaa.half h hm with ⟨-, e1, e2⟩ | ⟨-, e⟩
  · rw [e1, e2]; exact Nat.le_refl _
  · omega
theorem JV.step {f : Int} {lv : Bool} {B T : Nat → Int} {N : Nat → Nat} {X k : Nat} {s : Pr} {R : Nat → List Pk} (hX : X ≤ 288) (h : JV f lv B T N X k s R) (hc : cntN R 256 ≠ 0) : JV f lv B T N X (k + 1) (cmF 1 (cmF 0 s R).1 (cmF 0 s R).2).1 (cmF 1 (cmF 0 s R).1 (cmF 0 s R).2).2 := by
  have g0 := h.gi
  have p0 : Ph s R + k ≤ X := by
    rcases h.ph with h | h
    · exact absurd h hc
    · exact h
  have hne : R (hp 0) ≠ [] ∨ R (hp 1) ≠ [] := by
    rw [cnt_two g0.pi.net] at hc
    by_cases h0 : R (hp 0) = []
    · refine .inr fun h1 => hc ?_
      rw [h0, h1]; rfl
    · exact .inl h0
  obtain ⟨l1, b1, n1⟩ := JV.half (m := 0) (by omega) g0 (by omega) h.li h.bb h.sn
  have g1 := g0.come (m := 0) (by omega)
  have q1 := come_ph g0 (m := 0) (by omega)
  obtain ⟨l2, b2, n2⟩ := JV.half (m := 1) (by omega) g1 (by omega) l1 b1 n1
  have g2 := g1.come (m := 1) (by omega)
  have q2 : Ph (cmF 1 (cmF 0 s R).1 (cmF 0 s R).2).1 (cmF 1 (cmF 0 s R).1 (cmF 0 s R).2).2 + 1 ≤ Ph s R := by
    rcases Go.Proofs.Ytiejehaaglpkoaa.half g0 (m := 0) (by omega) with ⟨h0, e1, e2⟩ | ⟨-, e⟩
    · rw [e1, e2]
      rcases Go.Proofs.Ytiejehaaglpkoaa.half g0 (m := 1) (by omega) with ⟨h1, -, -⟩ | ⟨-, e⟩
      · rcases hne with h | h
        · exact absurd h0 h
        · exact absurd h1 h
      · exact e
    · have := come_ph g1 (m := 1) (by omega)
      omega
  exact ⟨g2, .inr (by omega), l2, b2, n2⟩
theorem si_len {f : Int} {S : List ByteArray} {L : Lk} (h : SI f S L) : (L.q.length : Int) = f + (S.length : Int) - L.b ∧ f ≤ L.b := by
  obtain ⟨A, e1, e2, e3⟩ := h
  have : L.q.length = S.length - A := by rw [e2, List.length_drop]
  omega
/-- The text that is sent. -/
abbrev tx : ByteArray := ⟨#[120]⟩
/-- End 0 sends, and what it sends goes under way, or not. -/
def snP (s : Pr) : Pr := if sndE (s.L 0) tx = 0 then setS (setL s 0 (sndL (s.L 0) tx)) 0 (s.S 0 ++ [tx]) else setL s 0 (sndL (s.L 0) tx)
theorem snd_doF (s : Pr) (R : Nat → List Pk) : (doF s R 0 0 0 tx).2 = (snP s, outR R (sndO (s.L 0) tx)) := by
  unfold doF snP
  dsimp only
  rw [show atN 0 2 = 0 from by decide, if_pos rfl, if_pos (by decide)]
theorem mem_outR_of : ∀ (O : List Pk) {R : Nat → List Pk} {c : Nat} {p : Pk}, p ∈ R c → p ∈ outR R O c
  | [], R, c, p, h => h
  | q :: O, R, c, p, h => mem_outR_of O (R := sendR R q) (by
    unfold sendR
    split
    · by_cases hc : c = rix q.f q.t
      · subst hc; rw [up_same]; exact List.mem_append_left _ h
      · rw [up_other _ _ hc]; exact h
    · exact h)
theorem snd_S (s : Pr) : (snP s).S 1 = s.S 1 ∧ ((snP s).S 0).length = (s.S 0).length + (if sndE (s.L 0) tx = 0 then 1 else 0) := by
  unfold snP
  split
  · refine ⟨show up s.S 0 (s.S 0 ++ [tx]) 1 = _ from up_other _ _ (by decide), ?_⟩
    show (up s.S 0 (s.S 0 ++ [tx]) 0).length = _
    rw [up_same]; simp
  · exact ⟨rfl, rfl⟩
theorem GE.sent {f : Int} {s : Pr} {R : Nat → List Pk} (h : GE f s R) (hS : ∀ i, i < 2 → (s.S i).length ≤ 79) : GE f (snP s) (outR R (sndO (s.L 0) tx)) ∧ GE f (snP s) R := by
  have e := snd_doF s R
  have p1 := (h.pi.doF 0 0 0 tx).2
  have o1 := h.oi.doF h.pi 0 0 0 tx
  have v1 := h.vi.doF h.oi h.pi 0 0 0 tx
  have e1 : (doF s R 0 0 0 tx).2.1 = snP s := by rw [e]
  have e2 : (doF s R 0 0 0 tx).2.2 = outR R (sndO (s.L 0) tx) := by rw [e]
  rw [e1, e2] at p1 o1 v1
  have hs : ∀ i, i < 2 → ((snP s).S i).length ≤ 80 := fun i hi => by
    obtain ⟨a, b⟩ := snd_S s
    match i, hi with
    | 0, _ => have := hS 0 (by omega); rw [b]; split <;> omega
    | 1, _ => have := hS 1 (by omega); rw [a]; omega
  have hm : ∀ c, ∀ p ∈ R c, p ∈ outR R (sndO (s.L 0) tx) c := fun c p hp => mem_outR_of _ hp
  exact ⟨GE.norm p1 o1 v1 hs, GE.norm (k := 101) ⟨h.pi.net, p1.en, p1.S, p1.G⟩ (o1.less hm) (v1.less hm) hs⟩
theorem snd_ph {f : Int} {s : Pr} {R : Nat → List Pk} (h : GE f s R) : Ph (snP s) (outR R (sndO (s.L 0) tx)) ≤ Ph s R + (if sndE (s.L 0) tx = 0 then 2 else 0) ∧ Ph (snP s) R ≤ Ph s R + (if sndE (s.L 0) tx = 0 then 2 else 0) := by
  have hE := h.pi.en 0 (by omega)
  have ho := h.vi.o 0 (by omega)
  by_cases he : sndE (s.L 0) tx = 0
  · have ha := hE.ok.add he
    have eL : sndL (s.L 0) tx = goL (addQ (s.L 0) tx) := if_pos he
    have eO : sndO (s.L 0) tx = pks (addQ (s.L 0) tx) (s.L 0).o (goK (addQ (s.L 0) tx)) := if_pos he
    have l0 : (snP s).L 0 = goL (addQ (s.L 0) tx) := by
      unfold snP
      rw [if_pos he, eL]
      show up s.L 0 (goL (addQ (s.L 0) tx)) 0 = _
      exact up_same _ _ _
    have l1 : (snP s).L 1 = s.L 1 := by
      unfold snP
      rw [if_pos he]
      show up s.L 0 (sndL (s.L 0) tx) 1 = _
      exact up_other _ _ (by decide)
    have hql : (addQ (s.L 0) tx).q.length = (s.L 0).q.length + 1 := by show ((s.L 0).q ++ [tx]).length = _; simp
    have u0 : un (goL (addQ (s.L 0) tx)) = (addQ (s.L 0) tx).q.length - ((s.L 0).o + goK (addQ (s.L 0) tx)) := rfl
    have u1 : un (s.L 0) = (s.L 0).q.length - (s.L 0).o := rfl
    have kk : goK (addQ (s.L 0) tx) = min 8 (addQ (s.L 0) tx).q.length - (s.L 0).o := rfl
    have hO : ∀ q ∈ sndO (s.L 0) tx, rix q.f q.t = hp (1 - 0) := fun q hq => by
      obtain ⟨-, -, g⟩ := hE.snd (by omega) (t := tx) (by decide)
      rw [eO] at hq
      have f3 := (OutOk.pks (f := f) (S := s.S 0 ++ [tx]) (L := addQ (s.L 0) tx) (o := (s.L 0).o) (k := goK (addQ (s.L 0) tx)) hE.x.1 ((h.oi.snd 0 (by omega)).add tx) (goK_le ha) q hq).1
      exact hop_of (by omega) (g q (by rw [eO]; exact hq)) f3
    obtain ⟨o1, o2⟩ := out_hop (sndO (s.L 0) tx) R hO
    have e1 := o1 (hp 0) (hp_ne (by omega) (by omega) (by omega))
    have o2 : wt (outR R (sndO (s.L 0) tx) (hp 1)) ≤ wt (R (hp 1)) + wt (sndO (s.L 0) tx) := o2
    have w : wt (sndO (s.L 0) tx) = 2 * goK (addQ (s.L 0) tx) := by rw [eO]; exact wt_pks ha _ _
    rw [if_pos he]
    unfold Ph
    rw [l0, l1, e1]
    omega
  · have hs : snP s = s := by
      unfold snP
      rw [if_neg he, show sndL (s.L 0) tx = s.L 0 from if_neg he]
      have hu : up s.L 0 (s.L 0) = s.L := funext fun j => by
        by_cases hj : j = 0
        · subst hj; rw [up_same]
        · rw [up_other _ _ hj]
      unfold setL
      rw [hu]
    have eO : sndO (s.L 0) tx = [] := if_neg he
    rw [hs, eO, if_neg he]
    exact ⟨Nat.le_refl _, Nat.le_refl _⟩
/-- Behind i texts of which less have numbers. -/
structure FE (less i : Nat) (s : Pr) (R : Nat → List Pk) : Prop where
  gi : GE (1099511627775 - (less : Int)) s R
  ph : Ph s R ≤ 2 * min i less
  s0 : (s.S 0).length = min i less
  s1 : (s.S 1).length = 0
theorem FE.snd {less i : Nat} {s : Pr} {R : Nat → List Pk} (h : FE less i s R) (hl : less ≤ 20) : (i < less → sndE (s.L 0) tx = 0) ∧ (¬ i < less → sndE (s.L 0) tx = 13) := by
  obtain ⟨l1, l2⟩ := si_len (h.gi.oi.snd 0 (by omega))
  have s0 := h.s0
  unfold sndE
  rw [if_neg (by decide)]
  refine ⟨fun hi => ?_, fun hi => ?_⟩
  · rw [if_neg (by omega), if_neg (by omega)]
  · rw [if_pos (by omega)]
theorem FE.step {less i : Nat} {s : Pr} {R R' : Nat → List Pk} (h : FE less i s R) (hl : less ≤ 20) (hR : R' = R ∨ R' = outR R (sndO (s.L 0) tx)) : FE less (i + 1) (snP s) R' := by
  have hS : ∀ j, j < 2 → (s.S j).length ≤ 79 := fun j hj => by
    have := h.s0; have := h.s1
    match j, hj with
    | 0, _ => omega
    | 1, _ => omega
  obtain ⟨g1, g2⟩ := h.gi.sent hS
  obtain ⟨q1, q2⟩ := snd_ph h.gi
  obtain ⟨a, b⟩ := snd_S s
  obtain ⟨c1, c2⟩ := h.snd hl
  have ph := h.ph; have s0 := h.s0; have s1 := h.s1
  have key : Ph (snP s) R' ≤ Ph s R + (if sndE (s.L 0) tx = 0 then 2 else 0) ∧ GE (1099511627775 - (less : Int)) (snP s) R' := by
    rcases hR with rfl | rfl
    · exact ⟨q2, g2⟩
    · exact ⟨q1, g1⟩
  refine ⟨key.2, ?_, ?_, by rw [a]; exact s1⟩
  · have := key.1
    by_cases hi : i < less
    · rw [if_pos (c1 hi)] at this; omega
    · rw [if_neg (by rw [c2 hi]; decide)] at this; omega
  · rw [b]
    by_cases hi : i < less
    · rw [if_pos (c1 hi)]; omega
    · rw [if_neg (by rw [c2 hi]; decide)]; omega
theorem FE.come {less i : Nat} {s : Pr} {R : Nat → List Pk} (h : FE less i s R) {m : Nat} (hm : m < 2) : FE less i (cmF m s R).1 (cmF m s R).2 :=
  ⟨h.gi.come hm, Nat.le_trans (come_ph h.gi hm) h.ph, by rw [come_S hm]; exact h.s0, by rw [come_S hm]; exact h.s1⟩
/-- Behind n rounds of ticks. -/
structure RE (less n : Nat) (s : Pr) (R : Nat → List Pk) : Prop where
  gi : GE (1099511627775 - (less : Int)) s R
  ph : Ph s R ≤ 40
  z : n = 0 ∨ cntN R 256 = 0
  q : (s.L 0).q.length + 8 * n ≤ 28 ∨ (s.L 0).q.length = 0
  s0 : (s.S 0).length = less
  s1 : (s.S 1).length = 0
theorem FE.all {less : Nat} {s : Pr} {R : Nat → List Pk} (h : FE less 40 s R) (hl : less ≤ 20) : RE less 0 s R := by
  obtain ⟨l1, l2⟩ := si_len (h.gi.oi.snd 0 (by omega))
  have s0 := h.s0; have ph := h.ph
  exact ⟨h.gi, by omega, .inl rfl, .inl (by omega), by omega, h.s1⟩
theorem RE.tick {less n : Nat} {s : Pr} {R : Nat → List Pk} (h : RE less n s R) : JV (1099511627775 - (less : Int)) (decide (cntN R 256 = 0)) (fun i => (s.L i).b) (fun i => (s.L i).b + ((s.L i).o : Int)) (fun i => (s.S i).length) 56 0 s (outR R (pks (s.L 0) 0 (s.L 0).o)) := by
  have g0 := h.gi
  have g1 := g0.tick (m := 0) (by omega)
  have q1 := Ph_tick (i := 0) (by omega) e0s g0.pi g0.oi
  rw [show (doF s R 1 ((0 : Nat) : Int) 0 e0s) = (true, s, outR R (pks (s.L 0) 0 (s.L 0).o)) from tick_eq (by omega) _] at q1
  dsimp only at q1
  have ph := h.ph
  refine ⟨g1, .inr (by omega), fun hl i hi hbt => ?_, fun i hi => Int.le_refl _, fun i hi => rfl⟩
  have hz : cntN R 256 = 0 := of_decide_eq_true hl
  obtain ⟨z0, z1⟩ := cnt_nil g0.pi.net hz
  obtain ⟨a1, -⟩ := tick_in (i := 0) (by omega) g0.pi g0.oi (by omega)
  have a1 : outR R (pks (s.L 0) 0 (s.L 0).o) (hp 1) = R (hp 1) ++ pks (s.L 0) 0 (s.L 0).o := a1
  rw [z1, List.nil_append] at a1
  match i, hi with
  | 0, _ => exact LV.start (i := 0) (by omega) g1 (by omega) a1
  | 1, _ =>
    exfalso
    have o := g0.vi.o 1 (by omega)
    have l := si_len (g0.oi.snd 1 (by omega))
    have s1 := h.s1
    omega
theorem JV.done {less n : Nat} (hl : less ≤ 20) {s0 s : Pr} {R0 R : Nat → List Pk} {k : Nat} (h0 : RE less n s0 R0) (h : JV (1099511627775 - (less : Int)) (decide (cntN R0 256 = 0)) (fun i => (s0.L i).b) (fun i => (s0.L i).b + ((s0.L i).o : Int)) (fun i => (s0.S i).length) 56 k s R) (hk : cntN R 256 = 0 ∨ k = 200) : RE less (n + 1) s R := by
  have hz : cntN R 256 = 0 := by
    rcases hk with hk | hk
    · exact hk
    · rcases h.ph with h | h
      · exact h
      · omega
  obtain ⟨z0, z1⟩ := cnt_nil h.gi.pi.net hz
  obtain ⟨l1, m1⟩ := si_len (h.gi.oi.snd 0 (by omega))
  obtain ⟨l2, -⟩ := si_len (h0.gi.oi.snd 0 (by omega))
  obtain ⟨l3, m3⟩ := si_len (h.gi.oi.snd 1 (by omega))
  have n0 := h.sn 0 (by omega)
  have n1 := h.sn 1 (by omega)
  have bb := h.bb 0 (by omega)
  have o := h0.gi.vi.o 0 (by omega)
  have q := h0.q
  have t0 := h0.s0
  have t1 := h0.s1
  refine ⟨h.gi, ?_, .inr hz, ?_, by omega, by omega⟩
  · unfold Ph un
    rw [z0, z1]
    have : wt [] = 0 := rfl
    omega
  · rcases h0.z with hn | hn
    · subst hn
      exact .inl (by omega)
    · by_cases hbt : 0 < (s0.L 0).o
      · have hL := h.li (decide_eq_true hn) 0 (by omega) (by omega)
        have hend : (s0.L 0).b + ((s0.L 0).o : Int) ≤ (s.L 0).b := LV.end (by omega) h.gi.oi z0 z1 hL
        omega
      · omega
theorem RE.all {less : Nat} {s : Pr} {R : Nat → List Pk} (h : RE less 8 s R) : (s.G 1).length = less ∧ (s.L 1).wn = 1099511627775 ∧ (s.L 0).q.length = 0 := by
  have hq : (s.L 0).q.length = 0 := by
    rcases h.q with h | h
    · omega
    · exact h
  obtain ⟨l1, -⟩ := si_len (h.gi.oi.snd 0 (by omega))
  have r := (h.gi.oi.rcv 1 (by omega)).1
  have h2 := r.pre.length_le
  have h2 : (s.G 1).length ≤ (s.S 0).length := h2
  have h3 := r.wn
  have h5 := h.gi.vi.bw 0 (by omega)
  have h5 : (s.L 0).b ≤ (s.L 1).wn := h5
  have s0 := h.s0
  exact ⟨by omega, by omega, hq⟩
end Go.Proofs.Ytiejehaaglpkoaa
