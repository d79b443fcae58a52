/- What an end sends anew comes there, and its acknowledgement back: packet by packet. Plainly. -/
import Derived.Test.YtiejehaaglpkoaaLqB
namespace Go.Proofs.Ytiejehaaglpkoaa
open Go.RowKit Go.ChangeMaps

theorem dropE_or (k : Int) : ∀ (E : List (Int × ByteArray)) {q : Int × ByteArray}, q ∈ E → q ∈ dropE E k ∨ q.1 = k
  | [], q, h => by simp at h
  | x :: E, q, h => by
    by_cases hx : x.1 = k
    · have e : dropE (x :: E) k = E := by simp [dropE, hx]
      rw [e]
      rcases List.mem_cons.1 h with rfl | h
      · exact .inr hx
      · exact .inl h
    · have e : dropE (x :: E) k = x :: dropE E k := by simp [dropE, hx]
      rw [e]
      rcases List.mem_cons.1 h with rfl | h
      · exact .inl List.mem_cons_self
      · rcases dropE_or k E h with h | h
        · exact .inl (List.mem_cons_of_mem _ h)
        · exact .inr h
theorem hnd_mono : ∀ (n : Nat) (L : Lk), L.wn ≤ (hnd n L).2.wn
  | 0, L => Int.le_refl _
  | n + 1, L => by
    by_cases hm : L.wn < 1099511627775
    · cases h2 : atE L.e L.wn with
      | none => rw [hnd_stop (.inr h2)]; exact Int.le_refl _
      | some s =>
        rw [hnd_go hm h2]
        exact Int.le_trans (show L.wn ≤ L.wn + 1 by omega) (hnd_mono n ⟨L.x, L.q, L.b, L.o, L.wn + 1, dropE L.e L.wn⟩)
    · rw [hnd_stop (.inl hm)]; exact Int.le_refl _
theorem hnd_has : ∀ (n : Nat) (L : Lk) {q : Int × ByteArray}, q ∈ L.e → q ∈ (hnd n L).2.e ∨ q.1 < (hnd n L).2.wn
  | 0, L, q, h => .inl h
  | n + 1, L, q, h => by
    by_cases hm : L.wn < 1099511627775
    · cases h2 : atE L.e L.wn with
      | none => rw [hnd_stop (.inr h2)]; exact .inl h
      | some s =>
        rw [hnd_go hm h2]
        rcases dropE_or L.wn L.e h with h | h
        · exact hnd_has n ⟨L.x, L.q, L.b, L.o, L.wn + 1, dropE L.e L.wn⟩ h
        · refine .inr ?_
          have := hnd_mono n ⟨L.x, L.q, L.b, L.o, L.wn + 1, dropE L.e L.wn⟩
          refine Int.lt_of_lt_of_le ?_ this
          show q.1 < L.wn + 1
          omega
    · rw [hnd_stop (.inl hm)]; exact .inl h
theorem arr_has {L : Lk} {a : Int} {s : ByteArray} {q : Int × ByteArray} (h : q ∈ L.e) : q ∈ (arrL L a s).e := by
  unfold arrL
  split
  · exact List.mem_append_left _ h
  · exact h
theorem arr_new {L : Lk} {a : Int} {s : ByteArray} (h1 : L.wn ≤ a) (h2 : a < L.wn + 8) : ∃ q ∈ (arrL L a s).e, q.1 = a := by
  unfold arrL
  split
  · exact ⟨(a, s), List.mem_append_right _ (List.mem_singleton.2 rfl), rfl⟩
  · rename_i hc
    cases h : atE L.e a with
    | none => exact absurd ⟨⟨h1, h2⟩, h⟩ hc
    | some x => exact ⟨(a, x), atE_mem h, rfl⟩
/-- What is there, or below, stays so; what comes is there, or below. -/
theorem tk_has {L : Lk} {p : Pk} (hl : lookE L p = 0) : L.wn ≤ (tkL L p).wn ∧ (∀ q ∈ L.e, (∃ x ∈ (tkL L p).e, x.1 = q.1) ∨ q.1 < (tkL L p).wn) ∧ (p.sq ≠ 0 → p.sq < L.wn + 8 → (∃ x ∈ (tkL L p).e, x.1 = p.sq) ∨ p.sq < (tkL L p).wn) ∧ (p.sq ≠ 0 → tkO L p ≠ []) ∧ (p.sq = 0 → (tkL L p).wn = L.wn) := by
  obtain ⟨-, -, ae⟩ := ack_keep L p.ak
  have aw := ack_wn L p.ak
  by_cases hq : p.sq = 0
  · have eL : tkL L p = goL (tkA L p) := by unfold tkL; rw [if_pos hl, if_pos hq]
    rw [eL]
    have w : (goL (tkA L p)).wn = L.wn := aw
    have e : (goL (tkA L p)).e = L.e := ae
    rw [w, e]
    exact ⟨Int.le_refl _, fun q hq => .inl ⟨q, hq, rfl⟩, fun h => absurd hq h, fun h => absurd hq h, fun _ => rfl⟩
  · have eL : tkL L p = goL (tkB L p) := by unfold tkL; rw [if_pos hl, if_neg hq]
    have eO : tkO L p = if goK (tkB L p) = 0 then [pkL (tkB L p) 0 ⟨#[]⟩] else pks (tkB L p) (tkB L p).o (goK (tkB L p)) := by unfold tkO; rw [if_pos hl, if_neg hq]
    rw [eL, eO]
    have hRw : (tkR L p).wn = L.wn := (arr_wn _ _ _).trans aw
    have hm := hnd_mono (tkR L p).e.length (tkR L p)
    have hm2 : L.wn ≤ (goL (tkB L p)).wn := by rw [← hRw]; exact hm
    have key : ∀ x ∈ (tkR L p).e, (∃ y ∈ (goL (tkB L p)).e, y.1 = x.1) ∨ x.1 < (goL (tkB L p)).wn := fun x hx => by
      rcases hnd_has (tkR L p).e.length (tkR L p) hx with h | h
      · exact .inl ⟨x, h, rfl⟩
      · exact .inr h
    refine ⟨hm2, fun q hq => ?_, fun _ h8 => ?_, fun _ => ?_, fun h => absurd h hq⟩
    · exact key q (arr_has (by show q ∈ (ackL L p.ak).e; rw [ae]; exact hq))
    · by_cases hw : L.wn ≤ p.sq
      · obtain ⟨x, hx, e⟩ := arr_new (L := tkA L p) (s := p.x) (by rw [show (tkA L p).wn = L.wn from aw]; exact hw) (by rw [show (tkA L p).wn = L.wn from aw]; exact h8)
        rcases key x hx with ⟨y, hy, e2⟩ | h
        · exact .inl ⟨y, hy, e2.trans e⟩
        · exact .inr (by rw [← e]; exact h)
      · exact .inr (by omega)
    · split
      · simp
      · rename_i hk
        intro h
        have := congrArg List.length h
        rw [pks_len] at this
        exact hk this
theorem tkO_len (L : Lk) (p : Pk) : (tkO L p).length ≤ 8 := by
  unfold tkO
  split
  · split
    · rw [pks_len]; unfold goK; omega
    · split
      · simp
      · rw [pks_len]; unfold goK; omega
  · simp
/-- What lies under way behind a packet that came, when there is room. -/
theorem come_R {f : Int} {s : Pr} {R : Nat → List Pk} {k : Nat} {i : Nat} (hi : i < 2) (t : ByteArray) (hI : PI s R k) (hO : OI f s R) (hph : Ph s R ≤ 380) {p : Pk} {l : List Pk} (h : R (hp i) = p :: l) :
    lookE (s.L i) p = 0 ∧ (doF s R 2 (i : Int) 0 t).2.1 = cmS s i p ∧ (doF s R 2 (i : Int) 0 t).2.2 (hp i) = l ∧ (doF s R 2 (i : Int) 0 t).2.2 (hp (1 - i)) = R (hp (1 - i)) ++ tkO (s.L i) p ∧ p.f = 1 + ((1 - i : Nat) : Int) := by
  have hE := hI.en i hi
  have hmem : p ∈ R (hp i) := by rw [h]; exact List.mem_cons_self
  obtain ⟨gp, gr⟩ := hI.net.1 (hp i) p hmem
  have hlk := good_look hi hE.x gp gr
  obtain ⟨-, -, t3⟩ := hE.take hi p
  have hpf : p.f = 1 + ((1 - i : Nat) : Int) := by
    have hlk := hlk
    unfold lookE at hlk
    split at hlk
    · rename_i hc
      have := hE.x.2.1
      rw [hc.2.1, this]
      omega
    · cases hlk
  have hO' : ∀ q ∈ tkO (s.L i) p, chkP q = true ∧ rix q.f q.t = hp (1 - i) := fun q hq => by
    have hend := (hO.snd (1 - i) (by omega)).end (hI.en (1 - i) (by omega)).ok
    obtain ⟨hR, hst⟩ := hO.rcv i hi
    have t4 := (take_ord hE (hO.snd i hi) hR hst hend (fun hq => hO.pk (1 - i) (by omega) _ p hmem hpf hq)).2.2
    exact ⟨(t3 q hq).1, hop_of hi (t3 q hq) (t4 q hq).1⟩
  have hne := hp_ne hi (j := 1 - i) (by omega) (by omega)
  have hcu := cntN_up R (hp i) l 256 (hp_lt hi)
  have hcl : (R (hp i)).length = l.length + 1 := by rw [h]; rfl
  have hle := (Ph_le hI).2
  have hl8 := tkO_len (s.L i) p
  have ex := out_exact (hp_lt (i := 1 - i) (by omega)) (tkO (s.L i) p) (up R (hp i) l) hO' (by omega)
  have ex2 := (out_hop (tkO (s.L i) p) (up R (hp i) l) fun q hq => (hO' q hq).2).1 (hp i) hne
  rw [come_eq hi t h]
  refine ⟨hlk, rfl, ?_, ?_, hpf⟩
  · dsimp only
    rw [ex2, up_same]
  · dsimp only
    rw [ex, up_other _ _ (Ne.symm hne)]
/-- What end i has sent anew, from u up to t: it is under way, or came. And how it is acknowledged. -/
structure LV (i : Nat) (u t : Int) (s : Pr) (R : Nat → List Pk) : Prop where
  u1 : 1 ≤ u
  uw : u ≤ (s.L (1 - i)).wn
  t8 : t ≤ u + 8
  D : ∀ n : Int, u ≤ n → n < t → (∃ p ∈ R (hp (1 - i)), p.sq = n) ∨ n < (s.L (1 - i)).wn ∨ ∃ q ∈ (s.L (1 - i)).e, q.1 = n
  Q : (∃ p ∈ R (hp (1 - i)), p.sq ≠ 0) ∨ (∃ p, (R (hp i)).getLast? = some p ∧ p.ak = (s.L (1 - i)).wn - 1) ∨ (s.L (1 - i)).wn ≤ (s.L i).b
theorem last_app {l O : List Pk} (h : O ≠ []) : ∃ q ∈ O, (l ++ O).getLast? = some q := by
  refine ⟨O.getLast h, List.getLast_mem h, ?_⟩
  rw [List.getLast?_append, List.getLast?_eq_some_getLast h]
  rfl
theorem LV.come {f : Int} {s : Pr} {R : Nat → List Pk} {k : Nat} {i m : Nat} {u t : Int} (hi : i < 2) (hm : m < 2) (x : ByteArray) (hI : PI s R k) (hO : OI f s R) (hV : VI s R) (hph : Ph s R ≤ 380) {p : Pk} {l : List Pk} (h : R (hp m) = p :: l) (hL : LV i u t s R) : LV i u t (doF s R 2 (m : Int) 0 x).2.1 (doF s R 2 (m : Int) 0 x).2.2 := by
  obtain ⟨hlk, e1, e2, e3, hpf⟩ := come_R hm x hI hO hph h
  have hE := hI.en m hm
  have hmem : p ∈ R (hp m) := by rw [h]; exact List.mem_cons_self
  obtain ⟨q1, q2⟩ := hV.ak (1 - m) (by omega) _ p hmem hpf
  have f1 := hV.ek (1 - m) (by omega)
  have f2 := hV.wo (1 - m) (by omega)
  rw [show 1 - (1 - m) = m by omega] at f1 f2
  have T := tk_facts hE.ok (hV.o m hm) f1 f2 q2
  have h1 := (tk_has hlk).1
  have H2 : Hid (∀ q ∈ (s.L m).e, (∃ x ∈ (tkL (s.L m) p).e, x.1 = q.1) ∨ q.1 < (tkL (s.L m) p).wn) := (tk_has hlk).2.1
  have H3 : Hid (p.sq ≠ 0 → p.sq < (s.L m).wn + 8 → (∃ x ∈ (tkL (s.L m) p).e, x.1 = p.sq) ∨ p.sq < (tkL (s.L m) p).wn) := (tk_has hlk).2.2.1
  have H4 : Hid (p.sq ≠ 0 → tkO (s.L m) p ≠ []) := (tk_has hlk).2.2.2.1
  have H5 : Hid (p.sq = 0 → (tkL (s.L m) p).wn = (s.L m).wn) := (tk_has hlk).2.2.2.2
  rw [e1]
  generalize (doF s R 2 (m : Int) 0 x).2.2 = R' at *
  by_cases hmi : m = i
  · subst hmi
    have g1 : (cmS s m p).L (1 - m) = s.L (1 - m) := up_other _ _ (by omega)
    have g2 : (cmS s m p).L m = tkL (s.L m) p := up_same _ _ _
    refine ⟨hL.u1, by rw [g1]; exact hL.uw, hL.t8, ?_, ?_⟩
    · rw [g1, e3]
      intro n n1 n2
      rcases hL.D n n1 n2 with ⟨y, hy, e⟩ | h'
      · exact .inl ⟨y, List.mem_append_left _ hy, e⟩
      · exact .inr h'
    · rw [g1, g2, e3, e2]
      rcases hL.Q with ⟨y, hy, e⟩ | ⟨y, hy, e⟩ | h'
      · exact .inl ⟨y, List.mem_append_left _ hy, e⟩
      · rw [h] at hy
        cases l with
        | nil =>
          obtain rfl : p = y := by simpa using hy
          refine .inr (.inr ?_)
          have w1 := hV.wo m hm
          by_cases hb : (s.L m).b ≤ p.ak
          · have := T.bk hlk hb (by omega)
            omega
          · have := T.b0
            omega
        | cons z l =>
          refine .inr (.inl ⟨y, ?_, e⟩)
          rw [← hy]
          simp
      · exact .inr (.inr (Int.le_trans h' T.b0))
  · obtain rfl : m = 1 - i := by omega
    have g1 : (cmS s (1 - i) p).L (1 - i) = tkL (s.L (1 - i)) p := up_same _ _ _
    have g2 : (cmS s (1 - i) p).L i = s.L i := up_other _ _ (by omega)
    rw [show 1 - (1 - i) = i by omega] at e3
    have uw := hL.uw
    have t8 := hL.t8
    refine ⟨hL.u1, by rw [g1]; omega, t8, ?_, ?_⟩
    · rw [g1, e2]
      intro n n1 n2
      have nu := hL.u1
      rcases hL.D n n1 n2 with ⟨y, hy, e⟩ | h' | ⟨y, hy, e⟩
      · rw [h] at hy
        rcases List.mem_cons.1 hy with rfl | hy
        · rcases H3.out (by omega) (by omega) with ⟨z, hz, e'⟩ | h'
          · exact .inr (.inr ⟨z, hz, by omega⟩)
          · exact .inr (.inl (by omega))
        · exact .inl ⟨y, hy, e⟩
      · exact .inr (.inl (by omega))
      · rcases H2.out y hy with ⟨z, hz, e'⟩ | h'
        · exact .inr (.inr ⟨z, hz, by omega⟩)
        · exact .inr (.inl (by omega))
    · rw [g1, g2, e3, e2]
      by_cases hq : p.sq = 0
      · have hw := H5.out hq
        rw [hw]
        by_cases hO0 : tkO (s.L (1 - i)) p = []
        · rw [hO0, List.append_nil]
          rcases hL.Q with ⟨y, hy, e⟩ | h'
          · rw [h] at hy
            rcases List.mem_cons.1 hy with rfl | hy
            · exact absurd hq e
            · exact .inl ⟨y, hy, e⟩
          · exact .inr h'
        · obtain ⟨y, hy, e⟩ := last_app (l := R (hp i)) hO0
          exact .inr (.inl ⟨y, e, by rw [← hw]; exact (T.out y hy).1⟩)
      · obtain ⟨y, hy, e⟩ := last_app (l := R (hp i)) (H4.out hq)
        exact .inr (.inl ⟨y, e, (T.out y hy).1⟩)
/-- When nothing is under way any more, all of it came, and is acknowledged. -/
theorem LV.end {f : Int} {s : Pr} {R : Nat → List Pk} {i : Nat} {u t : Int} (hi : i < 2) (hO : OI f s R) (h0 : R (hp i) = []) (h1 : R (hp (1 - i)) = []) (hL : LV i u t s R) : t ≤ (s.L i).b := by
  have hb : (s.L (1 - i)).wn ≤ (s.L i).b := by
    rcases hL.Q with ⟨y, hy, -⟩ | ⟨y, hy, -⟩ | h
    · rw [h1] at hy; simp at hy
    · rw [h0] at hy; simp at hy
    · exact h
  have hst := (hO.rcv (1 - i) (by omega)).2
  by_cases hw : (s.L (1 - i)).wn < t
  · exfalso
    rcases hL.D _ hL.uw hw with ⟨y, hy, -⟩ | h | ⟨y, hy, e⟩
    · rw [h1] at hy; simp at hy
    · omega
    · exact hst y hy e
  · omega
end Go.Proofs.Ytiejehaaglpkoaa
