/- Acknowledgements, and what has gone out: what a pair keeps of them, deed by deed. Plainly. -/
import Derived.Test.YtiejehaaglpkoaaLpB
namespace Go.Proofs.Ytiejehaaglpkoaa
open Go.RowKit Go.ChangeMaps

theorem hnd_o : ∀ (n : Nat) (L : Lk), (hnd n L).2.o = L.o
  | 0, L => rfl
  | n + 1, L => by
    by_cases hw : L.wn < 1099511627775
    · cases h2 : atE L.e L.wn with
      | none => rw [hnd_stop (.inr h2)]
      | some s => rw [hnd_go hw h2]; exact hnd_o n _
    · rw [hnd_stop (.inl hw)]
theorem arr_o (L : Lk) (a : Int) (s : ByteArray) : (arrL L a s).o = L.o := by
  unfold arrL
  split <;> rfl
theorem arr_wn (L : Lk) (a : Int) (s : ByteArray) : (arrL L a s).wn = L.wn := by
  unfold arrL
  split <;> rfl
theorem arr_e {L : Lk} {a : Int} {s : ByteArray} {q : Int × ByteArray} (h : q ∈ (arrL L a s).e) : q ∈ L.e ∨ q.1 = a := by
  unfold arrL at h
  split at h
  · rcases List.mem_append.1 h with h | h
    · exact .inl h
    · rw [List.mem_singleton.1 h]; exact .inr rfl
  · exact .inl h
theorem dropE_sub {E : List (Int × ByteArray)} {k : Int} {q : Int × ByteArray} (h : q ∈ dropE E k) : q ∈ E := List.mem_of_mem_eraseP h
theorem hnd_up (B : Int) : ∀ (n : Nat) (L : Lk), (∀ q ∈ L.e, q.1 < B) → L.wn ≤ B → L.wn ≤ (hnd n L).2.wn ∧ (hnd n L).2.wn ≤ B ∧ ∀ q ∈ (hnd n L).2.e, q ∈ L.e
  | 0, L, _, hw => ⟨Int.le_refl _, hw, fun q hq => hq⟩
  | n + 1, L, he, hw => by
    by_cases hm : L.wn < 1099511627775
    · cases h2 : atE L.e L.wn with
      | none => rw [hnd_stop (.inr h2)]; exact ⟨Int.le_refl _, hw, fun q hq => hq⟩
      | some s =>
        rw [hnd_go hm h2]
        have hk := he _ (atE_mem h2)
        obtain ⟨a, b, c⟩ := hnd_up B n ⟨L.x, L.q, L.b, L.o, L.wn + 1, dropE L.e L.wn⟩ (fun q hq => he q (dropE_sub hq)) (by show L.wn + 1 ≤ B; dsimp only at hk; omega)
        exact ⟨Int.le_trans (show L.wn ≤ L.wn + 1 by omega) a, b, fun q hq => dropE_sub (c q hq)⟩
    · rw [hnd_stop (.inl hm)]; exact ⟨Int.le_refl _, hw, fun q hq => hq⟩
theorem go_o {L : Lk} (h : L.o ≤ min 8 L.q.length) : (goL L).o = min 8 L.q.length := by
  show L.o + goK L = _
  unfold goK; omega
theorem ack_facts {L : Lk} (ok : LkOk L) (a : Int) (ho : L.o = min 8 L.q.length) : (ackL L a).b + ((ackL L a).o : Int) = L.b + (L.o : Int) ∧ (ackL L a).o ≤ min 8 (ackL L a).q.length ∧ L.b ≤ (ackL L a).b ∧ ((ackL L a).b = L.b ∨ (ackL L a).b = a + 1) ∧ (ackL L a).q.length + (L.o - (ackL L a).o) = L.q.length ∧ (L.b ≤ a → a < L.b + (L.o : Int) → (ackL L a).b = a + 1) := by
  have oq := ok.oq
  unfold ackL
  split
  · rename_i hb
    obtain ⟨b1, b2⟩ := hb
    have hn : (ackN L a : Int) = a - L.b + 1 := by unfold ackN; omega
    have hl : (L.q.drop (ackN L a)).length = L.q.length - ackN L a := List.length_drop
    dsimp only
    rw [hl]
    refine ⟨by omega, by omega, by omega, .inr rfl, by omega, fun _ _ => rfl⟩
  · rename_i hb
    exact ⟨rfl, by omega, Int.le_refl _, .inl rfl, by omega, fun h1 h2 => absurd ⟨h1, h2⟩ hb⟩
/-- What a taken packet makes of an end's numbers. -/
structure TkF (L : Lk) (p : Pk) (B : Int) : Prop where
  bo : L.b + (L.o : Int) ≤ (tkL L p).b + ((tkL L p).o : Int)
  o : (tkL L p).o = min 8 (tkL L p).q.length
  b : (tkL L p).b = L.b ∨ (tkL L p).b = p.ak + 1
  b0 : L.b ≤ (tkL L p).b
  bk : lookE L p = 0 → L.b ≤ p.ak → p.ak < L.b + (L.o : Int) → (tkL L p).b = p.ak + 1
  w : L.wn ≤ (tkL L p).wn ∧ (tkL L p).wn ≤ B
  e : ∀ q ∈ (tkL L p).e, q ∈ L.e ∨ q.1 = p.sq
  out : ∀ q ∈ tkO L p, q.ak = (tkL L p).wn - 1 ∧ q.sq < (tkL L p).b + ((tkL L p).o : Int)
theorem pks_facts {L : Lk} {o k : Nat} {q : Pk} (h : q ∈ pks L o k) : q.ak = L.wn - 1 ∧ q.sq < L.b + ((o + k : Nat) : Int) ∧ L.b ≤ q.sq := by
  obtain ⟨j, hj, rfl⟩ := List.mem_map.1 h
  have hj := List.mem_range.1 hj
  refine ⟨rfl, ?_, ?_⟩
  · show L.b + ((o + j : Nat) : Int) < _; omega
  · show L.b ≤ L.b + ((o + j : Nat) : Int); omega
theorem tk_facts {L : Lk} {p : Pk} {B : Int} (ok : LkOk L) (ho : L.o = min 8 L.q.length) (he : ∀ q ∈ L.e, q.1 < B) (hw : L.wn ≤ B) (hp : p.sq < B) : TkF L p B := by
  obtain ⟨a1, a2, a3, a4, -, a6⟩ := ack_facts ok p.ak ho
  have a1 : (tkA L p).b + ((tkA L p).o : Int) = L.b + (L.o : Int) := a1
  have a2 : (tkA L p).o ≤ min 8 (tkA L p).q.length := a2
  have a3 : L.b ≤ (tkA L p).b := a3
  obtain ⟨-, -, ae⟩ := ack_keep L p.ak
  have aw := ack_wn L p.ak
  have okA := ok.ack p.ak
  have b0 := okA.b0
  by_cases hl : lookE L p = 0
  · by_cases hq : p.sq = 0
    · have eL : tkL L p = goL (tkA L p) := by unfold tkL; rw [if_pos hl, if_pos hq]
      have eO : tkO L p = pks (tkA L p) (tkA L p).o (goK (tkA L p)) := by unfold tkO; rw [if_pos hl, if_pos hq]
      have g := go_o a2
      have g' : (goL (tkA L p)).o = (tkA L p).o + goK (tkA L p) := rfl
      refine ⟨?_, ?_, ?_, ?_, ?_, ?_, ?_, ?_⟩
      · rw [eL]; show _ ≤ (tkA L p).b + _; omega
      · rw [eL]; exact g
      · rw [eL]; exact a4
      · rw [eL]; exact a3
      · rw [eL]; exact fun _ => a6
      · rw [eL]; show _ ≤ (tkA L p).wn ∧ (tkA L p).wn ≤ B; rw [show (tkA L p).wn = L.wn from aw]; exact ⟨Int.le_refl _, hw⟩
      · rw [eL]; intro q hq; exact .inl (by rw [← ae]; exact hq)
      · rw [eL, eO]; intro q hq
        obtain ⟨f1, f2, -⟩ := pks_facts hq
        exact ⟨f1, by show _ < (tkA L p).b + _; omega⟩
    · have eL : tkL L p = goL (tkB L p) := by unfold tkL; rw [if_pos hl, if_neg hq]
      have eO : tkO L p = if goK (tkB L p) = 0 then [pkL (tkB L p) 0 ⟨#[]⟩] else pks (tkB L p) (tkB L p).o (goK (tkB L p)) := by unfold tkO; rw [if_pos hl, if_neg hq]
      obtain ⟨-, c2, -⟩ := hnd_keep (tkR L p).e.length (tkR L p)
      obtain ⟨-, d2, -⟩ := arr_keep (tkA L p) p.sq p.x
      have hBb : (tkB L p).b = (tkA L p).b := (hnd_b _ _).trans (arr_b _ _ _)
      have hBo : (tkB L p).o = (tkA L p).o := (hnd_o _ _).trans (arr_o _ _ _)
      have hBq : (tkB L p).q = (tkA L p).q := c2.trans d2
      have hRw : (tkR L p).wn = L.wn := (arr_wn _ _ _).trans aw
      have hRe : ∀ q ∈ (tkR L p).e, q ∈ L.e ∨ q.1 = p.sq := fun q hq => by
        rcases arr_e hq with h | h
        · exact .inl (by rw [← ae]; exact h)
        · exact .inr h
      obtain ⟨u1, u2, u3⟩ := hnd_up B (tkR L p).e.length (tkR L p) (fun q hq => by
        rcases hRe q hq with h | h
        · exact he q h
        · omega) (by omega)
      have a2' : (tkB L p).o ≤ min 8 (tkB L p).q.length := by rw [hBo, hBq]; exact a2
      have g := go_o a2'
      have g' : (goL (tkB L p)).o = (tkB L p).o + goK (tkB L p) := rfl
      refine ⟨?_, ?_, ?_, ?_, ?_, ?_, ?_, ?_⟩
      · rw [eL]; show _ ≤ (tkB L p).b + _; omega
      · rw [eL]; exact g
      · rw [eL]; show (tkB L p).b = _ ∨ (tkB L p).b = _; rw [hBb]; exact a4
      · rw [eL]; show _ ≤ (tkB L p).b; rw [hBb]; exact a3
      · rw [eL]; show _ → _ → _ → (tkB L p).b = _; rw [hBb]; exact fun _ => a6
      · rw [eL]; exact ⟨by rw [← hRw]; exact u1, u2⟩
      · rw [eL]; intro q hq; exact hRe q (u3 q hq)
      · rw [eL, eO]; intro q hq
        split at hq
        · rw [List.mem_singleton.1 hq]
          refine ⟨rfl, ?_⟩
          show (0 : Int) < (tkB L p).b + _
          rw [hBb]
          have : 1 ≤ (tkA L p).b := b0
          omega
        · obtain ⟨f1, f2, -⟩ := pks_facts hq
          exact ⟨f1, by show _ < (tkB L p).b + _; omega⟩
  · have eL : tkL L p = L := by unfold tkL; rw [if_neg hl]
    have eO : tkO L p = [] := by unfold tkO; rw [if_neg hl]
    refine ⟨?_, ?_, ?_, ?_, ?_, ?_, ?_, ?_⟩
    · rw [eL]; exact Int.le_refl _
    · rw [eL]; exact ho
    · rw [eL]; exact .inl rfl
    · rw [eL]; exact Int.le_refl _
    · exact fun h => absurd h hl
    · rw [eL]; exact ⟨Int.le_refl _, hw⟩
    · rw [eL]; exact fun q hq => .inl hq
    · rw [eO]; intro q hq; simp at hq
/-- What a pair keeps of acknowledgements, and of what has gone out. -/
structure VI (s : Pr) (R : Nat → List Pk) : Prop where
  ak : ∀ j : Nat, j < 2 → ∀ c, ∀ p ∈ R c, p.f = 1 + (j : Int) → p.ak < (s.L j).wn ∧ p.sq < (s.L j).b + ((s.L j).o : Int)
  bw : ∀ i, i < 2 → (s.L i).b ≤ (s.L (1 - i)).wn
  o : ∀ i, i < 2 → (s.L i).o = min 8 (s.L i).q.length
  ek : ∀ i, i < 2 → ∀ q ∈ (s.L (1 - i)).e, q.1 < (s.L i).b + ((s.L i).o : Int)
  wo : ∀ i, i < 2 → (s.L (1 - i)).wn ≤ (s.L i).b + ((s.L i).o : Int)
theorem VI.less {s : Pr} {R R' : Nat → List Pk} (h : VI s R) (hm : ∀ c, ∀ p ∈ R' c, p ∈ R c) : VI s R' := ⟨fun j hj c p hp => h.ak j hj c p (hm c p hp), h.bw, h.o, h.ek, h.wo⟩
theorem VI.out {s : Pr} {R : Nat → List Pk} (h : VI s R) {i : Nat} {O : List Pk} (hO : ∀ p ∈ O, p.f = 1 + (i : Int) ∧ p.ak < (s.L i).wn ∧ p.sq < (s.L i).b + ((s.L i).o : Int)) : VI s (outR R O) := by
  refine ⟨fun j hj c p hp hf => ?_, h.bw, h.o, h.ek, h.wo⟩
  rcases mem_outR O hp with hp | hp
  · exact h.ak j hj c p hp hf
  · obtain ⟨h1, h2⟩ := hO p hp
    obtain rfl : j = i := by omega
    exact h2
theorem VI.doF {f : Int} {s : Pr} {R : Nat → List Pk} {k : Nat} (h : VI s R) (hI : OI f s R) (hp : PI s R k) (kd ad n : Int) (t : ByteArray) : VI (doF s R kd ad n t).2.1 (doF s R kd ad n t).2.2 := by
  have hi : atN ad 2 < 2 := atN_lt ad 2 (by decide)
  unfold Go.Proofs.Ytiejehaaglpkoaa.doF
  dsimp only
  generalize atN ad 2 = i at *
  have hE := hp.en i hi
  have hS := hI.snd i hi
  have ho := h.o i hi
  split
  · split
    · dsimp only
      by_cases he : sndE (s.L i) t = 0
      · have ha := hE.ok.add he
        have eL : sndL (s.L i) t = goL (addQ (s.L i) t) := if_pos he
        have eO : sndO (s.L i) t = pks (addQ (s.L i) t) (s.L i).o (goK (addQ (s.L i) t)) := if_pos he
        rw [if_pos he, eL, eO]
        have hql : (addQ (s.L i) t).q.length = (s.L i).q.length + 1 := by show ((s.L i).q ++ [t]).length = _; simp
        have g := go_o (L := addQ (s.L i) t) (by show (s.L i).o ≤ _; omega)
        have g' : (goL (addQ (s.L i) t)).o = (s.L i).o + goK (addQ (s.L i) t) := rfl
        refine VI.out (s := setS (setL s i (goL (addQ (s.L i) t))) i (s.S i ++ [t])) (i := i) ⟨fun j hj c p hp hf => ?_, fun j hj => ?_, fun j hj => ?_, fun j hj => ?_, fun j hj => ?_⟩ ?_
        · show p.ak < (up s.L i _ j).wn ∧ p.sq < (up s.L i _ j).b + ((up s.L i _ j).o : Int)
          have := h.ak j hj c p hp hf
          by_cases hji : j = i
          · subst hji; rw [up_same]
            refine ⟨this.1, ?_⟩
            show p.sq < (s.L j).b + ((goL (addQ (s.L j) t)).o : Int)
            omega
          · rw [up_other _ _ hji]; exact this
        · show (up s.L i _ j).b ≤ (up s.L i _ (1 - j)).wn
          have := h.bw j hj
          by_cases hji : j = i
          · subst hji; rw [up_same, up_other _ _ (by omega)]; exact this
          · rw [up_other _ _ hji, show 1 - j = i by omega, up_same]
            rw [show 1 - j = i by omega] at this
            exact this
        · show (up s.L i _ j).o = min 8 (up s.L i _ j).q.length
          by_cases hji : j = i
          · subst hji; rw [up_same]; exact g
          · rw [up_other _ _ hji]; exact h.o j hj
        · show ∀ q ∈ (up s.L i _ (1 - j)).e, q.1 < (up s.L i _ j).b + ((up s.L i _ j).o : Int)
          have := h.ek j hj
          by_cases hji : j = i
          · subst hji; rw [up_same, up_other _ _ (by omega)]
            intro q hq
            have := this q hq
            show q.1 < (s.L j).b + ((goL (addQ (s.L j) t)).o : Int)
            omega
          · rw [up_other _ _ hji, show 1 - j = i by omega, up_same]
            rw [show 1 - j = i by omega] at this
            exact this
        · show (up s.L i _ (1 - j)).wn ≤ (up s.L i _ j).b + ((up s.L i _ j).o : Int)
          have := h.wo j hj
          by_cases hji : j = i
          · subst hji; rw [up_same, up_other _ _ (by omega)]
            show _ ≤ (s.L j).b + ((goL (addQ (s.L j) t)).o : Int)
            omega
          · rw [up_other _ _ hji, show 1 - j = i by omega, up_same]
            rw [show 1 - j = i by omega] at this
            exact this
        · intro p hp
          show p.f = _ ∧ p.ak < (up s.L i _ i).wn ∧ p.sq < (up s.L i _ i).b + ((up s.L i _ i).o : Int)
          rw [up_same]
          obtain ⟨f1, f2, -⟩ := pks_facts hp
          have f3 := (OutOk.pks (f := f) (S := s.S i ++ [t]) (L := addQ (s.L i) t) hE.x.1 (hS.add t) (goK_le ha) p hp).1
          refine ⟨f3, ?_, ?_⟩
          · show p.ak < (s.L i).wn
            have f1 : p.ak = (s.L i).wn - 1 := f1
            omega
          · show p.sq < (s.L i).b + ((goL (addQ (s.L i) t)).o : Int)
            have f2 : p.sq < (s.L i).b + (((s.L i).o + goK (addQ (s.L i) t) : Nat) : Int) := f2
            omega
      · have eL : sndL (s.L i) t = s.L i := if_neg he
        have eO : sndO (s.L i) t = [] := if_neg he
        rw [if_neg he, eL, eO]
        have hu : up s.L i (s.L i) = s.L := funext fun j => by
          by_cases hji : j = i
          · subst hji; rw [up_same]
          · rw [up_other _ _ hji]
        have hs : setL s i (s.L i) = s := by unfold setL; rw [hu]
        rw [hs]
        exact h
    · exact h
  split
  · refine h.out (i := i) fun p hp => ?_
    obtain ⟨f1, f2, -⟩ := pks_facts hp
    have f3 := (OutOk.pks (f := f) (S := s.S i) hE.x.1 hS (by have := hE.ok.oq; omega) p hp).1
    exact ⟨f3, by omega, by omega⟩
  split
  · split
    · exact h
    split
    · exact h.less fun c p hp => mem_twiceR hp
    split
    · exact h.less fun c p hp => mem_loseR hp
    split
    · rename_i he
      obtain ⟨g1, g2⟩ := hp.net.taken he
      have hlk := good_look hi hE.x g1 g2
      have hm := mem_takeP he
      generalize takeP R noA (2 - (i : Int)) (1 + (i : Int)) (atN n (R (rix (2 - (i : Int)) (1 + (i : Int)))).length : Int) = p at *
      have hpf : p.f = 1 + ((1 - i : Nat) : Int) := by
        unfold lookE at hlk
        split at hlk
        · rename_i hc
          have := hE.x.2.1
          rw [hc.2.1, this]
          omega
        · cases hlk
      obtain ⟨q1, q2⟩ := h.ak (1 - i) (by omega) _ p hm hpf
      have e1 := h.ek (1 - i) (by omega)
      have e2 := h.wo (1 - i) (by omega)
      rw [show 1 - (1 - i) = i by omega] at e1 e2
      have T := tk_facts hE.ok ho e1 e2 q2
      have hend := (hI.snd (1 - i) (by omega)).end (hp.en (1 - i) (by omega)).ok
      obtain ⟨hR, hst⟩ := hI.rcv i hi
      have t3 := (take_ord hE hS hR hst hend (fun hq => hI.pk (1 - i) (by omega) _ p hm hpf hq)).2.2
      refine VI.out (s := cmS s i p) (i := i) ⟨fun j hj c q hq hf => ?_, fun j hj => ?_, fun j hj => ?_, fun j hj => ?_, fun j hj => ?_⟩ ?_
      · show q.ak < (up s.L i _ j).wn ∧ q.sq < (up s.L i _ j).b + ((up s.L i _ j).o : Int)
        have := h.ak j hj c q (mem_takeR hq) hf
        have := T.w
        have := T.bo
        by_cases hji : j = i
        · subst hji; rw [up_same]; exact ⟨by omega, by omega⟩
        · rw [up_other _ _ hji]; exact h.ak j hj c q (mem_takeR hq) hf
      · show (up s.L i _ j).b ≤ (up s.L i _ (1 - j)).wn
        have := h.bw j hj
        by_cases hji : j = i
        · subst hji; rw [up_same, up_other _ _ (by omega)]
          rcases T.b with hb | hb <;> omega
        · rw [up_other _ _ hji, show 1 - j = i by omega, up_same]
          rw [show 1 - j = i by omega] at this
          have := T.w
          omega
      · show (up s.L i _ j).o = min 8 (up s.L i _ j).q.length
        by_cases hji : j = i
        · subst hji; rw [up_same]; exact T.o
        · rw [up_other _ _ hji]; exact h.o j hj
      · show ∀ q ∈ (up s.L i _ (1 - j)).e, q.1 < (up s.L i _ j).b + ((up s.L i _ j).o : Int)
        have hk := h.ek j hj
        by_cases hji : j = i
        · subst hji; rw [up_same, up_other _ _ (by omega)]
          intro q hq
          have := hk q hq
          have := T.bo
          omega
        · rw [up_other _ _ hji, show 1 - j = i by omega, up_same]
          rw [show 1 - j = i by omega] at hk
          intro q hq
          rcases T.e q hq with h' | h'
          · exact hk q h'
          · rw [h', show j = 1 - i by omega]; exact q2
      · show (up s.L i _ (1 - j)).wn ≤ (up s.L i _ j).b + ((up s.L i _ j).o : Int)
        have := h.wo j hj
        by_cases hji : j = i
        · subst hji; rw [up_same, up_other _ _ (by omega)]
          have := T.bo
          omega
        · rw [up_other _ _ hji, show 1 - j = i by omega, up_same, show j = 1 - i by omega]
          exact T.w.2
      · intro q hq
        show q.f = _ ∧ q.ak < (up s.L i _ i).wn ∧ q.sq < (up s.L i _ i).b + ((up s.L i _ i).o : Int)
        rw [up_same]
        obtain ⟨f1, f2⟩ := T.out q hq
        exact ⟨(t3 q hq).1, by omega, f2⟩
    · exact h
  · exact h
theorem vi_0 (f : Int) : VI (pr0 f) noR := by
  refine ⟨fun j hj c p hp => by simp [noR] at hp, fun i hi => ?_, fun i hi => ?_, fun i hi => ?_, fun i hi => ?_⟩
  all_goals
    match i, hi with
    | 0, _ => simp [pr0, newL, edA, edB]
    | 1, _ => simp [pr0, newL, edA, edB]
end Go.Proofs.Ytiejehaaglpkoaa
