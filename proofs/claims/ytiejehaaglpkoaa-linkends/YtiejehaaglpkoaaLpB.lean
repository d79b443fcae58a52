/- What a pair keeps of the order, deed by deed: plainly. -/
import Derived.Test.YtiejehaaglpkoaaLpA
namespace Go.Proofs.Ytiejehaaglpkoaa
open Go.RowKit Go.ChangeMaps

/-- Packets that an end sends: each text under the number under which it was sent. -/
def OutOk (f : Int) (S : List ByteArray) (i : Nat) (O : List Pk) : Prop := ∀ p ∈ O, p.f = 1 + (i : Int) ∧ (p.sq ≠ 0 → SentAs f S p.sq p.x)
theorem OutOk.pks {f : Int} {S : List ByteArray} {i : Nat} {L : Lk} (hx : L.x.me = 1 + (i : Int)) (h : SI f S L) {o k : Nat} (hk : o + k ≤ L.q.length) : OutOk f S i (pks L o k) := by
  intro p hp
  obtain ⟨j, hj, rfl⟩ := List.mem_map.1 hp
  have hj := List.mem_range.1 hj
  exact ⟨hx, fun _ => h.at (by omega)⟩
theorem mem_sendR {R : Nat → List Pk} {q : Pk} {c : Nat} {p : Pk} (h : p ∈ sendR R q c) : p ∈ R c ∨ p = q := by
  unfold sendR at h
  split at h
  · by_cases hc : c = rix q.f q.t
    · subst hc
      rw [up_same] at h
      rcases List.mem_append.1 h with h | h
      · exact .inl h
      · exact .inr (List.mem_singleton.1 h)
    · rw [up_other _ _ hc] at h
      exact .inl h
  · exact .inl h
theorem mem_outR : ∀ (O : List Pk) {R : Nat → List Pk} {c : Nat} {p : Pk}, p ∈ outR R O c → p ∈ R c ∨ p ∈ O
  | [], R, c, p, h => .inl h
  | q :: O, R, c, p, h => by
    rcases mem_outR O (R := sendR R q) h with h | h
    · rcases mem_sendR h with h | h
      · exact .inl h
      · exact .inr (by rw [h]; exact List.mem_cons_self)
    · exact .inr (List.mem_cons_of_mem _ h)
theorem mem_upTo {R : Nat → List Pk} {c : Nat} {l : List Pk} (hl : ∀ p ∈ l, p ∈ R c) {d : Nat} {p : Pk} (h : p ∈ up R c l d) : p ∈ R d := by
  by_cases hd : d = c
  · subst hd; rw [up_same] at h; exact hl p h
  · rw [up_other _ _ hd] at h; exact h
theorem mem_loseR {R : Nat → List Pk} {f t k : Int} {c : Nat} {p : Pk} (h : p ∈ loseR R f t k c) : p ∈ R c := by
  unfold loseR at h
  split at h
  · exact mem_upTo (fun _ hp => cutP_mem hp) h
  · exact h
theorem mem_takeR {R : Nat → List Pk} {f t k : Int} {c : Nat} {p : Pk} (h : p ∈ takeR R noA f t k c) : p ∈ R c := by
  unfold takeR at h
  split at h
  · exact mem_upTo (fun _ hp => cutP_mem hp) h
  · exact h
theorem mem_twiceR {R : Nat → List Pk} {f t k : Int} {c : Nat} {p : Pk} (h : p ∈ twiceR R f t k c) : p ∈ R c := by
  unfold twiceR at h
  split at h
  · rename_i hl
    have hl1 : lookI R f t k = 0 := by
      unfold twiceE at hl
      split at hl
      · rename_i h1; exact h1
      · rename_i h1; exact absurd hl h1
    obtain ⟨-, j, rfl, hj⟩ := look_ok hl1
    have e : (R (rix f t))[(j : Int).toNat]? = some (R (rix f t))[j] := by rw [Int.toNat_natCast]; exact List.getElem?_eq_getElem hj
    rw [e] at h
    refine mem_upTo (fun q hq => ?_) h
    rcases List.mem_append.1 hq with hq | hq
    · exact hq
    · rw [List.mem_singleton.1 hq]; exact List.getElem_mem hj
  · exact h
theorem mem_takeP {R : Nat → List Pk} {f t k : Int} (he : takeE R noA f t k = 0) : takeP R noA f t k ∈ R (rix f t) := by
  obtain ⟨-, j, rfl, hj⟩ := look_ok (takeE_ok he)
  unfold takeP
  rw [if_pos he]
  have e : (R (rix f t))[(j : Int).toNat]? = some (R (rix f t))[j] := by rw [Int.toNat_natCast]; exact List.getElem?_eq_getElem hj
  rw [e]
  exact List.getElem_mem hj
theorem hnd_b : ∀ (n : Nat) (L : Lk), (hnd n L).2.b = L.b
  | 0, L => rfl
  | n + 1, L => by
    by_cases hw : L.wn < 1099511627775
    · cases h2 : atE L.e L.wn with
      | none => rw [hnd_stop (.inr h2)]
      | some s => rw [hnd_go hw h2]; exact hnd_b n _
    · rw [hnd_stop (.inl hw)]
theorem arr_b (L : Lk) (a : Int) (s : ByteArray) : (arrL L a s).b = L.b := by
  unfold arrL
  split <;> rfl
theorem SI.of {f : Int} {S : List ByteArray} {L L' : Lk} (h : SI f S L) (hb : L'.b = L.b) (hq : L'.q = L.q) : SI f S L' := by
  unfold SI
  rw [hb, hq]
  exact h
theorem RI.of {f : Int} {S G : List ByteArray} {L L' : Lk} (h : RI f S G L) (hw : L'.wn = L.wn) (he : L'.e = L.e) : RI f S G L' :=
  ⟨by rw [hw]; exact h.wn, h.pre, by rw [hw, he]; exact h.e, by rw [he]; exact h.nd⟩
theorem RI.more {f : Int} {S G : List ByteArray} {L : Lk} (h : RI f S G L) (t : ByteArray) : RI f (S ++ [t]) G L :=
  ⟨h.wn, h.pre.trans (List.prefix_append _ _), fun p hp => ⟨(h.e p hp).1.more t, (h.e p hp).2⟩, h.nd⟩
theorem ack_wn (L : Lk) (a : Int) : (ackL L a).wn = L.wn := by
  unfold ackL
  split <;> rfl
/-- What a pair keeps of the order. -/
structure OI (f : Int) (s : Pr) (R : Nat → List Pk) : Prop where
  snd : ∀ i, i < 2 → SI f (s.S i) (s.L i)
  rcv : ∀ i, i < 2 → RI f (s.S (1 - i)) (s.G i) (s.L i) ∧ ∀ p ∈ (s.L i).e, p.1 ≠ (s.L i).wn
  pk : ∀ i : Nat, i < 2 → ∀ c, ∀ p ∈ R c, p.f = 1 + (i : Int) → p.sq ≠ 0 → SentAs f (s.S i) p.sq p.x
theorem OI.less {f : Int} {s : Pr} {R R' : Nat → List Pk} (h : OI f s R) (hm : ∀ c, ∀ p ∈ R' c, p ∈ R c) : OI f s R' := ⟨h.snd, h.rcv, fun i hi c p hp => h.pk i hi c p (hm c p hp)⟩
theorem OI.out {f : Int} {s : Pr} {R : Nat → List Pk} (h : OI f s R) {i : Nat} (hi : i < 2) {O : List Pk} (hO : OutOk f (s.S i) i O) : OI f s (outR R O) := by
  refine ⟨h.snd, h.rcv, fun j hj c p hp hf hq => ?_⟩
  rcases mem_outR O hp with hp | hp
  · exact h.pk j hj c p hp hf hq
  · obtain ⟨h1, h2⟩ := hO p hp
    obtain rfl : j = i := by omega
    exact h2 hq
/-- An end takes a packet. -/
theorem take_ord {f : Int} {S T G : List ByteArray} {i : Nat} {L : Lk} {p : Pk} (hE : EndI i L) (hS : SI f S L) (hR : RI f T G L) (hst : ∀ q ∈ L.e, q.1 ≠ L.wn) (hend : f + (T.length : Int) ≤ 1099511627775) (hp : p.sq ≠ 0 → SentAs f T p.sq p.x) :
    SI f S (tkL L p) ∧ (RI f T (G ++ tkT L p) (tkL L p) ∧ ∀ q ∈ (tkL L p).e, q.1 ≠ (tkL L p).wn) ∧ OutOk f S i (tkO L p) := by
  unfold tkL tkT tkO
  split
  · have hme : L.x.me = 1 + (i : Int) := hE.x.1
    obtain ⟨a1, a2, a3⟩ := ack_keep L p.ak
    have sA := hS.ack hE.ok p.ak
    have rA : RI f T G (tkA L p) := hR.of (ack_wn L p.ak) a3
    have okA := hE.ok.ack p.ak
    split
    · refine ⟨sA, ⟨by rw [List.append_nil]; exact rA.of rfl rfl, ?_⟩, OutOk.pks (by rw [a1]; exact hme) sA (goK_le okA)⟩
      show ∀ q ∈ (tkA L p).e, q.1 ≠ (tkA L p).wn
      rw [a3, show (tkA L p).wn = L.wn from ack_wn L p.ak]
      exact hst
    · rename_i hq
      obtain ⟨b1, b2, -⟩ := arr_keep (tkA L p) p.sq p.x
      obtain ⟨c1, c2, -⟩ := hnd_keep (tkR L p).e.length (tkR L p)
      have rB := hnd_RI hend _ G (tkR L p) (rA.arr (hp hq)) (Nat.le_refl _)
      have sB : SI f S (tkB L p) := sA.of ((hnd_b _ _).trans (arr_b _ _ _)) (c2.trans b2)
      have okB : LkOk (tkB L p) := LkOk.hnd _ (okA.arr _ _)
      have mB : (tkB L p).x.me = 1 + (i : Int) := by rw [show (tkB L p).x = L.x from c1.trans (b1.trans a1)]; exact hme
      refine ⟨sB, ⟨RI.of (L := tkB L p) rB.1 rfl rfl, rB.2⟩, ?_⟩
      split
      · intro q hq
        rw [List.mem_singleton.1 hq]
        exact ⟨mB, fun h => absurd rfl h⟩
      · exact OutOk.pks mB sB (goK_le okB)
  · exact ⟨hS, ⟨by rw [List.append_nil]; exact hR, hst⟩, fun q hq => by simp at hq⟩
theorem OI.doF {f : Int} {s : Pr} {R : Nat → List Pk} {k : Nat} (h : OI f s R) (hp : PI s R k) (kd ad n : Int) (t : ByteArray) : OI f (doF s R kd ad n t).2.1 (doF s R kd ad n t).2.2 := by
  have hi : atN ad 2 < 2 := atN_lt ad 2 (by decide)
  unfold Go.Proofs.Ytiejehaaglpkoaa.doF
  dsimp only
  generalize atN ad 2 = i at *
  have hE := hp.en i hi
  have hS := h.snd i hi
  obtain ⟨hR, hst⟩ := h.rcv i hi
  split
  · split
    · dsimp only
      by_cases he : sndE (s.L i) t = 0
      · have ha := hE.ok.add he
        have sA := hS.add t
        have eL : sndL (s.L i) t = goL (addQ (s.L i) t) := if_pos he
        have eO : sndO (s.L i) t = pks (addQ (s.L i) t) (s.L i).o (goK (addQ (s.L i) t)) := if_pos he
        rw [if_pos he, eL, eO]
        refine OI.out (s := setS (setL s i (goL (addQ (s.L i) t))) i (s.S i ++ [t])) ⟨fun j hj => ?_, fun j hj => ?_, fun j hj c p hp hf hq => ?_⟩ hi ?_
        · show SI f (up s.S i (s.S i ++ [t]) j) (up s.L i (goL (addQ (s.L i) t)) j)
          by_cases hji : j = i
          · subst hji; rw [up_same, up_same]; exact sA
          · rw [up_other _ _ hji, up_other _ _ hji]; exact h.snd j hj
        · show RI f (up s.S i (s.S i ++ [t]) (1 - j)) (s.G j) (up s.L i (goL (addQ (s.L i) t)) j) ∧ ∀ p ∈ (up s.L i (goL (addQ (s.L i) t)) j).e, p.1 ≠ (up s.L i (goL (addQ (s.L i) t)) j).wn
          by_cases hji : j = i
          · subst hji
            rw [up_same, up_other _ _ (by omega)]
            exact ⟨hR.of rfl rfl, hst⟩
          · rw [up_other _ _ hji, show 1 - j = i by omega, up_same]
            obtain ⟨r1, r2⟩ := h.rcv j hj
            rw [show 1 - j = i by omega] at r1
            exact ⟨r1.more t, r2⟩
        · show SentAs f (up s.S i (s.S i ++ [t]) j) p.sq p.x
          by_cases hji : j = i
          · subst hji; rw [up_same]; exact (h.pk j hj c p hp hf hq).more t
          · rw [up_other _ _ hji]; exact h.pk j hj c p hp hf hq
        · show OutOk f (up s.S i (s.S i ++ [t]) i) i _
          rw [up_same]
          exact OutOk.pks (L := addQ (s.L i) t) hE.x.1 sA (goK_le ha)
      · have eL : sndL (s.L i) t = s.L i := if_neg he
        have eO : sndO (s.L i) t = [] := if_neg he
        rw [if_neg he, eL, eO]
        have hu : ∀ j, up s.L i (s.L i) j = s.L j := fun j => by
          by_cases hji : j = i
          · subst hji; rw [up_same]
          · rw [up_other _ _ hji]
        refine ⟨fun j hj => ?_, fun j hj => ?_, fun j hj => h.pk j hj⟩
        · show SI f (s.S j) (up s.L i (s.L i) j)
          rw [hu]; exact h.snd j hj
        · show RI f (s.S (1 - j)) (s.G j) (up s.L i (s.L i) j) ∧ ∀ p ∈ (up s.L i (s.L i) j).e, p.1 ≠ (up s.L i (s.L i) j).wn
          rw [hu]; exact h.rcv j hj
    · exact h
  split
  · exact h.out hi (OutOk.pks hE.x.1 hS (by have := hE.ok.oq; omega))
  split
  · split
    · exact h
    split
    · exact h.less fun c p hp => mem_twiceR hp
    split
    · exact h.less fun c p hp => mem_loseR hp
    split
    · rename_i he
      obtain ⟨g1, g2⟩ := hp.net.taken he
      have hlk := good_look hi hE.x g1 g2
      have hm := mem_takeP he
      generalize takeP R noA (2 - (i : Int)) (1 + (i : Int)) (atN n (R (rix (2 - (i : Int)) (1 + (i : Int)))).length : Int) = p at *
      have hpf : p.f = 1 + ((1 - i : Nat) : Int) := by
        unfold lookE at hlk
        split at hlk
        · rename_i hc
          have := hE.x.2.1
          rw [hc.2.1, this]
          omega
        · cases hlk
      have hend := (h.snd (1 - i) (by omega)).end (hp.en (1 - i) (by omega)).ok
      obtain ⟨t1, t2, t3⟩ := take_ord hE hS hR hst hend (fun hq => h.pk (1 - i) (by omega) _ p hm hpf hq)
      refine OI.out (s := cmS s i p) ⟨fun j hj => ?_, fun j hj => ?_, fun j hj c q hq => h.pk j hj c q (mem_takeR hq)⟩ hi t3
      · show SI f (s.S j) (up s.L i (tkL (s.L i) p) j)
        by_cases hji : j = i
        · subst hji; rw [up_same]; exact t1
        · rw [up_other _ _ hji]; exact h.snd j hj
      · show RI f (s.S (1 - j)) (up s.G i (s.G i ++ tkT (s.L i) p) j) (up s.L i (tkL (s.L i) p) j) ∧ ∀ q ∈ (up s.L i (tkL (s.L i) p) j).e, q.1 ≠ (up s.L i (tkL (s.L i) p) j).wn
        by_cases hji : j = i
        · subst hji; rw [up_same, up_same]; exact t2
        · rw [up_other _ _ hji, up_other _ _ hji]; exact h.rcv j hj
    · exact h
  · exact h
theorem oi_0 (f : Int) : OI f (pr0 f) noR := by
  refine ⟨fun i hi => ?_, fun i hi => ?_, fun i hi c p hp => by simp [noR] at hp⟩
  · match i, hi with
    | 0, _ => exact ⟨0, by simp [pr0, newL, edA], by simp [pr0, newL], Nat.zero_le _⟩
    | 1, _ => exact ⟨0, by simp [pr0, newL, edB], by simp [pr0, newL], Nat.zero_le _⟩
  · match i, hi with
    | 0, _ => exact ⟨⟨by simp [pr0, newL, edA], List.nil_prefix, fun p hp => by simp [pr0, newL] at hp, by simp [pr0, newL]⟩, fun p hp => by simp [pr0, newL] at hp⟩
    | 1, _ => exact ⟨⟨by simp [pr0, newL, edB], List.nil_prefix, fun p hp => by simp [pr0, newL] at hp, by simp [pr0, newL]⟩, fun p hp => by simp [pr0, newL] at hp⟩
/-- A pair behind a deed: what both keep. -/
theorem OI.do {w0 w : World} {P : Nat} {a : Ad} {s : Pr} {ext : List (Tg w0.heap.size)} {R : Nat → List Pk} {k : Nat} {f : Int} (h : PSn w0 P a s ext R w) (hI : PI s R k) (hO : OI f s R) (hk : k ≤ 500) (kd ad n : Int) (t : ByteArray) :
    Calls Try.prog 27 #[.pointer (some ⟨P, 0, none⟩), dV kd ad n t] w fun e w' => e = .returned (.bool true) ∧ ∃ a' s' R', PSn w0 P a' s' ext R' w' ∧ PI s' R' (k + 1) ∧ OI f s' R' := by
  refine (do_any kd ad n t h ?_ hI.net.2 (fun i hi u hu => Nat.le_trans ((hI.en i hi).qz u hu) (by omega)) (fun i hi => by have := hI.S i hi; omega) (fun i hi => by have := hI.G i hi; omega) (fun i hi => by have := hI.G i hi; omega) ?_ (fun i hi k => (hI.net.take _ _ _).2) (fun i hi => (hI.en i hi).ok) (fun i hi => by unfold lenI; rw [if_pos (hop_i hi)])).mono fun e w' hp => ?_
  · exact fun i hi => Nat.le_trans (cnt_one (rix_lt (hop_i hi))) hI.net.2
  · intro i hi k x hx
    subst hx
    obtain ⟨t1, t2, t3⟩ := (hI.en i hi).take hi (takeP R noA (2 - (i : Int)) (1 + (i : Int)) k)
    refine ⟨?_, fun p hp => Nat.le_trans (t3 p hp).2.2.2.2 (by omega), ?_, by have := hI.G i hi; omega⟩
    · by_cases he : takeE R noA (2 - (i : Int)) (1 + (i : Int)) k = 0
      · exact Nat.le_trans (hI.net.taken he).1.2.2.2.2 (by omega)
      · unfold takeP; rw [if_neg he]; decide
    · unfold tkO
      split
      · split
        · rw [pks_len]; unfold goK; omega
        · split
          · simp
          · rw [pks_len]; unfold goK; omega
      · simp
  · obtain ⟨d1, d2⟩ := hI.doF kd ad n t
    obtain ⟨he, a', hp⟩ := hp
    rw [d1] at he
    exact ⟨he, a', _, _, hp, d2, hO.doF hI kd ad n t⟩
end Go.Proofs.Ytiejehaaglpkoaa
