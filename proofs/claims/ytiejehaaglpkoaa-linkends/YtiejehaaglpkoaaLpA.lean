/- What one end hands on is a beginning of what the other one sent: plainly. -/
import Derived.Test.YtiejehaaglpkoaaLoC
namespace Go.Proofs.Ytiejehaaglpkoaa
open Go.RowKit Go.ChangeMaps

/-- A text that was sent under a number. -/
def SentAs (f : Int) (S : List ByteArray) (k : Int) (t : ByteArray) : Prop := ∃ n : Nat, k = f + (n : Int) ∧ S[n]? = some t
theorem SentAs.more {f : Int} {S : List ByteArray} {k : Int} {t : ByteArray} (h : SentAs f S k t) (u : ByteArray) : SentAs f (S ++ [u]) k t := by
  obtain ⟨n, h1, h2⟩ := h
  refine ⟨n, h1, ?_⟩
  rw [List.getElem?_append_left (List.getElem?_eq_some_iff.1 h2).1]
  exact h2
theorem SentAs.lt {f : Int} {S : List ByteArray} {k : Int} {t : ByteArray} (h : SentAs f S k t) : f ≤ k ∧ k < f + (S.length : Int) := by
  obtain ⟨n, h1, h2⟩ := h
  have := (List.getElem?_eq_some_iff.1 h2).1
  omega
/-- What an end that takes has of what the other one sent. -/
structure RI (f : Int) (S G : List ByteArray) (L : Lk) : Prop where
  wn : L.wn = f + (G.length : Int)
  pre : G <+: S
  e : ∀ p ∈ L.e, SentAs f S p.1 p.2 ∧ L.wn ≤ p.1 ∧ p.1 < L.wn + 8
  nd : (L.e.map (·.1)).Nodup
/-- What an end that sends has of what it sent. -/
def SI (f : Int) (S : List ByteArray) (L : Lk) : Prop := ∃ A : Nat, L.b = f + (A : Int) ∧ L.q = S.drop A ∧ A ≤ S.length
theorem SI.at {f : Int} {S : List ByteArray} {L : Lk} (h : SI f S L) {j : Nat} (hj : j < L.q.length) : SentAs f S (L.b + (j : Int)) (L.q.getD j ⟨#[]⟩) := by
  obtain ⟨A, h1, h2, h3⟩ := h
  refine ⟨A + j, by omega, ?_⟩
  rw [List.getD_eq_getElem?_getD, List.getElem?_eq_getElem hj, Option.getD_some]
  have : (S.drop A)[j]? = some (L.q[j]) := by rw [← h2]; exact List.getElem?_eq_getElem hj
  rw [List.getElem?_drop] at this
  exact this
theorem SI.end {f : Int} {S : List ByteArray} {L : Lk} (h : SI f S L) (ok : LkOk L) : f + (S.length : Int) ≤ 1099511627775 := by
  obtain ⟨A, h1, h2, h3⟩ := h
  have b1 := ok.b1
  have : L.q.length = S.length - A := by rw [h2, List.length_drop]
  omega
theorem SI.add {f : Int} {S : List ByteArray} {L : Lk} (h : SI f S L) (t : ByteArray) : SI f (S ++ [t]) (addQ L t) := by
  obtain ⟨A, h1, h2, h3⟩ := h
  refine ⟨A, h1, ?_, by rw [List.length_append]; omega⟩
  show L.q ++ [t] = _
  rw [h2, List.drop_append_of_le_length h3]
theorem SI.ack {f : Int} {S : List ByteArray} {L : Lk} (h : SI f S L) (ok : LkOk L) (a : Int) : SI f S (ackL L a) := by
  unfold ackL
  split
  · rename_i hb
    obtain ⟨A, h1, h2, h3⟩ := h
    obtain ⟨b1, b2⟩ := hb
    have oq := ok.oq
    have hl : L.q.length = S.length - A := by rw [h2, List.length_drop]
    refine ⟨A + ackN L a, ?_, ?_, ?_⟩
    · show a + 1 = _
      unfold ackN; omega
    · show L.q.drop _ = _
      rw [h2, List.drop_drop]
    · unfold ackN; omega
  · exact h
theorem atE_none {E : List (Int × ByteArray)} {k : Int} (h : atE E k = none) : ∀ p ∈ E, p.1 ≠ k := by
  intro p hp he
  unfold atE at h
  rw [Option.map_eq_none_iff, List.find?_eq_none] at h
  exact h p hp (by simp [he])
theorem atE_mem {E : List (Int × ByteArray)} {k : Int} {s : ByteArray} (h : atE E k = some s) : (k, s) ∈ E := by
  unfold atE at h
  obtain ⟨p, hp, he⟩ := Option.map_eq_some_iff.1 h
  have h1 := List.mem_of_find?_eq_some hp
  have h2 := List.find?_some hp
  have : p = (k, s) := by
    obtain ⟨a, b⟩ := p
    simp at h2 he
    rw [h2, he]
  rw [← this]; exact h1
theorem dropE_facts (k : Int) : ∀ (E : List (Int × ByteArray)), (E.map (·.1)).Nodup → (∀ p ∈ dropE E k, p ∈ E ∧ p.1 ≠ k) ∧ ((dropE E k).map (·.1)).Nodup
  | [], _ => ⟨fun p hp => by simp [dropE] at hp, by simp [dropE]⟩
  | q :: E, h => by
    rw [List.map_cons, List.nodup_cons] at h
    obtain ⟨h1, h2⟩ := h
    obtain ⟨a, b⟩ := dropE_facts k E h2
    by_cases hq : q.1 = k
    · have e : dropE (q :: E) k = E := by simp [dropE, hq]
      rw [e]
      refine ⟨fun p hp => ⟨List.mem_cons_of_mem _ hp, fun he => h1 ?_⟩, h2⟩
      rw [hq, ← he]
      exact List.mem_map_of_mem hp
    · have e : dropE (q :: E) k = q :: dropE E k := by simp [dropE, hq]
      rw [e]
      refine ⟨fun p hp => ?_, ?_⟩
      · rcases List.mem_cons.1 hp with rfl | hp
        · exact ⟨List.mem_cons_self, hq⟩
        · exact ⟨List.mem_cons_of_mem _ (a p hp).1, (a p hp).2⟩
      · rw [List.map_cons, List.nodup_cons]
        refine ⟨fun hm => h1 ?_, b⟩
        obtain ⟨p, hp, he⟩ := List.mem_map.1 hm
        rw [← he]
        exact List.mem_map_of_mem (a p hp).1
theorem RI.arr {f : Int} {S G : List ByteArray} {L : Lk} (h : RI f S G L) {sq : Int} {x : ByteArray} (hs : SentAs f S sq x) : RI f S G (arrL L sq x) := by
  unfold arrL
  split
  · rename_i hc
    refine ⟨h.wn, h.pre, fun p hp => ?_, ?_⟩
    · rcases List.mem_append.1 hp with hp | hp
      · exact h.e p hp
      · rw [List.mem_singleton.1 hp]; exact ⟨hs, hc.1⟩
    · show ((L.e ++ [(sq, x)]).map (·.1)).Nodup
      rw [List.map_append, List.nodup_append]
      refine ⟨h.nd, by simp, fun a ha b hb => ?_⟩
      obtain ⟨p, hp, he⟩ := List.mem_map.1 ha
      simp at hb
      rw [hb, ← he]
      exact atE_none hc.2 p hp
  · exact h
theorem hnd_RI {f : Int} {S : List ByteArray} (hend : f + (S.length : Int) ≤ 1099511627775) : ∀ (n : Nat) (G : List ByteArray) (L : Lk), RI f S G L → L.e.length ≤ n → RI f S (G ++ (hnd n L).1) (hnd n L).2 ∧ ∀ p ∈ (hnd n L).2.e, p.1 ≠ (hnd n L).2.wn
  | 0, G, L, h, hl => by
    refine ⟨by simpa [hnd] using h, fun p hp => ?_⟩
    have : L.e = [] := List.length_eq_zero_iff.1 (by omega)
    simp [hnd, this] at hp
  | n + 1, G, L, h, hl => by
    by_cases hw : L.wn < 1099511627775
    · cases h2 : atE L.e L.wn with
      | none =>
        rw [hnd_stop (.inr h2)]
        exact ⟨by simpa using h, atE_none h2⟩
      | some s =>
        have hm := atE_mem h2
        obtain ⟨m, hm1, hm2⟩ := (h.e _ hm).1
        have hwn := h.wn
        have hmG : m = G.length := by dsimp only at hm1; omega
        obtain ⟨a, b⟩ := dropE_facts L.wn L.e h.nd
        have hlen := dropE_len h2
        have h' : RI f S (G ++ [s]) ⟨L.x, L.q, L.b, L.o, L.wn + 1, dropE L.e L.wn⟩ := by
          refine ⟨by show L.wn + 1 = _; rw [List.length_append, List.length_singleton]; omega, ?_, fun p hp => ?_, b⟩
          · obtain ⟨r, hr⟩ := h.pre
            rw [← hr, hmG, List.getElem?_append_right (Nat.le_refl _), Nat.sub_self] at hm2
            cases r with
            | nil => simp at hm2
            | cons y r =>
              simp at hm2
              refine ⟨r, ?_⟩
              rw [← hr, ← hm2]; simp
          · have := h.e p (a p hp).1
            have := (a p hp).2
            refine ⟨(h.e p (a p hp).1).1, ?_, ?_⟩
            · show L.wn + 1 ≤ p.1; omega
            · show p.1 < L.wn + 1 + 8; omega
        rw [hnd_go hw h2]
        have := hnd_RI hend n (G ++ [s]) _ h' (by show (dropE L.e L.wn).length ≤ n; omega)
        simpa using this
    · rw [hnd_stop (.inl hw)]
      refine ⟨by simpa using h, fun p hp he => ?_⟩
      have := (h.e p hp).1.lt
      have he : p.1 = L.wn := he
      omega
theorem nodup_lt : ∀ (n : Nat) (l : List Nat), l.Nodup → (∀ x ∈ l, x < n) → l.length ≤ n
  | 0, l, _, h => by
    cases l with
    | nil => exact Nat.le_refl _
    | cons a l => have := h a List.mem_cons_self; omega
  | n + 1, l, hd, h => by
    by_cases hm : n ∈ l
    · have h1 := List.length_erase_of_mem hm
      have h2 := nodup_lt n (l.erase n) (hd.erase n) fun x hx => by
        have h3 := (List.Nodup.mem_erase_iff hd).1 hx
        have := h x h3.2
        have := h3.1
        omega
      have : 0 < l.length := List.length_pos_of_mem hm
      omega
    · have := nodup_lt n l hd fun x hx => by
        have := h x hx
        have : x ≠ n := fun e => hm (e ▸ hx)
        omega
      omega
theorem RI.early {f : Int} {S G : List ByteArray} {L : Lk} (h : RI f S G L) (hs : ∀ p ∈ L.e, p.1 ≠ L.wn) : L.e.length ≤ 7 := by
  have hn : (L.e.map fun p => (p.1 - L.wn - 1).toNat).Nodup := by
    have e : (L.e.map fun p => (p.1 - L.wn - 1).toNat) = (L.e.map (·.1)).map fun k => (k - L.wn - 1).toNat := by rw [List.map_map]; rfl
    rw [e, List.Nodup, List.pairwise_map]
    refine List.Pairwise.imp_of_mem ?_ h.nd
    intro a b ha hb hab
    obtain ⟨p, hp, rfl⟩ := List.mem_map.1 ha
    obtain ⟨q, hq, rfl⟩ := List.mem_map.1 hb
    have := h.e p hp
    have := h.e q hq
    have := hs p hp
    have := hs q hq
    intro e
    exact hab (by omega)
  have := nodup_lt 7 _ hn fun x hx => by
    obtain ⟨p, hp, rfl⟩ := List.mem_map.1 hx
    have := h.e p hp
    have := hs p hp
    omega
  simpa using this
end Go.Proofs.Ytiejehaaglpkoaa
