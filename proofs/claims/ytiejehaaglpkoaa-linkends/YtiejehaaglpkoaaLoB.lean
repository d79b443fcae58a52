/- What a pair keeps, deed by deed: plainly. -/
import Derived.Test.YtiejehaaglpkoaaLoA
namespace Go.Proofs.Ytiejehaaglpkoaa
open Go.RowKit Go.ChangeMaps

theorem hnd_keep : ∀ (n : Nat) (L : Lk), (hnd n L).2.x = L.x ∧ (hnd n L).2.q = L.q ∧ (hnd n L).1.length + (hnd n L).2.e.length = L.e.length
  | 0, L => ⟨rfl, rfl, by simp [hnd]⟩
  | n + 1, L => by
    by_cases hw : L.wn < 1099511627775
    · cases h2 : atE L.e L.wn with
      | none => rw [hnd_stop (.inr h2)]; exact ⟨rfl, rfl, by simp⟩
      | some s =>
        rw [hnd_go hw h2]
        obtain ⟨a, b, c⟩ := hnd_keep n ⟨L.x, L.q, L.b, L.o, L.wn + 1, dropE L.e L.wn⟩
        have hl := dropE_len h2
        refine ⟨a, b, ?_⟩
        rw [List.length_cons]
        dsimp only at c ⊢
        omega
    · rw [hnd_stop (.inl hw)]; exact ⟨rfl, rfl, by simp⟩
theorem ack_keep (L : Lk) (a : Int) : (ackL L a).x = L.x ∧ (∀ u ∈ (ackL L a).q, u ∈ L.q) ∧ (ackL L a).e = L.e := by
  unfold ackL
  split
  · exact ⟨rfl, fun u hu => List.mem_of_mem_drop hu, rfl⟩
  · exact ⟨rfl, fun u hu => hu, rfl⟩
theorem arr_keep (L : Lk) (a : Int) (s : ByteArray) : (arrL L a s).x = L.x ∧ (arrL L a s).q = L.q ∧ (arrL L a s).e.length ≤ L.e.length + 1 := by
  unfold arrL
  split
  · exact ⟨rfl, rfl, by simp [setE]⟩
  · exact ⟨rfl, rfl, by omega⟩
theorem goK_le {L : Lk} (h : LkOk L) : L.o + goK L ≤ L.q.length := by
  have := h.oq
  unfold goK; omega
/-- One end, as a pair keeps it: so many texts at most are handed on or early. -/
structure EndI (i : Nat) (L : Lk) : Prop where
  x : EndX i L
  ok : LkOk L
  qz : ∀ u ∈ L.q, u.size ≤ 300
theorem EndI.snd {i : Nat} (hi : i < 2) {L : Lk} (h : EndI i L) {t : ByteArray} (ht : t.size ≤ 300) : EndI i (sndL L t) ∧ (sndL L t).e = L.e ∧ ∀ p ∈ sndO L t, GoodP p := by
  unfold sndL sndO
  split
  · rename_i he
    have hq : ∀ u ∈ (addQ L t).q, u.size ≤ 300 := fun u hu => by
      rcases List.mem_append.1 hu with hu | hu
      · exact h.qz u hu
      · rw [List.mem_singleton.1 hu]; exact ht
    have ha := h.ok.add he
    exact ⟨⟨h.x, ha.go (Nat.le_refl _), hq⟩, rfl, good_pks hi (L := addQ L t) h.x ha hq (goK_le ha)⟩
  · exact ⟨h, rfl, fun p hp => by simp at hp⟩
theorem EndI.tick {i : Nat} (hi : i < 2) {L : Lk} (h : EndI i L) : ∀ p ∈ pks L 0 L.o, GoodP p :=
  good_pks hi h.x h.ok h.qz (by have := h.ok.oq; omega)
theorem EndI.take {i : Nat} (hi : i < 2) {L : Lk} (h : EndI i L) (p : Pk) : EndI i (tkL L p) ∧ (tkT L p).length + (tkL L p).e.length ≤ L.e.length + 1 ∧ ∀ q ∈ tkO L p, GoodP q := by
  obtain ⟨a1, a2, a3⟩ := ack_keep L p.ak
  have hA : EndI i (tkA L p) := ⟨by unfold EndX; rw [a1]; exact h.x, h.ok.ack _, fun u hu => h.qz u (a2 u hu)⟩
  obtain ⟨b1, b2, b3⟩ := arr_keep (tkA L p) p.sq p.x
  obtain ⟨c1, c2, c3⟩ := hnd_keep (tkR L p).e.length (tkR L p)
  have hB : EndI i (tkB L p) := ⟨by unfold EndX; rw [show (tkB L p).x = L.x from c1.trans (b1.trans a1)]; exact h.x, LkOk.hnd _ (hA.ok.arr _ _), fun u hu => hA.qz u (by rw [← b2, ← c2]; exact hu)⟩
  have e1 : (tkA L p).e = L.e := a3
  unfold tkL tkT tkO
  split
  · split
    · exact ⟨⟨hA.x, hA.ok.go (Nat.le_refl _), hA.qz⟩, by show 0 + (tkA L p).e.length ≤ _; rw [e1]; omega, good_pks hi hA.x hA.ok hA.qz (goK_le hA.ok)⟩
    · refine ⟨⟨hB.x, hB.ok.go (Nat.le_refl _), hB.qz⟩, ?_, ?_⟩
      · show (hndT (tkR L p)).length + (tkB L p).e.length ≤ _
        rw [e1] at b3
        have c3 : (hndT (tkR L p)).length + (tkB L p).e.length = (tkR L p).e.length := c3
        have b3 : (tkR L p).e.length ≤ L.e.length + 1 := b3
        omega
      · split
        · intro q hq
          rw [List.mem_singleton.1 hq]
          exact good_pkL hi hB.x hB.ok (by omega) (by omega) (by decide) (.inl rfl)
        · exact good_pks hi hB.x hB.ok hB.qz (goK_le hB.ok)
  · exact ⟨h, by simp, fun q hq => by simp at hq⟩
/-- A pair behind k deeds. -/
structure PI (s : Pr) (R : Nat → List Pk) (k : Nat) : Prop where
  net : GoodR R
  en : ∀ i, i < 2 → EndI i (s.L i)
  S : ∀ i, i < 2 → (s.S i).length ≤ k
  G : ∀ i, i < 2 → (s.G i).length + (s.L i).e.length ≤ k
theorem PI.more {s : Pr} {R : Nat → List Pk} {k : Nat} (h : PI s R k) {R' : Nat → List Pk} (hr : GoodR R') : PI s R' (k + 1) :=
  ⟨hr, h.en, fun i hi => Nat.le_succ_of_le (h.S i hi), fun i hi => Nat.le_succ_of_le (h.G i hi)⟩
theorem PI.doF {s : Pr} {R : Nat → List Pk} {k : Nat} (h : PI s R k) (kd ad n : Int) (t : ByteArray) : (doF s R kd ad n t).1 = true ∧ PI (doF s R kd ad n t).2.1 (doF s R kd ad n t).2.2 (k + 1) := by
  have hi : atN ad 2 < 2 := atN_lt ad 2 (by decide)
  unfold Go.Proofs.Ytiejehaaglpkoaa.doF
  dsimp only
  generalize atN ad 2 = i at *
  have hE := h.en i hi
  split
  · split
    · rename_i ht
      obtain ⟨s1, s2, s3⟩ := hE.snd hi ht
      refine ⟨rfl, ?_⟩
      have hL : ∀ j, j < 2 → EndI j (up s.L i (sndL (s.L i) t) j) := fun j hj => by
        by_cases hji : j = i
        · subst hji; rw [up_same]; exact s1
        · rw [up_other _ _ hji]; exact h.en j hj
      have hG : ∀ j, j < 2 → (s.G j).length + (up s.L i (sndL (s.L i) t) j).e.length ≤ k + 1 := fun j hj => by
        by_cases hji : j = i
        · subst hji; rw [up_same, s2]; have := h.G j hj; omega
        · rw [up_other _ _ hji]; have := h.G j hj; omega
      dsimp only
      split
      · refine ⟨h.net.out s3, hL, fun j hj => ?_, hG⟩
        show (up s.S i (s.S i ++ [t]) j).length ≤ k + 1
        by_cases hji : j = i
        · subst hji; rw [up_same, List.length_append, List.length_singleton]; have := h.S j hj; omega
        · rw [up_other _ _ hji]; have := h.S j hj; omega
      · exact ⟨h.net.out s3, hL, fun j hj => Nat.le_succ_of_le (h.S j hj), hG⟩
    · exact ⟨rfl, h.more h.net⟩
  split
  · exact ⟨rfl, h.more (h.net.out (hE.tick hi))⟩
  split
  · split
    · exact ⟨rfl, h.more h.net⟩
    split
    · exact ⟨rfl, h.more (h.net.twice _ _ _)⟩
    split
    · exact ⟨rfl, h.more (h.net.lose _ _ _)⟩
    split
    · rename_i he
      obtain ⟨g1, g2⟩ := h.net.taken he
      have hlk := good_look hi hE.x g1 g2
      obtain ⟨t1, t2, t3⟩ := hE.take hi (takeP R noA (2 - (i : Int)) (1 + (i : Int)) (atN n (R (rix (2 - (i : Int)) (1 + (i : Int)))).length : Int))
      generalize takeP R noA (2 - (i : Int)) (1 + (i : Int)) (atN n (R (rix (2 - (i : Int)) (1 + (i : Int)))).length : Int) = p at *
      refine ⟨by simp [hlk], (h.net.take _ _ _).out t3, fun j hj => ?_, fun j hj => Nat.le_succ_of_le (h.S j hj), fun j hj => ?_⟩
      · show EndI j (up s.L i (tkL (s.L i) p) j)
        by_cases hji : j = i
        · subst hji; rw [up_same]; exact t1
        · rw [up_other _ _ hji]; exact h.en j hj
      · show (up s.G i (s.G i ++ tkT (s.L i) p) j).length + (up s.L i (tkL (s.L i) p) j).e.length ≤ k + 1
        by_cases hji : j = i
        · subst hji; rw [up_same, up_same, List.length_append]; have := h.G j hj; omega
        · rw [up_other _ _ hji, up_other _ _ hji]; have := h.G j hj; omega
    · exact ⟨rfl, h.more h.net⟩
  · exact ⟨rfl, h.more h.net⟩
end Go.Proofs.Ytiejehaaglpkoaa
