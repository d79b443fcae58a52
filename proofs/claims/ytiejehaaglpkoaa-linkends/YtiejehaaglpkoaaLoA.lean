/- What packets of a pair are under way: plainly. -/
import Derived.Test.YtiejehaaglpkoaaLnZ
namespace Go.Proofs.Ytiejehaaglpkoaa
open Go.RowKit Go.ChangeMaps

/-- A packet that one of the two ends made. -/
def GoodP (p : Pk) : Prop := chkP p = true ∧ ((p.f = 1 ∧ p.t = 2) ∨ (p.f = 2 ∧ p.t = 1)) ∧ p.fl = 1 ∧ p.tl = 1 ∧ p.x.size ≤ 300
/-- All that is under way was made by one of them, and lies at its hop; and there are not too many. -/
def GoodR (R : Nat → List Pk) : Prop := (∀ c, ∀ p ∈ R c, GoodP p ∧ rix p.f p.t = c) ∧ cntN R 256 ≤ 400
theorem cnt_noR : ∀ n, cntN noR n = 0
  | 0 => rfl
  | n + 1 => by rw [cntN, cnt_noR n]; rfl
theorem goodR_no : GoodR noR := ⟨fun c p hp => by simp [noR] at hp, by rw [cnt_noR]; omega⟩
theorem GoodR.send {R : Nat → List Pk} (h : GoodR R) {p : Pk} (hp : GoodP p) : GoodR (sendR R p) := by
  refine ⟨fun c q hq => ?_, cnt_send p h.2⟩
  unfold sendR at hq
  split at hq
  · by_cases hc : c = rix p.f p.t
    · subst hc
      rw [up_same] at hq
      rcases List.mem_append.1 hq with hq | hq
      · exact h.1 _ q hq
      · rw [List.mem_singleton.1 hq]; exact ⟨hp, rfl⟩
    · rw [up_other _ _ hc] at hq
      exact h.1 c q hq
  · exact h.1 c q hq
theorem GoodR.out {R : Nat → List Pk} (h : GoodR R) {O : List Pk} (hO : ∀ p ∈ O, GoodP p) : GoodR (outR R O) := by
  unfold outR
  induction O generalizing R with
  | nil => exact h
  | cons p l ih => exact ih (h.send (hO p (by simp))) fun q hq => hO q (by simp [hq])
theorem cutP_mem {l : List Pk} {i : Nat} {p : Pk} (h : p ∈ cutP l i) : p ∈ l := by
  rcases List.mem_append.1 h with h | h
  · exact List.mem_of_mem_take h
  · exact List.mem_of_mem_drop h
theorem GoodR.upTo {R : Nat → List Pk} (h : GoodR R) {c : Nat} {l : List Pk} (hl : ∀ p ∈ l, p ∈ R c) : ∀ d, ∀ p ∈ up R c l d, GoodP p ∧ rix p.f p.t = d := by
  intro d p hp
  by_cases hd : d = c
  · subst hd; rw [up_same] at hp; exact h.1 _ p (hl p hp)
  · rw [up_other _ _ hd] at hp; exact h.1 d p hp
theorem rix_lt {f t : Int} (h : hopB f t = true) : rix f t < 256 := by
  obtain ⟨a, b, ha, hb, h1, h2, h3, h4, h5⟩ := hop_nat h
  rw [ha, hb, rix_nat]; omega
theorem cutP_len {l : List Pk} {i : Nat} : (cutP l i).length ≤ l.length := by
  unfold cutP
  rw [List.length_append, List.length_take, List.length_drop]; omega
theorem cnt_cut {R : Nat → List Pk} {c : Nat} (hc : c < 256) (i : Nat) : cntN (up R c (cutP (R c) i)) 256 ≤ cntN R 256 := by
  have hu := cntN_up R c (cutP (R c) i) 256 hc
  have := cutP_len (l := R c) (i := i)
  omega
theorem GoodR.lose {R : Nat → List Pk} (h : GoodR R) (f t k : Int) : GoodR (loseR R f t k) := by
  unfold loseR
  split
  · rename_i hl
    exact ⟨h.upTo fun p hp => cutP_mem hp, Nat.le_trans (cnt_cut (rix_lt (look_ok hl).1) _) h.2⟩
  · exact h
theorem takeE_ok {R : Nat → List Pk} {f t k : Int} (h : takeE R noA f t k = 0) : lookI R f t k = 0 := by
  unfold takeE at h
  split at h
  · rename_i hl; exact hl
  · exact h
theorem GoodR.take {R : Nat → List Pk} (h : GoodR R) (f t k : Int) : GoodR (takeR R noA f t k) := by
  unfold takeR
  split
  · rename_i hl
    exact ⟨h.upTo fun p hp => cutP_mem hp, Nat.le_trans (cnt_cut (rix_lt (look_ok (takeE_ok hl)).1) _) h.2⟩
  · exact h
theorem GoodR.taken {R : Nat → List Pk} (h : GoodR R) {f t k : Int} (he : takeE R noA f t k = 0) : GoodP (takeP R noA f t k) ∧ rix (takeP R noA f t k).f (takeP R noA f t k).t = rix f t := by
  obtain ⟨-, j, rfl, hj⟩ := look_ok (takeE_ok he)
  unfold takeP
  rw [if_pos he]
  have e : (R (rix f t))[(j : Int).toNat]? = some (R (rix f t))[j] := by rw [Int.toNat_natCast]; exact List.getElem?_eq_getElem hj
  rw [e]
  exact h.1 _ _ (List.getElem_mem hj)
theorem GoodR.twice {R : Nat → List Pk} (h : GoodR R) (f t k : Int) : GoodR (twiceR R f t k) := by
  unfold twiceR
  split
  · rename_i hl
    have hlc : lookI R f t k = 0 ∧ cntN R 256 < 400 := by
      unfold twiceE at hl
      split at hl
      · rename_i h1
        split at hl
        · rename_i h2; exact ⟨h1, h2⟩
        · cases hl
      · rename_i h1; exact absurd hl h1
    obtain ⟨hh, j, rfl, hj⟩ := look_ok hlc.1
    have e : (R (rix f t))[(j : Int).toNat]? = some (R (rix f t))[j] := by rw [Int.toNat_natCast]; exact List.getElem?_eq_getElem hj
    rw [e]
    refine ⟨h.upTo fun p hp => ?_, ?_⟩
    · rcases List.mem_append.1 hp with hp | hp
      · exact hp
      · rw [List.mem_singleton.1 hp]; exact List.getElem_mem hj
    · have hu := cntN_up R (rix f t) (R (rix f t) ++ [(R (rix f t))[j]]) 256 (rix_lt hh)
      rw [List.length_append, List.length_singleton] at hu
      have := hlc.2
      show cntN (up R (rix f t) (R (rix f t) ++ [(R (rix f t))[j]])) 256 ≤ 400
      omega
  · exact h
/-- One of the two ends of a pair whose lives are 1. -/
def EndX (i : Nat) (L : Lk) : Prop := L.x.me = 1 + (i : Int) ∧ L.x.pe = 2 - (i : Int) ∧ L.x.lf = 1 ∧ L.x.pl = 1
theorem good_pkL {i : Nat} (hi : i < 2) {L : Lk} (hx : EndX i L) (ok : LkOk L) {sq : Int} {s : ByteArray} (h0 : 0 ≤ sq) (h1 : sq ≤ 1099511627775) (hs : s.size ≤ 300) (hz : s.size = 0 ∨ sq ≠ 0) : GoodP (pkL L sq s) := by
  obtain ⟨a, b, c, d⟩ := hx
  have w0 := ok.w0; have w1 := ok.w1
  unfold GoodP pkL
  dsimp only
  rw [a, b, c, d]
  refine ⟨?_, by omega, rfl, rfl, hs⟩
  simp only [chkP, nodeB, cntB, seqB, Bool.and_eq_true, Bool.or_eq_true, decide_eq_true_eq, Bool.not_eq_true', decide_eq_false_iff_not]
  refine ⟨⟨by omega, by omega⟩, ⟨by omega, by omega⟩, by omega, ⟨by omega, by omega⟩, ⟨by omega, by omega⟩, ⟨h0, h1⟩, ⟨by omega, by omega⟩, by omega, ?_⟩
  rcases hz with hz | hz
  · exact .inl hz
  · exact .inr hz
theorem good_pks {i : Nat} (hi : i < 2) {L : Lk} (hx : EndX i L) (ok : LkOk L) (hq : ∀ u ∈ L.q, u.size ≤ 300) {o k : Nat} (hk : o + k ≤ L.q.length) : ∀ p ∈ pks L o k, GoodP p := by
  intro p hp
  obtain ⟨j, hj, rfl⟩ := List.mem_map.1 hp
  have hj := List.mem_range.1 hj
  have b0 := ok.b0; have b1 := ok.b1
  refine good_pkL hi hx ok (by omega) (by omega) ?_ (.inr (by omega))
  rw [List.getD_eq_getElem?_getD, List.getElem?_eq_getElem (by omega)]
  exact hq _ (List.getElem_mem _)
/-- Each end takes what comes to it. -/
theorem good_look {i : Nat} (hi : i < 2) {L : Lk} (hx : EndX i L) {p : Pk} (hp : GoodP p) (hr : rix p.f p.t = rix (2 - (i : Int)) (1 + (i : Int))) : lookE L p = 0 := by
  obtain ⟨a, b, c, d⟩ := hx
  obtain ⟨h1, h2, h3, h4, -⟩ := hp
  have hft : p.f = 2 - (i : Int) ∧ p.t = 1 + (i : Int) := by
    unfold rix at hr
    rcases h2 with ⟨e1, e2⟩ | ⟨e1, e2⟩ <;> rw [e1, e2] at hr ⊢ <;> omega
  unfold lookE
  rw [if_pos ⟨h1, by rw [b]; exact hft.1, by rw [a]; exact hft.2⟩, if_pos ⟨by rw [h3, d], by rw [h4, c]⟩]
end Go.Proofs.Ytiejehaaglpkoaa
