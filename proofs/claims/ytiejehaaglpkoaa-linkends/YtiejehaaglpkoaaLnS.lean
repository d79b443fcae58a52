/- LinkFull: for every input the law returns true. -/
import Derived.Test.YtiejehaaglpkoaaLnR
namespace Go.Proofs.Ytiejehaaglpkoaa
open Go.RowKit Go.ChangeMaps

theorem St.app {w0 w w' : World} {l : List (Tg w0.heap.size)} {v v' : Value} {O O' : List Pk} (h : St w0 (pkT _ v O :: l) w) (ho : OwnW w' w0.heap.size v' O') (hg : w.grownBy w' v.ownBlock) (hat : v'.ownBlock = v.ownBlock ∨ v'.ownBlock = some w.heap.size) : St w0 (pkT _ v' O' :: l) w' := by
  refine h.step (t' := pkT _ v' O') ⟨hg.os, hg.tape, hg.output, hg.size, fun k hk hn => hg.block k hk fun e => hn e.symm, fun k hf => ?_⟩ ho
  rcases hat with h1 | h1
  · exact .inl (h1.symm.trans hf)
  · have : some w.heap.size = some k := h1.symm.trans hf
    cases this; exact .inr (Nat.le_refl _)
theorem St.appS {w0 w w' : World} {l : List (Tg w0.heap.size)} {v v' : Value} {O O' : List ByteArray} (h : St w0 (strT _ v O :: l) w) (ho : w'.ownsRow w0.heap.size 9 1 v' O'.length (O'.map .string)) (hg : w.grownBy w' v.ownBlock) (hat : v'.ownBlock = v.ownBlock ∨ v'.ownBlock = some w.heap.size) : St w0 (strT _ v' O' :: l) w' := by
  refine h.step (t' := strT _ v' O') ⟨hg.os, hg.tape, hg.output, hg.size, fun k hk hn => hg.block k hk fun e => hn e.symm, fun k hf => ?_⟩ ho
  rcases hat with h1 | h1
  · exact .inl (h1.symm.trans hf)
  · have : some w.heap.size = some k := h1.symm.trans hf
    cases this; exact .inr (Nat.le_refl _)
/-- A packet of a row, cell by cell. -/
theorem OwnW.atj {w : World} {base b n cap : Nat} {l : List Pk} (h : OwnW w base (.slice (some ⟨b, 0, none⟩) n cap) l) (j : Nat) (hj : j < l.length) : w.cell? ⟨b, j * 7, none⟩ = some (.int .i64 l[j].f) ∧ w.cell? ⟨b, j * 7 + 1, none⟩ = some (.int .i64 l[j].t) ∧ w.cell? ⟨b, j * 7 + 2, none⟩ = some (.int .i64 l[j].fl) ∧ w.cell? ⟨b, j * 7 + 3, none⟩ = some (.int .i64 l[j].tl) ∧ w.cell? ⟨b, j * 7 + 4, none⟩ = some (.int .i64 l[j].sq) ∧ w.cell? ⟨b, j * 7 + 5, none⟩ = some (.int .i64 l[j].ak) ∧ w.cell? ⟨b, j * 7 + 6, none⟩ = some (.string l[j].x) := by
  rcases h with ⟨h, _⟩ | ⟨g, cap', cur, e, hb, hg, hc, hm, hs, ht⟩
  · cases h
  cases e
  have hcell : ∀ i, i < 7 → w.cell? ⟨b, j * 7 + i, none⟩ = (enP l[j])[i]? := fun i hi => by
    have e := pCells_get l j hj i hi
    rw [cell_of_row w b _ cur _ (0, 0) hg, ← e, ← ht, List.getElem?_take, if_pos (by omega)]
    simp
  exact ⟨hcell 0 (by omega), hcell 1 (by omega), hcell 2 (by omega), hcell 3 (by omega), hcell 4 (by omega), hcell 5 (by omega), hcell 6 (by omega)⟩
abbrev x120 : ByteArray := ⟨#[120]⟩
/-- The sender, with so many texts from a number on; the receiver. -/
def fa (b n : Nat) : Lk := ⟨⟨1, 1, 2, 1, 1⟩, List.replicate n x120, b, min 8 n, 1, []⟩
def fb (i : Nat) : Lk := ⟨⟨2, 1, 1, 1, 1⟩, [], 1, 0, 1 + (i : Int), []⟩
def fp1 (i : Nat) : Pk := ⟨1, 2, 1, 1, 1 + (i : Int), 0, x120⟩
def fq1 (i : Nat) : Pk := ⟨2, 1, 1, 1, 0, 1 + (i : Int), ⟨#[]⟩⟩
def ff (k : Nat) : List Pk := (List.range (min k 8)).map fp1
theorem fa0 : A0 = fa 1 0 := rfl
theorem fb0 : B0 = fb 0 := rfl
theorem fa_ok (b n : Nat) (hb : 1 ≤ b) (hb2 : b ≤ 1000) (hn : n ≤ 64) : LkOk (fa b n) := by
  have e : (fa b n).q.length = n := by simp [fa]
  exact ⟨by show (1 : Int) ≤ b; omega, by rw [e]; show (b : Int) + n ≤ _; omega, by show min 8 n ≤ 8; omega, by rw [e]; show min 8 n ≤ n; omega, by rw [e]; exact hn, by show (1 : Int) ≤ 1; decide, by show (1 : Int) ≤ 1099511627775; decide⟩
theorem fb_ok (i : Nat) (hi : i ≤ 1000) : LkOk (fb i) := ⟨by show (1 : Int) ≤ 1; decide, by show (1 : Int) + 0 ≤ 1099511627775; decide, by show 0 ≤ 8; decide, by show 0 ≤ 0; decide, by show 0 ≤ 64; decide, by show (1 : Int) ≤ 1 + i; omega, by show 1 + (i : Int) ≤ _; omega⟩
theorem rep_snoc (n : Nat) : List.replicate n x120 ++ [x120] = List.replicate (n + 1) x120 := by
  rw [List.replicate_succ']
theorem fa_send (n : Nat) (hn : n < 64) : sndE (fa 1 n) x120 = 0 ∧ sndL (fa 1 n) x120 = fa 1 (n + 1) ∧ sndO (fa 1 n) x120 = if n < 8 then [fp1 n] else [] := by
  have e : (fa 1 n).q.length = n := by simp [fa]
  have h0 : sndE (fa 1 n) x120 = 0 := by
    unfold sndE
    rw [if_neg (by decide), e, if_neg (by show ¬ 1099511627774 < (1 : Int) + n; omega), if_neg (by omega)]
  have hq : addQ (fa 1 n) x120 = ⟨⟨1, 1, 2, 1, 1⟩, List.replicate (n + 1) x120, 1, min 8 n, 1, []⟩ := by
    show (⟨_, List.replicate n x120 ++ [x120], _, _, _, _⟩ : Lk) = _
    rw [rep_snoc]; rfl
  have hk : goK (addQ (fa 1 n) x120) = if n < 8 then 1 else 0 := by
    rw [hq]; unfold goK
    dsimp only
    rw [List.length_replicate]
    split <;> omega
  refine ⟨h0, ?_, ?_⟩
  · unfold sndL
    rw [if_pos h0]
    show goO (addQ (fa 1 n) x120) (goK (addQ (fa 1 n) x120)) = _
    rw [hk, hq]
    unfold goO fa
    dsimp only
    congr 1
    split <;> omega
  · unfold sndO
    rw [if_pos h0, hk]
    split
    · rename_i h8
      rw [pks_succ, show pks (addQ (fa 1 n) x120) (fa 1 n).o 0 = [] from rfl, List.nil_append, hq]
      show [pkL _ (1 + ((min 8 n + 0 : Nat) : Int)) ((List.replicate (n + 1) x120).getD (min 8 n + 0) ⟨#[]⟩)] = _
      rw [show min 8 n + 0 = n by omega, List.getD_eq_getElem?_getD, List.getElem?_replicate, if_pos (by omega)]
      rfl
    · rfl
theorem fa_full : sndE (fa 1 64) x120 = 6 ∧ sndL (fa 1 64) x120 = fa 1 64 ∧ sndO (fa 1 64) x120 = [] := by
  have e : (fa 1 64).q.length = 64 := by simp [fa]
  have h0 : sndE (fa 1 64) x120 = 6 := by
    unfold sndE
    rw [if_neg (by decide), e, if_neg (by show ¬ 1099511627774 < (1 : Int) + 64; omega), if_pos (by omega)]
  refine ⟨h0, ?_, ?_⟩
  · unfold sndL; rw [h0]; rfl
  · unfold sndO; rw [h0]; rfl
/-- What each send does. -/
theorem fa_all (k : Nat) : sndE (fa 1 (min k 64)) x120 = (if k < 64 then 0 else 6) ∧ sndL (fa 1 (min k 64)) x120 = fa 1 (min (k + 1) 64) ∧ sndO (fa 1 (min k 64)) x120 = (if k < 8 then [fp1 k] else []) := by
  by_cases h : k < 64
  · obtain ⟨h1, h2, h3⟩ := fa_send k h
    rw [show min k 64 = k by omega, show min (k + 1) 64 = k + 1 by omega, if_pos h]
    exact ⟨h1, h2, h3⟩
  · rw [show min k 64 = 64 by omega, show min (k + 1) 64 = 64 by omega, if_neg h, if_neg (by omega)]
    exact fa_full
theorem ff_succ (k : Nat) : ff k ++ (if k < 8 then [fp1 k] else []) = ff (k + 1) := by
  unfold ff
  split
  · rw [show min (k + 1) 8 = min k 8 + 1 by omega, List.range_succ, List.map_append, show min k 8 = k by omega]; rfl
  · rw [List.append_nil, show min (k + 1) 8 = min k 8 by omega]
theorem fb_take (i : Nat) (hi : i ≤ 1000) : lookE (fb i) (fp1 i) = 0 ∧ tkO (fb i) (fp1 i) = [fq1 i] ∧ tkL (fb i) (fp1 i) = fb (i + 1) := by
  have hc : chkP (fp1 i) = true := by
    unfold chkP fp1 nodeB cntB seqB
    dsimp only
    simp only [Bool.and_eq_true, decide_eq_true_eq, Bool.or_eq_true, Bool.not_eq_true', decide_eq_false_iff_not]
    refine ⟨by decide, by decide, by decide, by decide, by decide, ⟨by omega, by omega⟩, by decide, by decide, .inr (by omega)⟩
  have h0 : lookE (fb i) (fp1 i) = 0 := by unfold lookE; rw [if_pos ⟨hc, rfl, rfl⟩, if_pos ⟨rfl, rfl⟩]
  have hs : ¬ (fp1 i).sq = 0 := by show ¬ 1 + (i : Int) = 0; omega
  have hA : tkA (fb i) (fp1 i) = fb i := by unfold tkA ackL; rw [if_neg]; rintro ⟨h1, h2⟩; exact absurd (show (1 : Int) ≤ 0 from h1) (by decide)
  have hR : tkR (fb i) (fp1 i) = ⟨⟨2, 1, 1, 1, 1⟩, [], 1, 0, 1 + (i : Int), [(1 + (i : Int), x120)]⟩ := by
    unfold tkR
    rw [hA]
    unfold arrL
    rw [if_pos ⟨⟨by show 1 + (i : Int) ≤ 1 + (i : Int); omega, by show 1 + (i : Int) < 1 + (i : Int) + 8; omega⟩, rfl⟩]
    rfl
  have hat : atE [(1 + (i : Int), x120)] (1 + (i : Int)) = some x120 := by simp [atE]
  have hdr : dropE [(1 + (i : Int), x120)] (1 + (i : Int)) = [] := by simp [dropE]
  have hB : tkB (fb i) (fp1 i) = fb (i + 1) := by
    unfold tkB hndL
    rw [hR]
    show (hnd 1 _).2 = _
    rw [hnd_go (s := x120) (by show 1 + (i : Int) < _; omega) hat]
    dsimp only
    rw [hdr]
    show (⟨_, _, _, _, _, _⟩ : Lk) = _
    unfold fb
    rw [show (1 + (i : Int) + 1) = 1 + ((i + 1 : Nat) : Int) by omega]
  have hk : goK (fb (i + 1)) = 0 := rfl
  refine ⟨h0, ?_, ?_⟩
  · unfold tkO
    rw [if_pos h0, if_neg hs, hB, if_pos hk]
    unfold pkL fb fq1
    dsimp only
    rw [show 1 + ((i + 1 : Nat) : Int) - 1 = 1 + (i : Int) by omega]
  · unfold tkL
    rw [if_pos h0, if_neg hs, hB]
    rfl
theorem fa_take (i m : Nat) (hi : i ≤ 7) (hm : 52 ≤ m) (hm2 : m ≤ 64) : lookE (fa (i + 1) m) (fq1 i) = 0 ∧ (tkO (fa (i + 1) m) (fq1 i)).length = 1 ∧ tkL (fa (i + 1) m) (fq1 i) = fa (i + 2) (m - 1) := by
  have hc : chkP (fq1 i) = true := by
    unfold chkP fq1 nodeB cntB seqB
    dsimp only
    simp only [Bool.and_eq_true, decide_eq_true_eq, Bool.or_eq_true, Bool.not_eq_true', decide_eq_false_iff_not]
    refine ⟨by decide, by decide, by decide, by decide, by decide, by decide, ⟨by omega, by omega⟩, by decide, .inl (by decide)⟩
  have h0 : lookE (fa (i + 1) m) (fq1 i) = 0 := by unfold lookE; rw [if_pos ⟨hc, rfl, rfl⟩, if_pos ⟨rfl, rfl⟩]
  have hs : (fq1 i).sq = 0 := rfl
  have hn : ackN (fa (i + 1) m) (fq1 i).ak = 1 := by
    unfold ackN
    show (1 + (i : Int) - ((i + 1 : Nat) : Int) + 1).toNat = 1
    omega
  have hA : tkA (fa (i + 1) m) (fq1 i) = ⟨⟨1, 1, 2, 1, 1⟩, List.replicate (m - 1) x120, ((i + 2 : Nat) : Int), 7, 1, []⟩ := by
    unfold tkA ackL
    rw [if_pos ⟨by show ((i + 1 : Nat) : Int) ≤ 1 + (i : Int); omega, by show 1 + (i : Int) < ((i + 1 : Nat) : Int) + ((min 8 m : Nat) : Int); omega⟩, hn]
    show (⟨_, (List.replicate m x120).drop 1, 1 + (i : Int) + 1, min 8 m - 1, _, _⟩ : Lk) = _
    rw [List.drop_replicate, show (1 + (i : Int) + 1) = ((i + 2 : Nat) : Int) by omega, show min 8 m - 1 = 7 by omega]
    rfl
  have hk : goK (tkA (fa (i + 1) m) (fq1 i)) = 1 := by
    rw [hA]; unfold goK
    dsimp only
    rw [List.length_replicate]
    omega
  refine ⟨h0, ?_, ?_⟩
  · unfold tkO
    rw [if_pos h0, if_pos hs, pks_len, hk]
  · unfold tkL
    rw [if_pos h0, if_pos hs]
    show goO _ (goK _) = _
    rw [hk, hA]
    unfold goO fa
    dsimp only
    congr 1
    omega
end Go.Proofs.Ytiejehaaglpkoaa
