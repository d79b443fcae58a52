/- A view's bytes: plain mathematics. -/
import Derived.Test.YtciibeldmcakeaaDoorVxB
import Derived.Test.YtciibeldmcakeaaDoorM5
namespace Go.Proofs.YtciibeldmcakeaaDoor
open Go.RowKit

theorem tS1 (s : ByteArray) : Q.tS s 1 = e0 := by unfold Q.tS; simp
theorem tS3 (s : ByteArray) : Q.tS s 3 = e0 := by unfold Q.tS; simp
theorem may3_01 {n : Int} {s : ByteArray} (h : Q.mayB 3 n s = true) : (if (n == 1) = true then (1 : Int) else 0) = n := by
  unfold Q.mayB at h
  rw [if_neg (by decide), if_neg (by decide), if_pos rfl] at h
  simp only [Bool.and_eq_true, decide_eq_true_eq] at h
  have := h.1
  by_cases h1 : n = 1
  · subst h1; rfl
  · rw [if_neg (by simpa using h1)]; omega
theorem mb_bytes {s : ByteArray} (h : mbE s = 0) : (itM (mbM s)).flatMap Q.itB ++ (mbR s).data.toList = s.data.toList := by
  have hM : mbM s = ⟨Q.tN s 1, Q.tN (Q.tR s 1) 1, Q.tN (Q.tR (Q.tR s 1) 1) 3 == 1⟩ := if_pos h
  have hR : mbR s = Q.tR (Q.tR (Q.tR s 1) 1) 3 := if_pos h
  unfold mbE at h
  have h1 : Q.tE s 1 = 0 := by split at h <;> simp_all
  rw [if_pos h1] at h
  have h2 : Q.tE (Q.tR s 1) 1 = 0 := by split at h <;> simp_all
  rw [if_pos h2] at h
  obtain ⟨-, b1⟩ := Q.item_bytes (by decide) (by decide) h1
  obtain ⟨-, b2⟩ := Q.item_bytes (by decide) (by decide) h2
  obtain ⟨m3, b3⟩ := Q.item_bytes (by decide) (by decide) h
  rw [tS1] at b1 b2
  rw [tS3] at b3
  rw [hM, hR, ← b1, ← b2, ← b3]
  simp only [itM, may3_01 m3, List.flatMap_cons, List.flatMap_nil, List.append_nil, List.append_assoc]
theorem mb_read {s : ByteArray} {m : Mb} {r : List UInt8} (hm : ∀ x ∈ itM m, Q.mayIt x = true) (h : s.data.toList = (itM m).flatMap Q.itB ++ r) : mbE s = 0 ∧ mbM s = m ∧ (mbR s).data.toList = r := by
  simp only [itM, List.flatMap_cons, List.flatMap_nil, List.append_nil, List.append_assoc] at h
  obtain ⟨-, e1, x1, r1⟩ := Q.item_read (hm _ (by simp [itM])) h
  obtain ⟨-, e2, x2, r2⟩ := Q.item_read (hm _ (by simp [itM])) r1
  obtain ⟨-, e3, x3, r3⟩ := Q.item_read (hm _ (by simp [itM])) r2
  dsimp only at *
  have hE : mbE s = 0 := by unfold mbE; rw [if_pos e1, if_pos e2]; exact e3
  have hM : mbM s = ⟨Q.tN s 1, Q.tN (Q.tR s 1) 1, Q.tN (Q.tR (Q.tR s 1) 1) 3 == 1⟩ := if_pos hE
  have hR : mbR s = Q.tR (Q.tR (Q.tR s 1) 1) 3 := if_pos hE
  refine ⟨hE, ?_, by rw [hR]; exact r3⟩
  have y1 := congrArg It.n x1
  have y2 := congrArg It.n x2
  have y3 := congrArg It.n x3
  dsimp only at y1 y2 y3
  rw [hM, y1, y2, y3]
  obtain ⟨a, b, c⟩ := m
  cases c <;> rfl
theorem rdL_bytes : ∀ (n : Nat) (s : ByteArray) (l : List Mb) (r : ByteArray), rdL n s = some (l, r) → l.length = n ∧ (l.flatMap itM).flatMap Q.itB ++ r.data.toList = s.data.toList
  | 0, s, l, r, h => by
    obtain ⟨rfl, rfl⟩ := Prod.mk.inj (Option.some.inj h)
    exact ⟨rfl, rfl⟩
  | n + 1, s, l, r, h => by
    rw [rdL] at h
    split at h
    · rename_i h0
      cases hx : rdL n (mbR s) with
      | none => rw [hx] at h; cases h
      | some x =>
        obtain ⟨l', r'⟩ := x
        rw [hx] at h
        obtain ⟨rfl, rfl⟩ := Prod.mk.inj (Option.some.inj h)
        obtain ⟨h1, h2⟩ := rdL_bytes n _ _ _ hx
        refine ⟨by simp [h1], ?_⟩
        rw [List.flatMap_cons, List.flatMap_append, List.append_assoc, h2, mb_bytes h0]
    · cases h
theorem rdL_read : ∀ (l : List Mb) (s r : ByteArray), (∀ m ∈ l, ∀ x ∈ itM m, Q.mayIt x = true) → s.data.toList = (l.flatMap itM).flatMap Q.itB ++ r.data.toList → rdL l.length s = some (l, r)
  | [], s, r, _, h => by
    obtain rfl : s = r := Q.ba_of (by simpa using h)
    rfl
  | m :: l, s, r, hm, h => by
    rw [List.flatMap_cons, List.flatMap_append, List.append_assoc] at h
    obtain ⟨h1, h2, h3⟩ := mb_read (hm m (by simp)) h
    rw [List.length_cons, rdL, if_pos h1, rdL_read l (mbR s) r (fun x hx => hm x (by simp [hx])) h3, h2]
    rfl
/-- What is read was so written. -/
theorem tx_of_rd {s : ByteArray} {ep : Int} {l : List Mb} (h : rdO s = some (ep, l)) : VwP ep l ∧ txV ep l = s := by
  unfold rdO at h
  split at h
  · rename_i hc
    cases hx : rdL (hdC s).toNat (hdR s) with
    | none => rw [hx] at h; cases h
    | some x =>
      obtain ⟨l', r⟩ := x
      rw [hx] at h
      simp only [Option.bind_some] at h
      split at h
      · rename_i hv
        obtain ⟨rfl, rfl⟩ := Prod.mk.inj (Option.some.inj h)
        have hvw : VwP (hdN s) l' := by
          apply Classical.byContradiction
          intro hn
          rw [vB_false hn] at hv
          cases hv.2
        refine ⟨hvw, ?_⟩
        obtain ⟨hl, hb⟩ := rdL_bytes _ _ _ _ hx
        have h0 := hc.1
        unfold hdE at h0
        have h1 : Q.tE s 1 = 0 := by split at h0 <;> simp_all
        rw [if_pos h1] at h0
        obtain ⟨-, b1⟩ := Q.item_bytes (by decide) (by decide) h1
        obtain ⟨-, b2⟩ := Q.item_bytes (by decide) (by decide) h0
        rw [tS1] at b1 b2
        have hr : r.data.toList = [] := by
          have : r.data.toList.length = r.size := by simp
          exact List.length_eq_zero_iff.1 (this.trans hv.1)
        rw [hr, List.append_nil] at hb
        have hC : (l'.length : Int) = hdC s := by
          have := hdC_nn s
          omega
        unfold txV
        rw [if_pos hv.2]
        apply Q.ba_of
        show ((itsV (hdN s) l'.length l').flatMap Q.itB).toArray.toList = _
        rw [List.toList_toArray]
        unfold itsV
        rw [hC, List.flatMap_cons, List.flatMap_cons, hb]
        show Q.itB ⟨1, Q.tN s 1, e0⟩ ++ (Q.itB ⟨1, Q.tN (Q.tR s 1) 1, e0⟩ ++ (Q.tR (Q.tR s 1) 1).data.toList) = _
        rw [b2, b1]
      · cases h
  · cases h
/-- What is written is so read. -/
theorem rd_of_tx {ep : Int} {l : List Mb} (hv : VwP ep l) : rdO (txV ep l) = some (ep, l) := by
  have hm := its_may hv
  rw [List.all_eq_true] at hm
  have htx : (txV ep l).data.toList = Q.itB ⟨1, ep, e0⟩ ++ (Q.itB ⟨1, (l.length : Int), e0⟩ ++ (l.flatMap itM).flatMap Q.itB) := by
    unfold txV
    rw [if_pos (vB_true hv)]
    show ((itsV ep l.length l).flatMap Q.itB).toArray.toList = _
    rw [List.toList_toArray]
    unfold itsV
    rw [List.flatMap_cons, List.flatMap_cons]
  generalize txV ep l = s at *
  obtain ⟨-, e1, x1, r1⟩ := Q.item_read (hm _ (by simp [itsV])) htx
  obtain ⟨-, e2, x2, r2⟩ := Q.item_read (hm _ (by simp [itsV])) r1
  dsimp only at *
  have y1 : hdN s = ep := congrArg It.n x1
  have y2 : hdC s = (l.length : Int) := congrArg It.n x2
  have h15 := hv.len
  have hE : hdE s = 0 := by unfold hdE; rw [if_pos e1]; exact e2
  unfold rdO
  rw [if_pos ⟨hE, by omega⟩, y2, Int.toNat_natCast, rdL_read l (hdR s) e0 (fun m hmm x hx => hm x (by simp [itsV]; exact .inr (.inr ⟨m, hmm, hx⟩))) (by show (Q.tR (Q.tR s 1) 1).data.toList = _; rw [r2]; exact (List.append_nil _).symm)]
  simp only [Option.bind_some]
  rw [if_pos ⟨rfl, by rw [y1]; exact vB_true hv⟩, y1]
theorem rd_nil : rdO e0 = none := by
  cases h : rdO e0 with
  | none => rfl
  | some x =>
    obtain ⟨ep, l⟩ := x
    obtain ⟨hv, h2⟩ := tx_of_rd h
    exfalso
    have h1 := rd_of_tx hv
    have hE : hdE e0 = 0 := by
      rw [h2] at h1
      unfold rdO at h1
      split at h1
      · rename_i hc; exact hc.1
      · cases h1
    revert hE
    unfold hdE
    have : Q.tE e0 1 = 7 := by
      unfold Q.tE
      rw [if_pos rfl]
      unfold Q.getE
      rw [if_pos (by have := Q.gsz_pos e0; show e0.size < _; have : e0.size = 0 := rfl; omega)]
    rw [if_neg (by rw [this]; decide), this]
    decide
end Go.Proofs.YtciibeldmcakeaaDoor
