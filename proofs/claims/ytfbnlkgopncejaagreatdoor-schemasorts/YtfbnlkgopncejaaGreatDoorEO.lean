/- The reference's Same of fields: its walk. -/
import Derived.Test.YtfbnlkgopncejaaGreatDoorEN
namespace Go.Proofs.YtfbnlkgopncejaaGreatDoor
open Go.RowKit

/-- The same in all. -/
def eqF (x y : Fd) : Bool := decide (x.n = y.n) && (decide (x.k = y.k) && decide (x.m = y.m))
theorem eqF_iff (x y : Fd) : eqF x y = true ↔ x = y := by
  obtain ⟨n, k, m⟩ := x
  obtain ⟨n', k', m'⟩ := y
  simp [eqF]
def sameR (a b : List Fd) : Bool := decide (a.length = b.length) && decide (∀ (k : Nat) (h : k < a.length) (h2 : k < b.length), eqF a[k] b[k] = true)
theorem sameR_iff (a b : List Fd) : sameR a b = true ↔ a = b := by
  unfold sameR
  rw [Bool.and_eq_true, decide_eq_true_eq, decide_eq_true_eq]
  constructor
  · intro ⟨h1, h2⟩
    exact List.ext_getElem h1 fun k h h' => (eqF_iff _ _).1 (h2 k h h')
  · rintro rfl
    exact ⟨rfl, fun k h h2 => (eqF_iff _ _).2 rfl⟩
theorem sameR_no {a b : List Fd} {k : Nat} (h : k < a.length) (h2 : k < b.length) (hn : eqF a[k] b[k] = false) : sameR a b = false := by
  unfold sameR
  rw [Bool.and_eq_false_iff]
  right
  rw [decide_eq_false_iff_not]
  exact fun hh => by rw [hh k h h2] at hn; cases hn
set_option maxRecDepth 100000 in
set_option maxHeartbeats 2000000 in
theorem refSame_any (v u : Value) (a l : List Fd) (w : World) (hq : IsRow w 3 v a.length (fCells a)) (hr : IsRow w 3 u l.length (fCells l)) (hal : a.length ≤ 1000000) (hl : l.length ≤ 1000000) :
    Calls Tryz.prog 11 #[v, u] w fun e w' => e = .returned (.bool (sameR a l)) ∧ Below w.heap.size w w' := by
  obtain ⟨a0, cap0, rfl⟩ := hq.form
  obtain ⟨a1, cap1, rfl⟩ := hr.form
  have HQ : Hid (∀ w', Below w.heap.size w w' → IsRow w' 3 (.slice a0 a.length cap0) a.length (fCells a)) := fun w' h => hq.below h
  have HR : Hid (∀ w', Below w.heap.size w w' → IsRow w' 3 (.slice a1 l.length cap1) l.length (fCells l)) := fun w' h => hr.below h
  clear hq hr
  by_cases hln : a.length = l.length
  rotate_left
  · have e0 : sameR a l = false := by unfold sameR; rw [decide_eq_false hln, Bool.false_and]
    have dn : ((a.length : Int) != (l.length : Int)) = true := by rw [bne_iff_ne]; omega
    rw [e0]
    go_enter Tryz.func11, Tryz.ntmps11
    go_wp2
    go_ret
    exact ⟨rfl, Below.refl _ _⟩
  have dn : ((a.length : Int) != (l.length : Int)) = false := by rw [hln]; simp
  have HL : Hid (a.length = l.length) := hln
  clear hln
  go_enter Tryz.func11, Tryz.ntmps11
  go_wp2_with fail
  go_loopw [4, 5] (fun r i wr => r = .bool false ∧ ∃ k : Nat, k ≤ a.length ∧ i = .int .i64 (k : Int) ∧ Hid (∀ (j : Nat) (h : j < a.length) (h2 : j < l.length), j < k → eqF a[j] l[j] = true) ∧ Below w.heap.size w wr) (fun _ i _ => a.length - (intOf i).toNat)
  case atStart => exact ⟨rfl, 0, Nat.zero_le _, rfl, fun j h h2 hj => absurd hj (Nat.not_lt_zero _), Below.refl _ _⟩
  case round =>
    obtain ⟨rfl, k, hk, rfl, HO, hB⟩ := hrel
    by_cases hlk : k < a.length
    · have hlk2 : k < l.length := by have := HL.out; omega
      have dk : decide ((k : Int) < a.length) = true := by simp; omega
      obtain ⟨b, off, rfl, hlt, hcap, hc⟩ := f_at (HQ.out wr hB) (by omega)
      obtain ⟨b', off', rfl, hlt', hcap', hc'⟩ := f_at (HR.out wr hB) (by omega)
      obtain ⟨ck0, ck1, ck2⟩ := hc k hlk
      obtain ⟨dk0, dk1, dk2⟩ := hc' k hlk2
      have HO2 : Hid (eqF a[k] l[k] = true → ∀ (j : Nat) (h : j < a.length) (h2 : j < l.length), j < k + 1 → eqF a[j] l[j] = true) := fun hs j h h2 hj => by
        by_cases e : j = k
        · subst e; exact hs
        · exact HO.out j h h2 (by omega)
      have HN : Hid (eqF a[k] l[k] = false → sameR a l = false) := sameR_no hlk hlk2
      generalize a[k]'hlk = x at *
      generalize l[k]'hlk2 = y at *
      obtain ⟨n, kk, m⟩ := x
      obtain ⟨n', kk', m'⟩ := y
      have q1 : (0 : Int) ≤ (k : Int) := by omega
      have q2 : (k : Int) < (a.length : Int) := by omega
      have q3 : (k : Int) < (l.length : Int) := by omega
      clear hc hc' HO
      have HBd : Hid (∀ q, Below w.heap.size w (wr.drewN q)) := fun q => ⟨hB.os, hB.tape, hB.output, hB.size, hB.block⟩
      clear hB
      cases hq : eqF ⟨n, kk, m⟩ ⟨n', kk', m'⟩ with
      | true =>
        have HO3 := HO2.out hq
        have he := (eqF_iff _ _).1 hq
        simp only [Fd.mk.injEq] at he
        obtain ⟨rfl, rfl, rfl⟩ := he
        clear hq HN HO2
        go_wp2_with fail
        refine wp_region_quiet (C := fun w' => ∃ q, w' = wr.drewN q) (by kernel_rfl) (by kernel_rfl) ⟨1, rfl⟩ ?_
        dsimp only
        repeat (first
          | (go_big_quiet_want
             apply Exists.intro
             refine ⟨fun W' hW' => ?_, ?_⟩
             · obtain ⟨q, rfl⟩ := hW'
               go_simp
               first
                 | done
                 | exact ⟨rfl, q, rfl⟩
                 | exact ⟨rfl, rfl⟩
                 | rfl
             go_big_quiet_on
             try simp only [Act.put, List.setIfInBounds_toArray, List.set_cons_zero, List.set_cons_succ]))
        refine wpQuiet_nil ?_
        rintro w2 ⟨q, rfl⟩
        go_wp2
        go_roundw
        case rel => exact ⟨rfl, k + 1, by omega, by simp, HO3, HBd.out q⟩
        case measure => simp [intOf]; omega
      | false =>
        have HN2 : Hid (sameR a l = false) := HN.out hq
        have hne : ¬ (n.toList = n'.toList ∧ kk = kk' ∧ m = m') := fun h => by
          obtain ⟨h1, rfl, rfl⟩ := h
          rw [ByteArray.toList_eq, ByteArray.toList_eq] at h1
          obtain rfl : n = n' := ba_eq h1
          rw [(eqF_iff _ _).2 rfl] at hq
          cases hq
        have HE : Hid (∀ q : Nat, ((if n.toList = n'.toList then if kk = kk' then if m = m' then Result.ok (Next.value (Value.bool false)) (wr.drewN q) else Result.ok (Next.value (Value.bool true)) (wr.drewN q) else Result.ok (Next.value (Value.bool true)) (wr.drewN q) else Result.ok (Next.value (Value.bool true)) (wr.drewN q))) = (Result.ok (Next.value (Value.bool true)) (wr.drewN q) : Result Next)) := fun q => by
          by_cases h1 : n.toList = n'.toList
          · by_cases h2 : kk = kk'
            · by_cases h3 : m = m'
              · exact absurd ⟨h1, h2, h3⟩ hne
              · simp [h1, h2, h3]
            · simp [h1, h2]
          · simp [h1]
        clear hq HN HO2 hne
        go_wp2_with fail
        refine wp_region_quiet (C := fun w' => ∃ q, w' = wr.drewN q) (by kernel_rfl) (by kernel_rfl) ⟨1, rfl⟩ ?_
        dsimp only
        repeat (first
          | (go_big_quiet_want
             apply Exists.intro
             refine ⟨fun W' hW' => ?_, ?_⟩
             · obtain ⟨q, rfl⟩ := hW'
               go_simp
               first
                 | done
                 | exact ⟨rfl, q, rfl⟩
                 | exact ⟨rfl, rfl⟩
                 | rfl
             go_big_quiet_on
             try simp only [Act.put, List.setIfInBounds_toArray, List.set_cons_zero, List.set_cons_succ]))
        go_big_quiet_want
        refine ⟨.bool true, fun W' hW' => ?_, ?_⟩
        · obtain ⟨q, rfl⟩ := hW'
          have := HE.out q
          go_simp
        go_big_quiet_on
        try simp only [Act.put, List.setIfInBounds_toArray, List.set_cons_zero, List.set_cons_succ]
        refine wpQuiet_nil ?_
        rintro w2 ⟨q, rfl⟩
        go_wp2
        go_ret
        exact ⟨by rw [HN2.out]; rfl, HBd.out q⟩
    · have hk' : k = a.length := by omega
      subst hk'
      have dk : decide ((a.length : Int) < a.length) = false := by simp
      have HY : Hid (sameR a l = true) := by show _ = _; unfold sameR; rw [decide_eq_true HL.out, decide_eq_true (fun j h h2 => HO.out j h h2 h)]; rfl
      clear HO
      have HBB : Hid (Below w.heap.size w wr) := hB
      clear hB
      go_wp2
      go_ret
      exact ⟨by rw [HY.out]; rfl, HBB.out⟩
end Go.Proofs.YtfbnlkgopncejaaGreatDoor
