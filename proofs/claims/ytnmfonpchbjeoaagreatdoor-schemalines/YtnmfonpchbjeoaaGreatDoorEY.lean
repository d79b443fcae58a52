/- The reference's Fits: its walk. -/
import Derived.Test.YtnmfonpchbjeoaaGreatDoorEX
namespace Go.Proofs.YtnmfonpchbjeoaaGreatDoor
open Go.RowKit

theorem drewN_bE {B : Nat} {a w : World} (h : Below B a w) (n : Nat) : Below B a (w.drewN n) := ⟨h.os, h.tape, h.output, h.size, h.block⟩
set_option maxRecDepth 100000 in
set_option maxHeartbeats 4000000 in
theorem refFits_any (v u : Value) (l : List Fd) (a : List At) (w : World) (hr : IsRow w 3 v l.length (fCells l)) (hq : IsRow w 4 u a.length (aCells a)) (hl : l.length ≤ 1000000) (hal : a.length ≤ 1000000) (hn : NmR l) (hna : NmRA a) :
    Calls Tryz.prog 19 #[v, u] w fun e w' => e = .returned (.int .i64 (fitsL l a)) ∧ Below w.heap.size w w' := by
  obtain ⟨a0, cap0, rfl⟩ := hr.form
  obtain ⟨a1, cap1, rfl⟩ := hq.form
  have HR : Hid (∀ w', Below w.heap.size w w' → IsRow w' 3 (.slice a0 l.length cap0) l.length (fCells l)) := fun w' h => hr.below h
  have HQ : Hid (∀ w', Below w.heap.size w w' → IsRow w' 4 (.slice a1 a.length cap1) a.length (aCells a)) := fun w' h => hq.below h
  have HCF : Hid (Calls Tryz.prog 12 #[.slice a0 l.length cap0] w fun e w'' => e = .returned (.bool (chkF l)) ∧ Below w.heap.size w w'') := refCheckF_any _ l w hr hl hn
  have HCA : Hid (∀ w', Below w.heap.size w w' → Calls Tryz.prog 21 #[.slice a1 a.length cap1] w' fun e w'' => e = .returned (.bool (chkA a)) ∧ Below w'.heap.size w' w'') := fun w' h => refAttrsA_any _ a w' (hq.below h) hal hna
  have HF : Hid (∀ (k : Nat) (hk : k < a.length) w', Below w.heap.size w w' → Calls Tryz.prog 38 #[.slice a0 l.length cap0, .string a[k].n] w' fun e w'' => ∃ r, e = .returned (.int .i64 r) ∧ FiR l a[k].n r ∧ Below w'.heap.size w' w'') := fun k hk w' h => refFindF_any _ l _ w' (hr.below h) hl hn (hna _ (List.getElem_mem hk)).1
  have HG : Hid (∀ (k : Nat) (hk : k < l.length) w', Below w.heap.size w w' → Calls Tryz.prog 16 #[.slice a1 a.length cap1, .string l[k].n] w' fun e w'' => ∃ r, e = .returned (.int .i64 r) ∧ GiR a l[k].n r ∧ Below w'.heap.size w' w'') := fun k hk w' h => refGetA_any _ a _ w' (hq.below h) hal hna (hn _ (List.getElem_mem hk))
  clear hr hq hn hna
  cases hcl : chkF l with
  | false =>
    have e0 : fitsL l a = 1 := by unfold fitsL; rw [hcl]; simp
    rw [hcl] at HCF
    rw [e0]
    go_enter Tryz.func19, Tryz.ntmps19
    go_wp2_with fail
    refine HCF.out.mono ?_
    rintro e w1 ⟨rfl, hb⟩
    have HB : Hid (Below w.heap.size w w1) := hb
    clear hb
    go_wp2
    go_ret
    exact ⟨rfl, HB.out⟩
  | true =>
  rw [hcl] at HCF
  cases hca : chkA a with
  | false =>
    have e0 : fitsL l a = 1 := by unfold fitsL; rw [hca]; simp
    rw [hca] at HCA
    rw [e0]
    go_enter Tryz.func19, Tryz.ntmps19
    go_wp2_with fail
    refine HCF.out.mono ?_
    rintro e w1 ⟨rfl, hb⟩
    have HB : Hid (Below w.heap.size w w1) := hb
    clear hb
    go_wp2_with fail
    refine (HCA.out w1 HB.out).mono ?_
    rintro e w2 ⟨rfl, hb⟩
    have HB2 : Hid (Below w.heap.size w w2) := HB.out.trans (hb.mono HB.out.size)
    clear hb
    go_wp2
    go_ret
    exact ⟨rfl, HB2.out⟩
  | true =>
  rw [hca] at HCA
  have HE : Hid (fitsL l a = if fit1 l a = 0 then fit2 a l else fit1 l a) := by show _ = _; unfold fitsL; rw [hcl, hca, if_pos ⟨rfl, rfl⟩]
  clear hcl hca
  go_enter Tryz.func19, Tryz.ntmps19
  go_wp2_with fail
  refine HCF.out.mono ?_
  rintro e w1 ⟨rfl, hb⟩
  have HB : Hid (Below w.heap.size w w1) := hb
  clear hb
  go_wp2_with fail
  refine (HCA.out w1 HB.out).mono ?_
  rintro e w2 ⟨rfl, hb⟩
  have HB2 : Hid (Below w.heap.size w w2) := HB.out.trans (hb.mono HB.out.size)
  clear hb
  go_wp2_with fail
  go_loopw [4, 5, 6] (fun r i _ wr => r = .int .i64 0 ∧ ∃ k : Nat, k ≤ a.length ∧ i = .int .i64 (k : Int) ∧ Hid (fit1 l a = fit1 l (a.drop k)) ∧ Below w.heap.size w wr) (fun _ i _ _ => a.length - (intOf i).toNat)
  case atStart => exact ⟨rfl, 0, Nat.zero_le _, rfl, rfl, HB2.out⟩
  case round =>
    obtain ⟨rfl, k, hk, rfl, HO, hB⟩ := hrel
    by_cases hlk : k < a.length
    · have dk : decide ((k : Int) < a.length) = true := by simp; omega
      have q1 : (0 : Int) ≤ (k : Int) := by omega
      have q2 : (k : Int) < (a.length : Int) := by omega
      obtain ⟨b, off, ea, hlt, hcap, hc⟩ := a_at (HQ.out wr hB) (by omega)
      obtain ⟨ck0, -⟩ := hc k hlk
      have HK1 : Hid (∀ w', Below wr.heap.size wr w' → w'.cell? ⟨b, off + k * 4 + 1, none⟩ = some (.int .i64 a[k].k)) := fun w' h => (h.cell (p := ⟨b, off + k * 4 + 1, none⟩) hlt).trans (hc k hlk).2.1
      have HFk : Hid (Calls Tryz.prog 38 #[.slice a0 l.length cap0, .string a[k].n] wr fun e w'' => ∃ r, e = .returned (.int .i64 r) ∧ FiR l a[k].n r ∧ Below wr.heap.size wr w'') := HF.out k hlk wr hB
      have HBr : Hid (Below w.heap.size w wr) := hB
      have HS : Hid (fit1 l a = match getF l a[k].n with
        | none => 4
        | some f => if f.k = a[k].k then fit1 l (a.drop (k + 1)) else 8) := by
          have := fit1_at (l := l) hlk
          rw [← HO.out] at this
          exact this
      subst ea
      clear hc HO hB
      go_wp2_with fail
      refine HFk.out.mono ?_
      rintro e w3 ⟨r, rfl, hfi, hb⟩
      have HB3 : Hid (Below w.heap.size w w3) := HBr.out.trans (hb.mono HBr.out.size)
      have c1 := HK1.out w3 hb
      rcases hfi with ⟨j, hj, rfl, hg⟩ | ⟨rfl, hg⟩
      · have dj : decide ((j : Int) < 0) = false := by simp
        obtain ⟨b', off', eb, hlt', hcap', hc'⟩ := f_at (HR.out w3 HB3.out) (by omega)
        obtain ⟨-, c2, -⟩ := hc' j hj
        have hs := HS.out
        rw [hg] at hs
        dsimp only at hs
        have q3 : (0 : Int) ≤ (j : Int) := by omega
        have q4 : (j : Int) < (l.length : Int) := by omega
        subst eb
        by_cases hkk : l[j].k = a[k].k
        · have HS2 : Hid (fit1 l a = fit1 l (a.drop (k + 1))) := hs.trans (if_pos hkk)
          have dn : (l[j].k != a[k].k) = false := by rw [hkk]; simp
          generalize l[j].k = x at *
          generalize a[k].k = y at *
          subst hkk
          clear hs hb hg hc' HS HK1 dn
          go_wp2_with fail
          go_quiet (fail)
          go_wp2
          go_roundw
          case rel => exact ⟨rfl, k + 1, by omega, by simp, HS2, drewN_bE HB3.out _⟩
          case measure => simp [intOf]; omega
        · have HS2 : Hid (fit1 l a = 8) := hs.trans (if_neg hkk)
          have dn : (l[j].k != a[k].k) = true := by rw [bne_iff_ne]; exact hkk
          generalize l[j].k = x at *
          generalize a[k].k = y at *
          clear hs hb hg hc' HS HK1 hkk
          go_wp2_with fail
          go_quiet (fail)
          go_wp2
          go_ret
          exact ⟨by rw [HE.out, HS2.out]; rfl, drewN_bE HB3.out _⟩
      · have HS2 : Hid (fit1 l a = 4) := by show _ = _; rw [HS.out, hg]
        clear hb hg HS HK1 c1
        go_wp2
        go_ret
        exact ⟨by rw [HE.out, HS2.out]; rfl, HB3.out⟩
    · have hk' : k = a.length := by omega
      subst hk'
      have dk : decide ((a.length : Int) < a.length) = false := by simp
      have HE2 : Hid (fitsL l a = fit2 a l) := by
        have : fit1 l a = 0 := by rw [HO.out, List.drop_length]; rfl
        show _ = _
        rw [HE.out, if_pos this]
      clear HO HE
      have HBr : Hid (Below w.heap.size w wr) := hB
      clear hB
      go_wp2_with fail
      go_loopw [4, 7] (fun r i wq => r = .int .i64 0 ∧ ∃ k : Nat, k ≤ l.length ∧ i = .int .i64 (k : Int) ∧ Hid (fit2 a l = fit2 a (l.drop k)) ∧ Below w.heap.size w wq) (fun _ i _ => l.length - (intOf i).toNat)
      case atStart => exact ⟨rfl, 0, Nat.zero_le _, rfl, rfl, HBr.out⟩
      case round =>
        clear HBr
        obtain ⟨rfl, k, hk2, rfl, HO, hB⟩ := hrel
        by_cases hlk : k < l.length
        · have dk2 : decide ((k : Int) < l.length) = true := by simp; omega
          have q1 : (0 : Int) ≤ (k : Int) := by omega
          have q2 : (k : Int) < (l.length : Int) := by omega
          obtain ⟨b, off, rfl, hlt, hcap, hc⟩ := f_at (HR.out _ hB) (by omega)
          obtain ⟨ck0, -, ck2⟩ := hc k hlk
          have HGk : Hid (Calls Tryz.prog 16 #[.slice a1 a.length cap1, .string l[k].n] wr fun e w'' => ∃ r, e = .returned (.int .i64 r) ∧ GiR a l[k].n r ∧ Below wr.heap.size wr w'') := HG.out k hlk wr hB
          have HBr : Hid (Below w.heap.size w wr) := hB
          have HS := fit2_at (a := a) hlk
          rw [← HO.out] at HS
          cases hm : l[k].m with
          | false =>
            rw [hm] at ck2
            have HS2 : Hid (fit2 a l = fit2 a (l.drop (k + 1))) := HS.trans (if_neg (by rw [hm]; simp))
            clear hc HO HS HGk hB hm
            go_wp2
            go_roundw
            case rel => exact ⟨rfl, k + 1, by omega, by simp, HS2, HBr.out⟩
            case measure => simp [intOf]; omega
          | true =>
            rw [hm] at ck2
            have HS1 : Hid (fit2 a l = if (getA a l[k].n).isSome = false then 7 else fit2 a (l.drop (k + 1))) := by
              show _ = _
              rw [HS, hm]; simp
            generalize l[k].n = nm at *
            clear hc HO HS hB hm
            go_wp2_with fail
            refine HGk.out.mono ?_
            rintro e w3 ⟨r, rfl, hfi, hb⟩
            have HB3 : Hid (Below w.heap.size w w3) := HBr.out.trans (hb.mono HBr.out.size)
            rcases hfi with ⟨j, hj, rfl, hg⟩ | ⟨rfl, hg⟩
            · have dj : decide ((j : Int) < 0) = false := by simp
              have HS2 : Hid (fit2 a l = fit2 a (l.drop (k + 1))) := by show _ = _; rw [HS1.out, hg]; rfl
              clear hb hg HS1
              go_wp2
              go_roundw
              case rel => exact ⟨rfl, k + 1, by omega, by simp, HS2, HB3.out⟩
              case measure => simp [intOf]; omega
            · have HS2 : Hid (fit2 a l = 7) := by show _ = _; rw [HS1.out, hg]; rfl
              clear hb hg HS1
              go_wp2
              go_ret
              exact ⟨by rw [HE2.out, HS2.out]; rfl, HB3.out⟩
        · have hk' : k = l.length := by omega
          subst hk'
          have dk2 : decide ((l.length : Int) < l.length) = false := by simp
          have HE3 : Hid (fitsL l a = 0) := by
            show _ = _
            rw [HE2.out, HO.out, List.drop_length]; rfl
          clear HO HE2
          have HBB : Hid (Below w.heap.size w _) := hB
          clear hB
          go_wp2
          go_ret
          exact ⟨by rw [HE3.out]; rfl, HBB.out⟩
end Go.Proofs.YtnmfonpchbjeoaaGreatDoor
