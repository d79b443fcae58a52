/- QuicTakes: for every text and every list of kinds the law returns true, and what was there stays. -/
import Derived.Test.YtjgefiomcfpmeaaDoorRTb
import Derived.Test.YtjgefiomcfpmeaaDoorSame
import Derived.Test.YtjgefiomcfpmeaaDoorH
import Derived.Deep.DeepCutAuto
import Derived.Deep.RegionWith
namespace Go.Proofs.YtjgefiomcfpmeaaDoor
open Go.RowKit
set_option linter.unusedVariables false

set_option maxRecDepth 100000 in
set_option maxHeartbeats 2000000 in
theorem quicTakes_walk (s : ByteArray) (v : Value) (ks : List Int) (w : World) (hs : s.size ≤ 140737488355328) (h : IsRow w 1 v ks.length (intCells ks)) (hl : ks.length ≤ 140737488355328) (hx : True) (hT : Tab w) :
    Calls Tryd.prog 4 #[.string s, v] w fun e w' => e = .returned (.bool true) ∧ Below w.heap.size w w' := by
  obtain ⟨a0, cap0, rfl⟩ := h.form
  have hsz := hT.size
  by_cases g0 : 4096 < ks.length
  · have g0' : (4096 : Int) < ks.length := by omega
    go_enter Tryd.func4, Tryd.ntmps4
    go_wp2_with fail
    refine (take_long _ _ _ _ _ g0 hl).mono ?_
    rintro e w1 ⟨v1, rfl, hv1, hb1⟩
    obtain ⟨a1, cap1, rfl⟩ := hv1.form
    have hT1 := hT.below hb1 hsz
    clear hv1
    go_wp2_with fail
    refine (awake_any _ hT1).mono ?_
    rintro e w2 ⟨rfl, hb2'⟩
    have hb2 : Hid (Below w.heap.size w w2) := hb1.trans (hb2'.mono hb1.size)
    clear hb1 hb2'
    go_wp2
    go_ret
    exact ⟨rfl, hb2.out⟩
  have g0' : ¬ (4096 : Int) < ks.length := by omega
  by_cases g1 : 20000 < s.size
  · have g1' : (20000 : Int) < s.size := by omega
    go_enter Tryd.func4, Tryd.ntmps4
    go_wp2_with fail
    refine (awake_any _ hT).mono ?_
    rintro e w1 ⟨rfl, hb1⟩
    go_wp2
    go_ret
    exact ⟨rfl, hb1⟩
  have g1' : ¬ (20000 : Int) < s.size := by omega
  by_cases g2 : 200 < ks.length
  · have g2' : (200 : Int) < ks.length := by omega
    go_enter Tryd.func4, Tryd.ntmps4
    go_wp2_with fail
    refine (awake_any _ hT).mono ?_
    rintro e w1 ⟨rfl, hb1⟩
    go_wp2
    go_ret
    exact ⟨rfl, hb1⟩
  have g2' : ¬ (200 : Int) < ks.length := by omega
  have HL : Hid (ks.length ≤ 4096) := by show _ ≤ _; omega
  have HTL : Hid ((takeR s ks).1.length ≤ 200) := by have := takeR_len s ks; show _ ≤ _; omega
  go_enter Tryd.func4, Tryd.ntmps4
  go_wp2_with fail
  refine (take_any _ _ _ _ hs h HL.out).mono ?_
  rintro e wa ⟨va, rfl, hva, hba⟩
  have hra := h.below hba
  go_wp2_with fail
  refine (refTake_any _ _ _ _ hs hra HL.out).mono ?_
  rintro e wb ⟨vb, rfl, hvb, hbb'⟩
  have hbb := hba.trans (hbb'.mono hba.size)
  have hvab := hva.below hbb'
  have hTb := hT.below hbb hsz
  have hrb := h.below hbb
  clear hba hbb' hva hra
  obtain ⟨aa, ca, rfl⟩ := hvab.form
  obtain ⟨ab, cb, rfl⟩ := hvb.form
  have HTN : Hid ((takeR s ks).2.2 ≠ 0 → (takeR s ks).1 = [] ∧ (takeR s ks).2.1 = ⟨#[]⟩) := takeR_none
  have hz0 := hbb.size
  go_wp2_with fail
  generalize hL : (takeR s ks).1 = l at *
  generalize hR : (takeR s ks).2.1 = rest at *
  generalize hE : (takeR s ks).2.2 = te at *
  obtain ⟨W0, hW0⟩ : ∃ W0, W0 = wb.alloc (.cells #[Value.slice ab l.length cb, .string rest, .int .i64 te] 36) := ⟨_, rfl⟩
  rw [← hW0]
  have h0 : ∀ j, W0.cell? ⟨wb.heap.size, j, none⟩ = #[Value.slice ab l.length cb, .string rest, .int .i64 te][j]? := by subst hW0; intro j; simp
  have hz : wb.heap.size < W0.heap.size := by subst hW0; simp
  have hb0 : Below wb.heap.size wb W0 := by subst hW0; exact (Below.refl _ _).alloc (Nat.le_refl _) _
  have hvA := hvab.below hb0
  have hvB := hvb.below hb0
  have hbW := hbb.trans (hb0.mono hbb.size)
  have hcx : ∀ w2, Below W0.heap.size W0 w2 → ∀ j, w2.cell? ⟨wb.heap.size, j, none⟩ = #[Value.slice ab l.length cb, .string rest, .int .i64 te][j]? := fun w2 hb j => (hb.cell (p := ⟨wb.heap.size, j, none⟩) hz).trans (h0 j)
  have hlen1 : l.length ≤ 100000 := by have := HTL.out; omega
  have hlen2 : l.length ≤ 140737488355328 := by omega
  clear hW0 hb0 hvab hvb hbb hTb hrb
  go_cut [65] (fun b wx => b = .bool false ∧ Below W0.heap.size W0 wx)
  case first =>
    go_region_with (first | (go_at_call 10; refine (refs_any _ l _ (hvA.below (Below.refl _ _).drew) hlen1).mono ?_; rintro e wc ⟨vc, rfl, hvc, hbc'⟩; have hbc := below_undrew hbc'; have hcc := hcx _ hbc; have hvB2 := hvB.below hbc) | (go_at_call 13; refine (same_eq _ _ l _ hvc hvB2 hlen2).mono ?_; rintro e wd ⟨rfl, hbd'⟩; have hbd := hbc.trans (hbd'.mono hbc.size); have hcd := hcx _ hbd))
    all_goals (try go_wp2_with fail)
    all_goals go_meet
    all_goals exact ⟨rfl, hbd⟩
  case rest =>
    obtain ⟨rfl, hbc⟩ := hcut
    have hcd := hcx _ hbc
    have hbd := hbW.trans (hbc.mono hbW.size)
    have hv3 := hvB.below hbc
    have hrd := h.below hbd
    have hzd : wb.heap.size < wc.heap.size := Nat.lt_of_lt_of_le hz hbc.size
    clear hvA hvB hcx h0 hbW hbc hz
    by_cases he : te = 0
    · have HE : Hid ((takeR s ks).2.2 = 0) := hE.trans he
      by_cases hr : rest.toList.isEmpty = true
      · have HRow : Hid (∀ w1 v1, IsRow w1 1 v1 ks.length (intCells ks) → Calls Tryd.prog 14 #[.string s, v1] w1 fun e w' => RowPost l 0 w1 e w') := fun w1 v1 h1 => row_all' s v1 ks w1 hs h1 HL.out HE.out (by rw [hR]; exact hr) l hL
        subst he
        clear hE hR hL HE HTN
        go_wp2_with fail
        refine (HRow.out _ _ hrd).mono ?_
        rintro e we ⟨ve, rfl, hve, hbe'⟩
        have hce : ∀ j, we.cell? ⟨wb.heap.size, j, none⟩ = #[Value.slice ab l.length cb, .string rest, .int .i64 0][j]? := fun j => (hbe'.cell (p := ⟨wb.heap.size, j, none⟩) hzd).trans (hcd j)
        have hbe := hbd.trans (hbe'.mono hbd.size)
        have hv4 := hv3.below hbe'
        have hze : wb.heap.size < we.heap.size := Nat.lt_of_lt_of_le hzd hbe'.size
        clear hbd hbe' hcd hv3 hrd hzd HRow
        obtain ⟨ae, ce, rfl⟩ := hve.form
        go_wp2_with fail
        have hcx2 : ∀ w2, Below we.heap.size we w2 → ∀ j, w2.cell? ⟨wb.heap.size, j, none⟩ = #[Value.slice ab l.length cb, .string rest, .int .i64 0][j]? := fun w2 hb j => (hb.cell (p := ⟨wb.heap.size, j, none⟩) hze).trans (hce j)
        have hTe := hT.below hbe.drew hsz
        have HBE : Hid (Below w.heap.size w we) := hbe
        clear hbe
        go_region_with (first | (go_at_call 7; refine (awake_any _ hTe).mono ?_; rintro e wf ⟨rfl, hbf'⟩; have hbf := below_undrew hbf'; have hcf := hcx2 _ hbf) | (go_at_call 10; refine (refs_any _ l _ (hve.below hbf) hlen1).mono ?_; rintro e wg ⟨vg, rfl, hvg, hbg'⟩; have hbg := hbf.trans (hbg'.mono hbf.size); have hcg := hcx2 _ hbg; have hv6 := hv4.below hbg) | (go_at_call 13; refine (same_eq _ _ l _ hvg hv6 hlen2).mono ?_; rintro e wh ⟨rfl, hbh'⟩; have hbh := hbg.trans (hbh'.mono hbg.size)))
        all_goals go_wp2
        all_goals go_ret
        all_goals exact ⟨rfl, HBE.out.trans (hbh.mono HBE.out.size)⟩
      · have hr' : rest.toList.isEmpty = false := by simpa using hr
        have HRow : Hid (∀ w1 v1, IsRow w1 1 v1 ks.length (intCells ks) → Calls Tryd.prog 14 #[.string s, v1] w1 fun e w' => RowPost [] 2 w1 e w') := fun w1 v1 h1 => row_long s v1 ks w1 hs h1 HL.out HE.out (by rw [hR]; exact hr')
        subst he
        clear hE hR hL HE HTN hr
        go_wp2_with fail
        refine (HRow.out _ _ hrd).mono ?_
        rintro e we ⟨ve, rfl, hve, hbe'⟩
        have hce : ∀ j, we.cell? ⟨wb.heap.size, j, none⟩ = #[Value.slice ab l.length cb, .string rest, .int .i64 0][j]? := fun j => (hbe'.cell (p := ⟨wb.heap.size, j, none⟩) hzd).trans (hcd j)
        have hbe := hbd.trans (hbe'.mono hbd.size)
        have hTe := hT.below hbe hsz
        clear hbd hbe' hcd hv3 hrd hzd HRow
        obtain ⟨ae, ce, rfl⟩ := hve.form
        clear hve
        go_wp2_with fail
        refine (awake_any _ hTe).mono ?_
        rintro e wf ⟨rfl, hbf'⟩
        have hbf : Hid (Below w.heap.size w wf) := hbe.trans (hbf'.mono hbe.size)
        clear hbe hbf' hce hTe
        go_wp2
        go_ret
        exact ⟨rfl, hbf.out⟩
    · have hte0 : (takeR s ks).2.2 ≠ 0 := by rw [hE]; exact he
      obtain ⟨n1, n2⟩ := takeR_none hte0
      have hl0 : l = [] := hL.symm.trans n1
      have hr0 : rest = ⟨#[]⟩ := hR.symm.trans n2
      have HRow : Hid (∀ w1 v1, IsRow w1 1 v1 ks.length (intCells ks) → Calls Tryd.prog 14 #[.string s, v1] w1 fun e w' => RowPost [] te w1 e w') := fun w1 v1 h1 => row_err' s v1 ks w1 hs h1 HL.out te hE (by rw [bne_iff_ne]; exact he)
      have he' : (te == 0) = false := by rw [beq_eq_false_iff_ne]; exact he
      clear hE hR hL HTN n1 n2 hte0 he
      subst hl0
      subst hr0
      go_wp2_with fail
      refine (HRow.out _ _ hrd).mono ?_
      rintro e we ⟨ve, rfl, hve, hbe'⟩
      have hce : ∀ j, we.cell? ⟨wb.heap.size, j, none⟩ = #[Value.slice ab ([] : List It).length cb, .string ⟨#[]⟩, .int .i64 te][j]? := fun j => (hbe'.cell (p := ⟨wb.heap.size, j, none⟩) hzd).trans (hcd j)
      have hbe := hbd.trans (hbe'.mono hbd.size)
      have hv4 := hv3.below hbe'
      have hze : wb.heap.size < we.heap.size := Nat.lt_of_lt_of_le hzd hbe'.size
      clear hbd hbe' hcd hv3 hrd hzd HRow
      obtain ⟨ae, ce, rfl⟩ := hve.form
      go_wp2_with fail
      have hcx2 : ∀ w2, Below we.heap.size we w2 → ∀ j, w2.cell? ⟨wb.heap.size, j, none⟩ = #[Value.slice ab ([] : List It).length cb, .string ⟨#[]⟩, .int .i64 te][j]? := fun w2 hb j => (hb.cell (p := ⟨wb.heap.size, j, none⟩) hze).trans (hce j)
      have hTe := hT.below hbe.drew hsz
      have HBE : Hid (Below w.heap.size w we) := hbe
      clear hbe
      go_region_with (first | (go_at_call 7; refine (awake_any _ hTe).mono ?_; rintro e wf ⟨rfl, hbf'⟩; have hbf := below_undrew hbf'; have hcf := hcx2 _ hbf) | (go_at_call 10; refine (refs_any _ ([] : List It) _ (hve.below hbf) (by simp)).mono ?_; rintro e wg ⟨vg, rfl, hvg, hbg'⟩; have hbg := hbf.trans (hbg'.mono hbf.size); have hcg := hcx2 _ hbg; have hv6 := hv4.below hbg) | (go_at_call 13; refine (same_eq _ _ ([] : List It) _ hvg hv6 (by simp)).mono ?_; rintro e wh ⟨rfl, hbh'⟩; have hbh := hbg.trans (hbh'.mono hbg.size)))
      all_goals go_wp2
      all_goals go_ret
      all_goals exact ⟨rfl, HBE.out.trans (hbh.mono HBE.out.size)⟩
end Go.Proofs.YtjgefiomcfpmeaaDoor
