/- QuicLists: for every list and every text the law returns true, and what was there stays. -/
import Derived.Test.YtcfhghjgphhegaaDoorRU
import Derived.Test.YtcfhghjgphhegaaDoorRL
import Derived.Test.YtcfhghjgphhegaaDoorSame
import Derived.Test.YtcfhghjgphhegaaDoorM4
import Derived.Test.YtcfhghjgphhegaaDoorH
namespace Go.Proofs.YtcfhghjgphhegaaDoor
open Go.RowKit
set_option linter.unusedVariables false

def listS (l : List ByteArray) : ByteArray := if l.all okT = true then ⟨(numL l.length ++ l.flatMap txB).toArray⟩ else ⟨#[]⟩
def listE (l : List ByteArray) : Int := if l.all okT = true then 0 else 2
theorem list_any (v : Value) (l : List ByteArray) (w : World) (h : IsRow w 1 v l.length (strVals l)) (hT : Tab w) (hl : l.length ≤ 4096) (hs : ∀ x ∈ l, x.size ≤ 140737488355328) :
    Calls Tryd.prog 26 #[v] w fun e w' => e = .returned (.tuple #[.string (listS l), .int .i64 (listE l)]) ∧ Below w.heap.size w w' := by
  unfold listS listE
  by_cases hc : l.all okT = true
  · rw [if_pos hc, if_pos hc]; exact list_ok v l w h hT hl hc
  · rw [if_neg hc, if_neg hc]; exact list_bad v l w h hl hs (by simpa using hc)
theorem refList_any (v : Value) (l : List ByteArray) (w : World) (h : IsRow w 1 v l.length (strVals l)) (hl : l.length ≤ 4096) (hs : ∀ x ∈ l, x.size ≤ 140737488355328) :
    Calls Tryd.prog 27 #[v] w fun e w' => e = .returned (.tuple #[.string (listS l), .int .i64 (listE l)]) ∧ Below w.heap.size w w' := by
  unfold listS listE
  by_cases hc : l.all okT = true
  · rw [if_pos hc, if_pos hc]; exact refList_ok v l w h hl hc
  · rw [if_neg hc, if_neg hc]; exact refList_bad v l w h hl hs (by simpa using hc)

set_option maxRecDepth 100000 in
set_option maxHeartbeats 2000000 in
theorem quicLists_walk (v : Value) (l : List ByteArray) (s : ByteArray) (w : World) (h : IsRow w 1 v l.length (strVals l)) (hl : l.length ≤ 140737488355328) (hts : ∀ x ∈ l, x.size ≤ 140737488355328) (hs : s.size ≤ 140737488355328) (hT : Tab w) :
    Calls Tryd.prog 7 #[v, .string s] w fun e w' => e = .returned (.bool true) ∧ Below w.heap.size w w' := by
  obtain ⟨a0, cap0, rfl⟩ := h.form
  have hsz := hT.size
  by_cases g1 : 200 < l.length
  · have g1' : (200 : Int) < l.length := by omega
    go_enter Tryd.func7, Tryd.ntmps7
    go_wp2_with fail
    refine (awake_any _ hT).mono ?_
    rintro e w1 ⟨rfl, hb1⟩
    go_wp2
    go_ret
    exact ⟨rfl, hb1⟩
  have g1' : ¬ (200 : Int) < l.length := by omega
  by_cases g2 : 20000 < s.size
  · have g2' : (20000 : Int) < s.size := by omega
    go_enter Tryd.func7, Tryd.ntmps7
    go_wp2_with fail
    refine (awake_any _ hT).mono ?_
    rintro e w1 ⟨rfl, hb1⟩
    go_wp2
    go_ret
    exact ⟨rfl, hb1⟩
  have g2' : ¬ (20000 : Int) < s.size := by omega
  go_enter Tryd.func7, Tryd.ntmps7
  go_wp2_with fail
  go_loopw [5] (fun i wr => ∃ k : Nat, k ≤ l.length ∧ i = .int .i64 k ∧ Below w.heap.size w wr) (fun i _ => l.length - (intOf i).toNat)
  case atStart => exact ⟨0, Nat.zero_le _, rfl, Below.refl _ _⟩
  case round =>
    obtain ⟨k, hk, rfl, hb⟩ := hrel
    by_cases hlt : k < l.length
    · obtain ⟨b, off, rfl, hbl, c0⟩ := strs_at (h.below hb) k hlt
      have hi : (k : Int) < l.length := by omega
      have hxs := hts _ (List.getElem_mem hlt)
      by_cases hm : 2000 < l[k].size
      · have hm' : (2000 : Int) < l[k].size := by omega
        by_cases hm2 : l[k].size ≤ 65536
        · have hm2' : (l[k].size : Int) ≤ 65536 := by omega
          go_wp2_with fail
          refine (awake_any _ (hT.below hb hsz)).mono ?_
          rintro e w2 ⟨rfl, hb2'⟩
          have hb2 : Hid (Below w.heap.size w w2) := hb.trans (hb2'.mono hb.size)
          clear hb2' c0
          go_wp2
          go_ret
          exact ⟨rfl, hb2.out⟩
        · have hm2' : decide ((l[k].size : Int) ≤ 65536) = false := by simp; omega
          go_wp2
          go_roundw
          case rel => exact ⟨k + 1, by omega, by go_num, hb⟩
          case measure => simp [intOf]; omega
      · have hm' : ¬ (2000 : Int) < l[k].size := by omega
        go_wp2
        go_roundw
        case rel => exact ⟨k + 1, by omega, by go_num, hb⟩
        case measure => simp [intOf]; omega
    · have hk' : k = l.length := by omega
      subst hk'
      obtain ⟨W1, rfl⟩ : ∃ W1, W1 = wr := ⟨_, rfl⟩
      have hr1 := h.below hb
      have hT1 := hT.below hb hsz
      go_wp2_with fail
      refine (list_any _ l _ hr1 hT1 (by omega) hts).mono ?_
      rintro e wa ⟨rfl, hba'⟩
      have hba := hb.trans (hba'.mono hb.size)
      have hra := h.below hba
      clear hb hba' hr1 hT1
      go_wp2_with fail
      refine (refList_any _ l _ hra (by omega) hts).mono ?_
      rintro e wb ⟨rfl, hbb'⟩
      have hbb := hba.trans (hbb'.mono hba.size)
      clear hba hbb' hra
      go_wp2_with fail
      refine (unlist_any _ _ hs).mono ?_
      rintro e wc ⟨vc, rfl, hvc, hbc'⟩
      have hbc := hbb.trans (hbc'.mono hbb.size)
      clear hbb hbc'
      go_wp2_with fail
      refine (refUnlist_any _ _ hs).mono ?_
      rintro e wd ⟨vd, rfl, hvd, hbd'⟩
      have hbd := hbc.trans (hbd'.mono hbc.size)
      have hvcd := hvc.below hbd'
      have hTd := hT.below hbd hsz
      have HUL : Hid ((unlistR s).1.length ≤ 140737488355328) := by
        show _ ≤ _
        by_cases hu : (unlistR s).2.2 = 0
        · have := (unlist_bytes hu).2.1; omega
        · rw [(unlist_none hu).1]; simp
      clear hbc hbd' hvc
      generalize (unlistR s).1 = ul1 at *
      generalize (unlistR s).2.1 = ul2 at *
      generalize (unlistR s).2.2 = ul3 at *
      generalize listS l = LS at *
      generalize listE l = LE at *
      obtain ⟨ad, cd, rfl⟩ := hvd.form
      obtain ⟨ac, cc, rfl⟩ := hvcd.form
      go_wp2_with fail
      refine (awake_any _ (Tab_alloc hTd _)).mono ?_
      rintro e we ⟨rfl, hbe'⟩
      obtain ⟨hc, hf, hbl, hz⟩ := part_cells0 hbe'
      have hbe := hbd.trans (hbl.mono hbd.size)
      have hv1 := hvcd.below hbl
      have hv2 := hvd.below hbl
      clear hbd hbe' hbl hvcd hvd hTd
      go_wp2_with fail
      refine (sameTexts_eq _ _ ul1 _ hv1 hv2 HUL.out).mono ?_
      rintro e wf ⟨rfl, hbf'⟩
      have hcf : ∀ j, wf.cell? ⟨wd.heap.size, j, none⟩ = #[Value.slice ad ul1.length cd, .string ul2, .int .i64 ul3][j]? := fun j => (hbf'.cell (p := ⟨wd.heap.size, j, none⟩) hz).trans (hc j)
      have hbf : Hid (Below w.heap.size w wf) := hbe.trans (hbf'.mono hbe.size)
      clear hbe hbf' hc hf hv1 hv2
      go_wp2
      go_ret
      exact ⟨rfl, hbf.out⟩
end Go.Proofs.YtcfhghjgphhegaaDoor
