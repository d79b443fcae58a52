/- ring.Hop, the reference's Hop: walks. -/
import Derived.Test.YtmnmjphgpblbhaaDoorZb5
import Derived.Test.YtmnmjphgpblbhaaDoorZb2
import Derived.ProofKit
import Derived.LaidMore
import Derived.Stop.LaidErr
import Derived.OpenShut
import Derived.ShutString
import Derived.ChangeOld
import Derived.Below
import Derived.Lib.LaidTab
import Derived.Stop.Joined
import Derived.Deep.Slices
import Derived.Deep.Strs
import Derived.SizedLaws
namespace Go.Proofs.YtmnmjphgpblbhaaDoor
open Go.RowKit

/-- Where the way goes; 0: nowhere. -/
def hopN (frm : Int) (key : Nat) (r : List Nat) : Nat := if plI frm r < 0 ∨ plI frm r = (owI key r : Int) then 0 else r[hopP key r (plI frm r).toNat (pt (r[(plI frm r).toNat]!))]!
theorem hopN_not {frm : Int} {key : Nat} {r : List Nat} (h : plI frm r = -1) : hopN frm key r = 0 := if_pos (.inl (by rw [h]; decide))
theorem hopN_own {frm : Int} {key : Nat} {r : List Nat} {a : Nat} (h : plI frm r = (a : Int)) (he : owI key r = a) : hopN frm key r = 0 := if_pos (.inr (by rw [h, he]))
theorem hopN_at {frm : Int} {key : Nat} {r : List Nat} {a : Nat} (ha : a < r.length) (h : plI frm r = (a : Int)) (he : owI key r ≠ a) : hopN frm key r = r[hopP key r a (pt r[a])]! := by
  unfold hopN
  rw [h, if_neg (by omega), Int.toNat_natCast, getElem!_pos r a ha]
theorem hopP_lt {key : Nat} {r : List Nat} {a : Nat} (hs : r.Pairwise (fun a b => pt a < pt b)) (ha : a < r.length) (he : owI key r ≠ a) : hopP key r a (pt r[a]) < r.length := by
  have hq := owI_lt key r hs (by omega)
  have h2 : 2 ≤ r.length := by omega
  have hK := fg_some r hs a ha h2 63
  unfold hopP
  split
  · exact hq
  · unfold hopK
    have hlt : (bst (dsL key r (fgL a r (pt r[a]) 64)) (dK key (pt r[a])) (fgL a r (pt r[a]) 64).length).getD 0 < (fgL a r (pt r[a]) 64).length := by
      cases hb : bst (dsL key r (fgL a r (pt r[a]) 64)) (dK key (pt r[a])) (fgL a r (pt r[a]) 64).length with
      | none => exact hK
      | some b => exact (bst_lt _ _ _ b hb).1
    rw [getElem!_pos (fgL a r (pt r[a]) 64) _ hlt]
    exact fgL_lt hs (by omega) 64 _ (List.getElem_mem hlt)
set_option maxRecDepth 100000 in
set_option maxHeartbeats 2000000 in
theorem hopL_any (frm : Int) (key : Nat) (v : Value) (l : List Int) (w : World) (hr : IsRow w 1 v l.length (iCells l)) (hl : l.length ≤ 1000) :
    Calls Tryd.prog 24 #[.int .i64 frm, .int .u64 (key : Int), v] w fun e w' => e = .returned (.tuple #[.int .i64 (hopN frm key (rgL l) : Int), .bool (decide (0 < hopN frm key (rgL l)))]) ∧ Below w.heap.size w w' := by
  have HS : Hid (Calls Tryd.prog 31 #[v] w fun e w' => StPost l w e w') := stands_any v l w hr hl
  have hrl := rg_le l
  have hsr := rgL_sorted l
  have hnode : ∀ n ∈ rgL l, 1 ≤ n ∧ n ≤ 15 := fun n hn => rgL_node hn
  generalize hR : rgL l = r at *
  clear hr
  have HPl : Hid (∀ v w, IsRow w 2 v r.length (stCells r) → Calls Tryd.prog 43 #[.int .i64 frm, v] w fun e w' => e = .returned (.int .i64 (plI frm r)) ∧ Below w.heap.size w w') := fun v w h => place_any frm v r w h (by omega)
  have HOw : Hid (∀ v w, IsRow w 2 v r.length (stCells r) → Calls Tryd.prog 32 #[.int .u64 (key : Int), v] w fun e w' => e = .returned (.int .i64 (owI key r : Int)) ∧ Below w.heap.size w w') := fun v w h => owner_any key v r w h hsr (by omega)
  rcases pl_cases frm r with ⟨hp, -⟩ | ⟨a, ha, hp, -⟩
  · rw [hopN_not hp]
    rw [hp] at HPl
    clear hp
    go_enter Tryd.func24, Tryd.ntmps24
    go_wp2_with fail
    refine HS.out.mono ?_
    rintro e w1 ⟨v1, rfl, hrow, hb1⟩
    rw [hR] at hrow
    clear hR HS hsr
    have HR : Hid (IsRow w1 2 v1 r.length (stCells r)) := hrow
    clear hrow
    go_wp2_with fail
    refine (HPl.out _ _ HR.out).mono ?_
    rintro e w2 ⟨rfl, hb2⟩
    have HB : Hid (Below w.heap.size w w2) := hb1.trans (hb2.mono hb1.size)
    clear hb1 hb2 HR
    go_wp2
    go_ret2
    exact ⟨rfl, HB.out⟩
  rw [hp] at HPl
  by_cases he : owI key r = a
  · rw [hopN_own hp he]
    rw [he] at HOw
    clear hp
    go_enter Tryd.func24, Tryd.ntmps24
    go_wp2_with fail
    refine HS.out.mono ?_
    rintro e w1 ⟨v1, rfl, hrow, hb1⟩
    rw [hR] at hrow
    clear hR HS hsr
    have HR : Hid (IsRow w1 2 v1 r.length (stCells r)) := hrow
    clear hrow
    go_wp2_with fail
    refine (HPl.out _ _ HR.out).mono ?_
    rintro e w2 ⟨rfl, hb2⟩
    have HR2 : Hid (IsRow w2 2 v1 r.length (stCells r)) := HR.out.below hb2
    have HB : Hid (Below w.heap.size w w2) := hb1.trans (hb2.mono hb1.size)
    clear hb1 hb2 HR
    go_wp2_with fail
    refine (HOw.out _ _ HR2.out).mono ?_
    rintro e w3 ⟨rfl, hb3⟩
    have HB3 : Hid (Below w.heap.size w w3) := HB.out.trans (hb3.mono HB.out.size)
    clear hb3
    go_wp2
    go_ret2
    exact ⟨rfl, HB3.out⟩
  · have HHp : Hid (∀ v w, IsRow w 2 v r.length (stCells r) → Calls Tryd.prog 44 #[.int .i64 (a : Int), .int .u64 (key : Int), v] w fun e w' => e = .returned (.int .i64 (hopP key r a (pt r[a]) : Int)) ∧ Below w.heap.size w w') := fun v w h => hop_any key a v r w ha he h hsr hrl
    have hlt := hopP_lt hsr ha he
    rw [hopN_at ha hp he, getElem!_pos r _ hlt]
    have hn1 := hnode _ (List.getElem_mem hlt)
    generalize hopP key r a (pt r[a]) = m at *
    generalize owI key r = q at *
    have dq : ((a : Int) == (q : Int)) = false := by rw [beq_eq_false_iff_ne]; omega
    have dn : decide (0 < r[m]) = true := by simp; omega
    rw [dn]
    clear hp dn
    go_enter Tryd.func24, Tryd.ntmps24
    go_wp2_with fail
    refine HS.out.mono ?_
    rintro e w1 ⟨v1, rfl, hrow, hb1⟩
    rw [hR] at hrow
    clear hR HS hsr
    obtain ⟨a1, cap1, rfl⟩ := hrow.form
    have HR : Hid (IsRow w1 2 (.slice a1 r.length cap1) r.length (stCells r)) := hrow
    clear hrow
    go_wp2_with fail
    refine (HPl.out _ _ HR.out).mono ?_
    rintro e w2 ⟨rfl, hb2⟩
    have HR2 : Hid (IsRow w2 2 (.slice a1 r.length cap1) r.length (stCells r)) := HR.out.below hb2
    have HB : Hid (Below w.heap.size w w2) := hb1.trans (hb2.mono hb1.size)
    clear hb1 hb2 HR
    go_wp2_with fail
    refine (HOw.out _ _ HR2.out).mono ?_
    rintro e w3 ⟨rfl, hb3⟩
    have HR3 : Hid (IsRow w3 2 (.slice a1 r.length cap1) r.length (stCells r)) := HR2.out.below hb3
    have HB3 : Hid (Below w.heap.size w w3) := HB.out.trans (hb3.mono HB.out.size)
    clear hb3 HR2 HB
    go_wp2_with fail
    refine (HHp.out _ _ HR3.out).mono ?_
    rintro e w4 ⟨rfl, hb4⟩
    obtain ⟨b, off, rfl, hltb, hcap, c0, c1⟩ := st_at (HR3.out.below hb4) m hlt
    have HB4 : Hid (Below w.heap.size w w4) := HB3.out.trans (hb4.mono HB3.out.size)
    clear hb4 HR3 HB3 c1
    go_wp2
    go_ret2
    exact ⟨rfl, HB4.out⟩
theorem hop_node {key : Nat} {r : List Nat} {a : Nat} (hs : r.Pairwise (fun a b => pt a < pt b)) (hd : r.Nodup) (ha : a < r.length) (he : owI key r ≠ a) :
    r[hopP key r a (pt r[a])]! = if r[owI key r]! ∈ gnL a r (pt r[a]) 64 then r[owI key r]! else (gnL a r (pt r[a]) 64)[(bst (dsL key r (fgL a r (pt r[a]) 64)) (dK key (pt r[a])) (gnL a r (pt r[a]) 64).length).getD 0]! := by
  have hq := owI_lt key r hs (by omega)
  have h2 : 2 ≤ r.length := by omega
  have hK := fg_some r hs a ha h2 63
  have hlen : (gnL a r (pt r[a]) 64).length = (fgL a r (pt r[a]) 64).length := by unfold gnL; rw [List.length_map]
  rw [getElem!_pos r (owI key r) hq, hlen]
  unfold hopP
  by_cases hm : owI key r ∈ fgL a r (pt r[a]) 64
  · rw [if_pos hm, if_pos ((gn_mem hd hs hq).2 hm), getElem!_pos r (owI key r) hq]
  · rw [if_neg hm, if_neg (fun h => hm ((gn_mem hd hs hq).1 h))]
    unfold hopK
    have hlt : (bst (dsL key r (fgL a r (pt r[a]) 64)) (dK key (pt r[a])) (fgL a r (pt r[a]) 64).length).getD 0 < (fgL a r (pt r[a]) 64).length := by
      cases hb : bst (dsL key r (fgL a r (pt r[a]) 64)) (dK key (pt r[a])) (fgL a r (pt r[a]) 64).length with
      | none => exact hK
      | some b => exact (bst_lt _ _ _ b hb).1
    unfold gnL
    rw [getElem!_pos (fgL a r (pt r[a]) 64) _ hlt, getElem!_pos ((fgL a r (pt r[a]) 64).map fun i => r[i]!) _ (by rw [List.length_map]; exact hlt), List.getElem_map]
theorem ds_node {key : Nat} {r : List Nat} {a p k : Nat} (hk : k < (gnL a r p 64).length) : (dsL key r (fgL a r p 64))[k]! = dK key (pt (gnL a r p 64)[k]) := by
  unfold gnL at hk ⊢
  rw [List.length_map] at hk
  unfold dsL
  rw [getElem!_pos _ k (by rw [List.length_map]; exact hk), List.getElem_map, List.getElem_map]
end Go.Proofs.YtmnmjphgpblbhaaDoor
/- The reference's Hop: its walk. -/
namespace Go.Proofs.YtmnmjphgpblbhaaDoor
open Go.RowKit

/-- The best finger so far, as the reference counts. -/
def bsI : Option Nat → Int
  | none => -1
  | some b => (b : Int)
set_option maxRecDepth 100000 in
set_option maxHeartbeats 4000000 in
theorem refHop_any (frm : Int) (key : Nat) (v : Value) (l : List Int) (w : World) (hr : IsRow w 1 v l.length (iCells l)) (hl : l.length ≤ 1000) :
    Calls Tryd.prog 25 #[.int .i64 frm, .int .u64 (key : Int), v] w fun e w' => e = .returned (.int .i64 (hopN frm key (rgL l) : Int)) ∧ Below w.heap.size w w' := by
  obtain ⟨a0, cap0, rfl⟩ := hr.form
  have HR : Hid (IsRow w 1 (.slice a0 l.length cap0) l.length (iCells l)) := hr
  have HNd : Hid (Calls Tryd.prog 14 #[.slice a0 l.length cap0] w fun e w' => e = .returned (.bool (nodesB l)) ∧ Below w.heap.size w w') := refNodes_any _ l w hr (by omega)
  clear hr
  by_cases hN : NodesP l
  rotate_left
  · rw [nodesB_false hN] at HNd
    have HG : Hid (hopN frm key (rgL l) = 0) := by show _ = _; rw [rgL_not hN]; rfl
    rw [HG.out]
    go_enter Tryd.func25, Tryd.ntmps25
    go_wp2_with fail
    refine HNd.out.mono ?_
    rintro e w1 ⟨rfl, hb1⟩
    have HB : Hid (Below w.heap.size w w1) := hb1
    clear hb1
    go_wp2
    go_ret
    exact ⟨rfl, HB.out⟩
  rw [nodesB_true hN] at HNd
  have HHs : Hid (∀ w, IsRow w 1 (.slice a0 l.length cap0) l.length (iCells l) → Calls Tryd.prog 29 #[.slice a0 l.length cap0, .int .i64 frm] w fun e w' => e = .returned (.bool (decide (frm ∈ l))) ∧ w' = w) := fun w h => has_any _ l frm w h (by omega)
  have HOw : Hid (∀ w, IsRow w 1 (.slice a0 l.length cap0) l.length (iCells l) → Calls Tryd.prog 19 #[.int .u64 (key : Int), .slice a0 l.length cap0] w fun e w' => e = .returned (.int .i64 (ownL key l : Int)) ∧ Below w.heap.size w w') := fun w h => refOwner_any key _ l w h hl
  rcases pl_cases frm (rgL l) with ⟨hp, hno⟩ | ⟨a, ha, hp, hna⟩
  · have hnl : ¬ frm ∈ l := fun h => by
      obtain ⟨a, ha, e⟩ := (has_iff hN frm).1 h
      exact hno _ (List.getElem_mem ha) e
    rw [decide_eq_false hnl] at HHs
    rw [hopN_not hp]
    go_enter Tryd.func25, Tryd.ntmps25
    go_wp2_with fail
    refine HNd.out.mono ?_
    rintro e w1 ⟨rfl, hb1⟩
    have HR1 : Hid (IsRow w1 1 (.slice a0 l.length cap0) l.length (iCells l)) := HR.out.below hb1
    have HB : Hid (Below w.heap.size w w1) := hb1
    clear hb1
    go_wp2_with fail
    refine (HHs.out _ HR1.out).mono ?_
    rintro e w2 ⟨rfl, hw⟩
    subst hw
    go_wp2
    go_ret
    exact ⟨rfl, HB.out⟩
  have hnl : frm ∈ l := (has_iff hN frm).2 ⟨a, ha, hna⟩
  rw [decide_eq_true hnl] at HHs
  obtain ⟨hq, hoq⟩ := own_at key l (by omega)
  have hd := rgL_nodup l
  have hsr := rgL_sorted l
  by_cases he : owI key (rgL l) = a
  · rw [hopN_own hp he]
    have hof : (ownL key l : Int) = frm := by rw [hoq, ← hna]; simp only [he]
    rw [hof] at HOw
    go_enter Tryd.func25, Tryd.ntmps25
    go_wp2_with fail
    refine HNd.out.mono ?_
    rintro e w1 ⟨rfl, hb1⟩
    have HR1 : Hid (IsRow w1 1 (.slice a0 l.length cap0) l.length (iCells l)) := HR.out.below hb1
    have HB : Hid (Below w.heap.size w w1) := hb1
    clear hb1
    go_wp2_with fail
    refine (HHs.out _ HR1.out).mono ?_
    rintro e w2 ⟨rfl, hw⟩
    subst hw
    go_wp2_with fail
    refine (HOw.out _ HR1.out).mono ?_
    rintro e w3 ⟨rfl, hb3⟩
    have HB3 : Hid (Below w.heap.size w w3) := HB.out.trans (hb3.mono HB.out.size)
    clear hb3
    go_wp2
    go_ret
    exact ⟨rfl, HB3.out⟩
  have hof : (ownL key l : Int) ≠ frm := fun e => he (get_inj hd hq ha (by rw [hoq, ← hna] at e; omega))
  have dof : ((ownL key l : Int) == frm) = false := by rw [beq_eq_false_iff_ne]; exact hof
  have HFg : Hid (∀ w, IsRow w 1 (.slice a0 l.length cap0) l.length (iCells l) → Calls Tryd.prog 27 #[.int .i64 frm, .slice a0 l.length cap0] w fun e w' => RwPost (gnL a (rgL l) (pt (rgL l)[a]) 64) w e w') := fun w h => by
    have := refFingers_any frm _ l w h hl
    rw [FgL_at ha hp] at this
    exact this
  have hres := hop_node hsr hd ha he
  rw [getElem!_pos (rgL l) (owI key (rgL l)) hq, ← hoq] at hres
  rw [hopN_at ha hp he, hres]
  have HDs : Hid (∀ (k : Nat) (hk : k < (gnL a (rgL l) (pt (rgL l)[a]) 64).length), (dsL key (rgL l) (fgL a (rgL l) (pt (rgL l)[a]) 64))[k]! = dK key (pt (gnL a (rgL l) (pt (rgL l)[a]) 64)[k])) := fun k hk => ds_node hk
  have HNode : Hid (∀ n ∈ gnL a (rgL l) (pt (rgL l)[a]) 64, 1 ≤ n ∧ n ≤ 15) := fun n hn => by
    unfold gnL at hn
    obtain ⟨i, hi, rfl⟩ := List.mem_map.1 hn
    have hir := fgL_lt hsr (by omega) 64 i hi
    rw [getElem!_pos (rgL l) i hir]
    exact rgL_node (List.getElem_mem hir)
  have hK1 : 1 ≤ (gnL a (rgL l) (pt (rgL l)[a]) 64).length := by unfold gnL; rw [List.length_map]; exact fg_some _ hsr a ha (by omega) 63
  have hKl := gn_len a (rgL l) (pt (rgL l)[a]) 64
  obtain ⟨n1, n2⟩ := rgL_node (List.getElem_mem ha)
  have HP0 : Hid (∀ w, Calls Tryd.prog 23 #[.int .i64 frm] w fun e w' => e = .returned (.int .u64 (pt (rgL l)[a] : Int)) ∧ Below w.heap.size w w') := fun w => by
    have := refPoint_any frm w
    rw [← hna] at this ⊢
    rw [ptI, if_pos (isN_of (by omega) (by omega)), Int.toNat_natCast] at this
    exact this
  have HPn : Hid (∀ (n : Nat), 1 ≤ n ∧ n ≤ 15 → ∀ w, Calls Tryd.prog 23 #[.int .i64 (n : Int)] w fun e w' => e = .returned (.int .u64 (pt n : Int)) ∧ Below w.heap.size w w') := fun n hn w => by
    have := refPoint_any (n : Int) w
    rw [ptI, if_pos (isN_of (by omega) (by omega)), Int.toNat_natCast] at this
    exact this
  generalize gnL a (rgL l) (pt (rgL l)[a]) 64 = F at *
  generalize dsL key (rgL l) (fgL a (rgL l) (pt (rgL l)[a]) 64) = ds at *
  generalize pt (rgL l)[a] = p at *
  generalize ownL key l = o at *
  have HSt : Hid (∀ k, bst ds (dK key p) (k + 1) = if ds[k]! < lst ds (dK key p) (bst ds (dK key p) k) then some k else bst ds (dK key p) k) := fun k => rfl
  have HBl : Hid (∀ k b, bst ds (dK key p) k = some b → b < k ∧ ds[b]! < dK key p) := fun k b h => bst_lt _ _ k b h
  have hb0 : bst ds (dK key p) 0 = none := rfl
  have hw0 := dK_wrap key p
  have HWn : Hid (∀ y : Nat, IntKind.u64.wrap ((key : Int) - y) = (dK key y : Int)) := fun y => dK_wrap key y
  generalize hd0 : dK key p = d0 at *
  clear hres hof hoq hq hna hp ha hN hnl hd hsr he n1 n2 hd0
  by_cases hoF : o ∈ F
  · rw [if_pos hoF]
    go_enter Tryd.func25, Tryd.ntmps25
    go_wp2_with fail
    refine HNd.out.mono ?_
    rintro e w1 ⟨rfl, hb1⟩
    have HR1 : Hid (IsRow w1 1 (.slice a0 l.length cap0) l.length (iCells l)) := HR.out.below hb1
    have HB1 : Hid (Below w.heap.size w w1) := hb1
    clear hb1
    go_wp2_with fail
    refine (HHs.out _ HR1.out).mono ?_
    rintro e w2 ⟨rfl, hw⟩
    subst hw
    go_wp2_with fail
    refine (HOw.out _ HR1.out).mono ?_
    rintro e w3 ⟨rfl, hb3⟩
    have HR3 : Hid (IsRow w3 1 (.slice a0 l.length cap0) l.length (iCells l)) := HR1.out.below hb3
    have HB3 : Hid (Below w.heap.size w w3) := HB1.out.trans (hb3.mono HB1.out.size)
    clear hb3 HB1
    go_wp2_with fail
    refine (HFg.out _ HR3.out).mono ?_
    rintro e w4 ⟨v4, rfl, hrow4, hb4⟩
    have HR4 : Hid (IsRow w4 1 (.slice a0 l.length cap0) l.length (iCells l)) := HR3.out.below hb4
    have HF4 : Hid (IsRow w4 1 v4 F.length (nCells F)) := hrow4
    have HB4 : Hid (Below w.heap.size w w4) := HB3.out.trans (hb4.mono HB3.out.size)
    clear hb4 HB3 hrow4
    go_wp2_with fail
    refine (HOw.out _ HR4.out).mono ?_
    rintro e w5 ⟨rfl, hb5⟩
    have HR5 : Hid (IsRow w5 1 (.slice a0 l.length cap0) l.length (iCells l)) := HR4.out.below hb5
    have HB5 : Hid (Below w.heap.size w w5) := HB4.out.trans (hb5.mono HB4.out.size)
    have HC : Hid (Calls Tryd.prog 29 #[v4, .int .i64 (o : Int)] w5 fun e w' => e = .returned (.bool true) ∧ w' = w5) := by
      have := has_any v4 (F.map fun (n : Nat) => (n : Int)) (o : Int) w5 (by rw [List.length_map, ← nCells_is]; exact HF4.out.below hb5) (by rw [List.length_map]; omega)
      rw [mem_cast, decide_eq_true hoF] at this
      exact this
    clear hb5 HB4
    go_wp2_with fail
    refine HC.out.mono ?_
    rintro e w6 ⟨rfl, hw⟩
    subst hw
    go_wp2_with fail
    refine (HOw.out _ HR5.out).mono ?_
    rintro e w7 ⟨rfl, hb7⟩
    have HB7 : Hid (Below w.heap.size w w7) := HB5.out.trans (hb7.mono HB5.out.size)
    clear hb7
    go_wp2
    go_ret
    exact ⟨rfl, HB7.out⟩
  rw [if_neg hoF]
  go_enter Tryd.func25, Tryd.ntmps25
  go_wp2_with fail
  refine HNd.out.mono ?_
  rintro e w1 ⟨rfl, hb1⟩
  have HR1 : Hid (IsRow w1 1 (.slice a0 l.length cap0) l.length (iCells l)) := HR.out.below hb1
  have HB1 : Hid (Below w.heap.size w w1) := hb1
  clear hb1
  go_wp2_with fail
  refine (HHs.out _ HR1.out).mono ?_
  rintro e w2 ⟨rfl, hw⟩
  subst hw
  go_wp2_with fail
  refine (HOw.out _ HR1.out).mono ?_
  rintro e w3 ⟨rfl, hb3⟩
  have HR3 : Hid (IsRow w3 1 (.slice a0 l.length cap0) l.length (iCells l)) := HR1.out.below hb3
  have HB3 : Hid (Below w.heap.size w w3) := HB1.out.trans (hb3.mono HB1.out.size)
  clear hb3 HB1
  go_wp2_with fail
  refine (HFg.out _ HR3.out).mono ?_
  rintro e w4 ⟨v4, rfl, hrow4, hb4⟩
  obtain ⟨a4, cap4, rfl⟩ := hrow4.form
  have HR4 : Hid (IsRow w4 1 (.slice a0 l.length cap0) l.length (iCells l)) := HR3.out.below hb4
  have HF4 : Hid (IsRow w4 1 (.slice a4 F.length cap4) F.length (nCells F)) := hrow4
  have HB4 : Hid (Below w.heap.size w w4) := HB3.out.trans (hb4.mono HB3.out.size)
  clear hb4 HB3 hrow4
  go_wp2_with fail
  refine (HOw.out _ HR4.out).mono ?_
  rintro e w5 ⟨rfl, hb5⟩
  have HF5 : Hid (IsRow w5 1 (.slice a4 F.length cap4) F.length (nCells F)) := HF4.out.below hb5
  have HB5 : Hid (Below w.heap.size w w5) := HB4.out.trans (hb5.mono HB4.out.size)
  have HC : Hid (Calls Tryd.prog 29 #[.slice a4 F.length cap4, .int .i64 (o : Int)] w5 fun e w' => e = .returned (.bool false) ∧ w' = w5) := by
    have := has_any (.slice a4 F.length cap4) (F.map fun (n : Nat) => (n : Int)) (o : Int) w5 (by rw [List.length_map, ← nCells_is]; exact HF5.out) (by rw [List.length_map]; omega)
    rw [mem_cast, decide_eq_false hoF] at this
    exact this
  clear hb5 HB4 HF4 HNd HFg HHs HOw HR HR1 HR3 HR4
  go_wp2_with fail
  refine HC.out.mono ?_
  rintro e w6 ⟨rfl, hw⟩
  subst hw
  clear HC dof
  go_wp2_with fail
  go_loopw [8, 9] (fun t i wr => ∃ (k : Nat) (z : Int), k ≤ F.length ∧ i = .int .i64 (k : Int) ∧ t = .int .i64 z ∧ Hid (z = bsI (bst ds d0 k)) ∧ Below w6.heap.size w6 wr) (fun _ i _ => F.length - (intOf i).toNat)
  case atStart => exact ⟨0, -1, Nat.zero_le _, rfl, rfl, by show _ = _; rw [hb0]; rfl, Below.refl _ _⟩
  case round =>
    obtain ⟨k, z, hk, rfl, rfl, HZ, hB⟩ := hrel
    by_cases hlk : k < F.length
    · have dk : decide ((k : Int) < F.length) = true := by simp; omega
      obtain ⟨b, off, hbo, hlt, hcap, ck⟩ := n_at (HF5.out.below hB) k hlk
      subst hbo
      have hst := HSt.out k
      have hdk := HDs.out k hlk
      have HPk := HPn.out F[k] (HNode.out _ (List.getElem_mem hlk))
      have hwk := HWn.out (pt F[k])
      rw [← hdk] at hwk
      have HPK : Hid (∀ w, Calls Tryd.prog 23 #[.int .i64 (F[k] : Int)] w fun e w' => e = .returned (.int .u64 (pt F[k] : Int)) ∧ Below w.heap.size w w') := HPk
      have HBk : Hid (Below w6.heap.size w6 wr) := hB
      generalize hdd : ds[k]! = d at *
      generalize pt F[k] = y at *
      generalize F[k]'hlk = m at *
      clear HPk hdk hB
      by_cases hlt0 : d < d0
      rotate_left
      · have dl : decide (d < d0) = false := by simpa using hlt0
        have hsame : bst ds d0 (k + 1) = bst ds d0 k := by
          rw [hst, if_neg]
          cases hbk : bst ds d0 k with
          | none => exact hlt0
          | some b' => have := (HBl.out k b' hbk).2; show ¬ d < ds[b']!; omega
        have HZ2 : Hid (z = bsI (bst ds d0 (k + 1))) := by show _ = _; rw [hsame]; exact HZ.out
        clear hst hsame HZ hlt0 hdd
        go_wp2_with fail
        refine (HPK.out _).mono ?_
        rintro e w7 ⟨rfl, hb7⟩
        have HB7 : Hid (Below w6.heap.size w6 w7) := HBk.out.trans (hb7.mono HBk.out.size)
        clear hb7 HPK
        go_wp2_with fail
        refine (HP0.out _).mono ?_
        rintro e w8 ⟨rfl, hb8⟩
        have HB8 : Hid (Below w6.heap.size w6 w8) := HB7.out.trans (hb8.mono HB7.out.size)
        clear hb8 HB7
        go_wp2
        go_roundw
        case rel => exact ⟨k + 1, z, by omega, by simp, rfl, HZ2, HB8.out⟩
        case measure => simp [intOf]; omega
      have dl : decide (d < d0) = true := by simpa using hlt0
      cases hbk : bst ds d0 k with
      | none =>
        have hz : z = -1 := by rw [HZ.out, hbk]; rfl
        subst hz
        rw [hbk, if_pos (show d < lst ds d0 none from hlt0)] at hst
        have HZ2 : Hid ((k : Int) = bsI (bst ds d0 (k + 1))) := by show _ = _; rw [hst]; rfl
        clear hst HZ hlt0 hdd hbk
        go_wp2_with fail
        refine (HPK.out _).mono ?_
        rintro e w7 ⟨rfl, hb7⟩
        have HB7 : Hid (Below w6.heap.size w6 w7) := HBk.out.trans (hb7.mono HBk.out.size)
        clear hb7 HPK
        go_wp2_with fail
        refine (HP0.out _).mono ?_
        rintro e w8 ⟨rfl, hb8⟩
        have HB8 : Hid (Below w6.heap.size w6 w8) := HB7.out.trans (hb8.mono HB7.out.size)
        clear hb8 HB7
        go_wp2
        go_roundw
        case rel => exact ⟨k + 1, (k : Int), by omega, by simp, rfl, HZ2, HB8.out⟩
        case measure => simp [intOf]; omega
      | some b' =>
        have hz : z = (b' : Int) := by rw [HZ.out, hbk]; rfl
        subst hz
        have hb'k := (HBl.out k b' hbk).1
        have hb'F : b' < F.length := by omega
        rw [hbk] at hst
        have hdb := HDs.out b' hb'F
        have HPb := HPn.out F[b'] (HNode.out _ (List.getElem_mem hb'F))
        have hwb := HWn.out (pt F[b'])
        rw [← hdb] at hwb
        have HPB : Hid (∀ w, Calls Tryd.prog 23 #[.int .i64 (F[b'] : Int)] w fun e w' => e = .returned (.int .u64 (pt F[b'] : Int)) ∧ Below w.heap.size w w') := HPb
        have HF7 : Hid (∀ w', Below w6.heap.size w6 w' → w'.cell? ⟨b, off + b', none⟩ = some (.int .i64 (F[b'] : Int))) := fun w' h => by
          obtain ⟨b2, off2, hbo2, -, -, cb⟩ := n_at (HF5.out.below h) b' hb'F
          cases hbo2
          exact cb
        have hst2 : bst ds d0 (k + 1) = if d < ds[b']! then some k else some b' := hst
        generalize ds[b']! = db at *
        generalize pt F[b'] = yb at *
        generalize F[b']'hb'F = mb at *
        clear HPb hdb hst hlt0 hbk hdd
        by_cases hltb : d < db
        · have dlb : decide (d < db) = true := by simpa using hltb
          rw [if_pos hltb] at hst2
          have HZ2 : Hid ((k : Int) = bsI (bst ds d0 (k + 1))) := by show _ = _; rw [hst2]; rfl
          clear hst2 HZ hltb
          go_wp2_with fail
          refine (HPK.out _).mono ?_
          rintro e w7 ⟨rfl, hb7⟩
          have HB7 : Hid (Below w6.heap.size w6 w7) := HBk.out.trans (hb7.mono HBk.out.size)
          clear hb7 HPK
          go_wp2_with fail
          refine (HP0.out _).mono ?_
          rintro e w8 ⟨rfl, hb8⟩
          have HB8 : Hid (Below w6.heap.size w6 w8) := HB7.out.trans (hb8.mono HB7.out.size)
          clear hb8 HB7
          have cb := HF7.out _ HB8.out
          go_wp2_with fail
          refine (HPB.out _).mono ?_
          rintro e w9 ⟨rfl, hb9⟩
          have HB9 : Hid (Below w6.heap.size w6 w9) := HB8.out.trans (hb9.mono HB8.out.size)
          clear hb9 HB8
          go_wp2
          go_roundw
          case rel => exact ⟨k + 1, (k : Int), by omega, by simp, rfl, HZ2, HB9.out⟩
          case measure => simp [intOf]; omega
        · have dlb : decide (d < db) = false := by simpa using hltb
          rw [if_neg hltb] at hst2
          have HZ2 : Hid ((b' : Int) = bsI (bst ds d0 (k + 1))) := by show _ = _; rw [hst2]; rfl
          clear hst2 HZ hltb
          go_wp2_with fail
          refine (HPK.out _).mono ?_
          rintro e w7 ⟨rfl, hb7⟩
          have HB7 : Hid (Below w6.heap.size w6 w7) := HBk.out.trans (hb7.mono HBk.out.size)
          clear hb7 HPK
          go_wp2_with fail
          refine (HP0.out _).mono ?_
          rintro e w8 ⟨rfl, hb8⟩
          have HB8 : Hid (Below w6.heap.size w6 w8) := HB7.out.trans (hb8.mono HB7.out.size)
          clear hb8 HB7
          have cb := HF7.out _ HB8.out
          go_wp2_with fail
          refine (HPB.out _).mono ?_
          rintro e w9 ⟨rfl, hb9⟩
          have HB9 : Hid (Below w6.heap.size w6 w9) := HB8.out.trans (hb9.mono HB8.out.size)
          clear hb9 HB8
          go_wp2
          go_roundw
          case rel => exact ⟨k + 1, (b' : Int), by omega, by simp, rfl, HZ2, HB9.out⟩
          case measure => simp [intOf]; omega
    · have dk : decide ((k : Int) < F.length) = false := by simp; omega
      have hk' : k = F.length := by omega
      subst hk'
      have HB : Hid (Below w.heap.size w wr) := HB5.out.trans (hB.mono HB5.out.size)
      cases hbk : bst ds d0 F.length with
      | none =>
        have hz : z = -1 := by rw [HZ.out, hbk]; rfl
        subst hz
        obtain ⟨b, off, hbo, hlt, hcap, c0⟩ := n_at (HF5.out.below hB) 0 hK1
        subst hbo
        have c0 : wr.cell? ⟨b, off, none⟩ = some (.int .i64 (F[0] : Int)) := c0
        have HFe : Hid (F[(none : Option Nat).getD 0]! = F[0]) := getElem!_pos F 0 hK1
        have hF0 : 0 < F.length := hK1
        clear hB HZ
        go_wp2
        go_ret
        exact ⟨by rw [hbk, HFe.out]; rfl, HB.out⟩
      | some b' =>
        have hz : z = (b' : Int) := by rw [HZ.out, hbk]; rfl
        subst hz
        have hb'F := (HBl.out _ b' hbk).1
        obtain ⟨b, off, hbo, hlt, hcap, c0⟩ := n_at (HF5.out.below hB) b' hb'F
        subst hbo
        have HFe : Hid (F[(some b').getD 0]! = F[b']) := getElem!_pos F b' hb'F
        clear hB HZ
        go_wp2
        go_ret
        exact ⟨by rw [hbk, HFe.out]; rfl, HB.out⟩
end Go.Proofs.YtmnmjphgpblbhaaDoor
/- RingHops: for all numbers and keys the law returns true. -/
namespace Go.Proofs.YtmnmjphgpblbhaaDoor
open Go.RowKit

set_option maxRecDepth 100000 in
set_option maxHeartbeats 4000000 in
theorem ringHops_walk (frm : Int) (key : Nat) (v : Value) (l : List Int) (w : World) (hr : IsRow w 1 v l.length (iCells l)) (hl : l.length ≤ 140737488355328) :
    Calls Tryd.prog 4 #[.int .i64 frm, .int .u64 (key : Int), v] w fun e w' => e = .returned (.bool true) ∧ Below w.heap.size w w' := by
  obtain ⟨a0, cap0, rfl⟩ := hr.form
  have HR : Hid (IsRow w 1 (.slice a0 l.length cap0) l.length (iCells l)) := hr
  have HA : Hid (∀ w, Calls Tryd.prog 9 #[] w fun e w' => e = .returned (.bool true) ∧ Below w.heap.size w w') := awake10_any
  have HFw : Hid (Calls Tryd.prog 8 #[.slice a0 l.length cap0] w fun e w' => e = .returned (.bool (decide (l.length ≤ 40))) ∧ w' = w) := few_any _ l w hr hl
  clear hr
  by_cases h40 : l.length ≤ 40
  rotate_left
  · rw [decide_eq_false h40] at HFw
    go_enter Tryd.func4, Tryd.ntmps4
    go_wp2_with fail
    refine HFw.out.mono ?_
    rintro e w1 ⟨rfl, hw⟩
    subst hw
    go_wp2_with fail
    refine (HA.out _).mono ?_
    rintro e w2 ⟨rfl, hb2⟩
    go_wp2
    go_ret
    exact ⟨rfl, hb2⟩
  rw [decide_eq_true h40] at HFw
  have HH : Hid (∀ w, IsRow w 1 (.slice a0 l.length cap0) l.length (iCells l) → Calls Tryd.prog 24 #[.int .i64 frm, .int .u64 (key : Int), .slice a0 l.length cap0] w fun e w' => e = .returned (.tuple #[.int .i64 (hopN frm key (rgL l) : Int), .bool (decide (0 < hopN frm key (rgL l)))]) ∧ Below w.heap.size w w') := fun w h => hopL_any frm key _ l w h (by omega)
  have HQ : Hid (∀ w, IsRow w 1 (.slice a0 l.length cap0) l.length (iCells l) → Calls Tryd.prog 25 #[.int .i64 frm, .int .u64 (key : Int), .slice a0 l.length cap0] w fun e w' => e = .returned (.int .i64 (hopN frm key (rgL l) : Int)) ∧ Below w.heap.size w w') := fun w h => refHop_any frm key _ l w h (by omega)
  have HF1 : Hid (∀ w, IsRow w 1 (.slice a0 l.length cap0) l.length (iCells l) → Calls Tryd.prog 26 #[.int .i64 frm, .slice a0 l.length cap0] w fun e w' => RiPost ((FgL frm (rgL l)).map fun (n : Nat) => (n : Int)) w e w') := fun w h => (fingersL_any frm _ l w h (by omega)).mono fun e w' h => h.ints
  have HF2 : Hid (∀ w, IsRow w 1 (.slice a0 l.length cap0) l.length (iCells l) → Calls Tryd.prog 27 #[.int .i64 frm, .slice a0 l.length cap0] w fun e w' => RiPost ((FgL frm (rgL l)).map fun (n : Nat) => (n : Int)) w e w') := fun w h => (refFingers_any frm _ l w h (by omega)).mono fun e w' h => h.ints
  have hFl : ((FgL frm (rgL l)).map fun (n : Nat) => (n : Int)).length ≤ 1000000 := by
    rw [List.length_map]
    rcases pl_cases frm (rgL l) with ⟨hp, -⟩ | ⟨a, ha, hp, -⟩
    · rw [FgL_not hp]; simp
    · rw [FgL_at ha hp, List.length_map]
      have := fgL_len a (rgL l) (pt (rgL l)[a]) 64
      omega
  generalize (FgL frm (rgL l)).map (fun (n : Nat) => (n : Int)) = F at *
  generalize hopN frm key (rgL l) = x at *
  have dx : decide ((0 : Int) < x) = decide (0 < x) := by by_cases h : 0 < x <;> simp [h]
  go_enter Tryd.func4, Tryd.ntmps4
  go_wp2_with fail
  refine HFw.out.mono ?_
  rintro e w1 ⟨rfl, hw⟩
  subst hw
  go_wp2_with fail
  refine (HH.out _ HR.out).mono ?_
  rintro e w2 ⟨rfl, hb2⟩
  have HR2 : Hid (IsRow w2 1 (.slice a0 l.length cap0) l.length (iCells l)) := HR.out.below hb2
  have HB2 : Hid (Below w1.heap.size w1 w2) := hb2
  clear hb2 HR HFw
  go_wp2_with fail
  refine (HQ.out _ HR2.out).mono ?_
  rintro e w3 ⟨rfl, hb3⟩
  have HR3 : Hid (IsRow w3 1 (.slice a0 l.length cap0) l.length (iCells l)) := HR2.out.below hb3
  have HB3 : Hid (Below w1.heap.size w1 w3) := HB2.out.trans (hb3.mono HB2.out.size)
  clear hb3 HR2 HB2
  go_wp2_with fail
  refine (HA.out _).mono ?_
  rintro e w4 ⟨rfl, hb4⟩
  have HR4 : Hid (IsRow w4 1 (.slice a0 l.length cap0) l.length (iCells l)) := HR3.out.below hb4
  have HB4 : Hid (Below w1.heap.size w1 w4) := HB3.out.trans (hb4.mono HB3.out.size)
  clear hb4 HR3 HB3
  go_wp2_with fail
  refine (HF1.out _ HR4.out).mono ?_
  rintro e w5 ⟨v5, rfl, hrow5, hb5⟩
  have HR5 : Hid (IsRow w5 1 (.slice a0 l.length cap0) l.length (iCells l)) := HR4.out.below hb5
  have HF5 : Hid (IsRow w5 1 v5 F.length (iCells F)) := hrow5
  have HB5 : Hid (Below w1.heap.size w1 w5) := HB4.out.trans (hb5.mono HB4.out.size)
  clear hb5 HR4 HB4 hrow5
  go_wp2_with fail
  refine (HF2.out _ HR5.out).mono ?_
  rintro e w6 ⟨v6, rfl, hrow6, hb6⟩
  have HF6 : Hid (IsRow w6 1 v5 F.length (iCells F)) := HF5.out.below hb6
  have HG6 : Hid (IsRow w6 1 v6 F.length (iCells F)) := hrow6
  have HB6 : Hid (Below w1.heap.size w1 w6) := HB5.out.trans (hb6.mono HB5.out.size)
  clear hb6 HR5 HB5 hrow6 HF5
  go_wp2_with fail
  refine (same_eq v5 v6 F _ HF6.out HG6.out hFl).mono ?_
  rintro e w7 ⟨rfl, hb7⟩
  have HB7 : Hid (Below w1.heap.size w1 w7) := HB6.out.trans (hb7.mono HB6.out.size)
  clear hb7
  by_cases hx : 0 < x
  · have e1 : decide (0 < x) = true := by simpa using hx
    go_wp2
    go_ret
    exact ⟨rfl, HB7.out⟩
  · have e1 : decide (0 < x) = false := by simpa using hx
    go_wp2
    go_ret
    exact ⟨rfl, HB7.out⟩
end Go.Proofs.YtmnmjphgpblbhaaDoor
/- What the listed variables give to the ring's laws (nothing is asked of them); ints and keys that came in. -/
namespace Go.Proofs.YtmnmjphgpblbhaaDoor
open Go.ChangeShapes Go.WideShapes Go.ChangeAt Go.WideMaps Go.WideElems Go.RowKit Go.Deep

theorem own : ownKnob Tryd.prog.godebug = none := by kernel_rfl
theorem laidOut : laidOutB Tryd.prog = true := by kernel_rfl
def laidR : List (String × DataW Unit) := [("math/bits.deBruijn32tab", Rows.laid_math_bits_deBruijn32tab), ("math/bits.deBruijn64tab", Rows.laid_math_bits_deBruijn64tab), ("internal/strconv.uint64pow10", Rows.laid_internal_strconv_uint64pow10)]
theorem door_met (os : Os) (args : Array Value) : laidMetH Tryd.prog laidR ((World.doorLaid Tryd.prog 400 os).forCall (fun _ _ => 0) ⟨#[], args, []⟩).memory :=
  laidMetH_of_parts3 (fuel := 8) (laidMet_of_run' 8 (by kernel_rfl) (by kernel_rfl)) (by kernel_rfl) (by kernel_rfl)
theorem c_int : Tryd.prog.cellsOf 3 = 1 := by kernel_rfl
theorem b_int : Tryd.prog.bytesOf 3 = 8 := by kernel_rfl
theorem add_lit (b off j : Nat) : (⟨b, off, none⟩ : Addr).add j = ⟨b, off + j, none⟩ := by unfold Addr.add; split <;> simp_all
theorem row_of_cells {w : World} {a : Addr} {len cap : Nat} {xs : List Value} (hx : xs.length = len) (hl : len ≤ cap) (hm : cap ≤ maxLen) (hc : ∀ i, i < len → w.cell? (a.add i) = xs[i]?) : IsRow w 1 (.slice (some a) len cap) len xs := by
  refine ⟨by omega, ?_⟩
  by_cases h0 : len = 0
  · subst h0
    exact .inl ⟨rfl, _, _, rfl⟩
  · right
    obtain ⟨b, off, spot⟩ := a
    obtain ⟨u0, hu0⟩ : ∃ u, xs[0]? = some u := ⟨xs[0]'(by omega), by simp⟩
    have hspot : spot = none := by
      have := (hc 0 (by omega)).trans hu0
      simpa [Addr.add] using World.cell?_spot this
    subst hspot
    have hcell : ∀ i, i < len → w.cell? ⟨b, off + i, none⟩ = xs[i]? := fun i hi => by rw [← add_lit]; exact hc i hi
    refine ⟨b, off, cap, rfl, block_lt_of_cell ((hcell 0 (by omega)).trans hu0), hl, hm, ?_⟩
    intro j u hu
    have hj : j < len := by have := (List.getElem?_eq_some_iff.1 hu).1; omega
    rw [hcell j hj]; exact hu
theorem open_ints' {H : Type} {enc : TypeId × Value → H} {w : World} {fuel : Nat} {v : Value} {x : DataW H × List MemPlace} (h : DataW.trod enc Tryd.prog w 0 (fun _ => true) true fuel 23 [v] = some x)
    (hz : ∀ n ∈ x.1.weights Tryd.prog 23, n ≤ reachBytes) :
    ∃ l : List Int, IsRow w 1 v l.length (iCells l) ∧ l.length ≤ 140737488355328 ∧ True := by
  rcases open_slice1 Tryd.underlying23 c_int h with ⟨hv, _⟩ | ⟨a, len, cap, m, n, V, D, Pl, hv, hb, hl, hm, hmm, rfl, hx⟩
  · simp at hv
    subst hv
    exact ⟨[], ⟨rfl, .inl ⟨rfl, _, _, rfl⟩⟩, by simp, trivial⟩
  simp at hv
  subst hv
  simp at hmm
  subst hmm
  have key : ∀ i, i < len → ∃ y : Int, V i = .int .i64 y := by
    intro i hi
    obtain ⟨y, e, _, _⟩ := DataW.trod_int Tryd.underlying3 (hx i (by omega)).2
    exact ⟨y, by simpa using e⟩
  obtain ⟨X, hX⟩ := choose_lt key
  have hlen : len * 8 ≤ reachBytes := by
    have := hz ((len + (m - len)) * 8) (by simp only [DataW.weights, Tryd.underlying23, b_int]; simp)
    omega
  have r := row_of_cells (w := w) (a := a) (xs := ((List.range len).map X).map (Value.int .i64)) (len := len) (cap := m) (by simp) hl hm (fun i hi => by rw [(hx i (by omega)).1, hX i hi]; simp [hi])
  refine ⟨(List.range len).map X, ?_, ?_, trivial⟩
  · simpa [iCells] using r
  · simp; unfold reachBytes at hlen; omega
/-- A key that came in. -/
theorem key_nat {x : Int} (h : (Lit.int .u64 x).wf = true) : ∃ n : Nat, x = (n : Int) := by
  have : 0 ≤ x := by
    have h2 : 0 ≤ x ∧ x ≤ 18446744073709551615 := by simpa [Lit.wf, IntKind.min, IntKind.max, IntKind.signed, IntKind.bits] using h
    exact h2.1
  exact ⟨x.toNat, by omega⟩
theorem int_rng {x : Int} (h : (Lit.int .i64 x).wf = true) : -9223372036854775808 ≤ x ∧ x ≤ 9223372036854775807 := by
  simpa [Lit.wf, IntKind.min, IntKind.max, IntKind.signed, IntKind.bits] using h
end Go.Proofs.YtmnmjphgpblbhaaDoor
