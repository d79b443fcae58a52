/- ring.Hop, the reference's Hop: walks. -/
import Derived.Test.YtmnmjphgpblbhaaDoorZb5
namespace Go.Proofs.YtmnmjphgpblbhaaDoor
open Go.RowKit

/-- Where the way goes; 0: nowhere. -/
def hopN (frm : Int) (key : Nat) (r : List Nat) : Nat := if plI frm r < 0 ∨ plI frm r = (owI key r : Int) then 0 else r[hopP key r (plI frm r).toNat (pt (r[(plI frm r).toNat]!))]!
theorem hopN_not {frm : Int} {key : Nat} {r : List Nat} (h : plI frm r = -1) : hopN frm key r = 0 := if_pos (.inl (by rw [h]; decide))
theorem hopN_own {frm : Int} {key : Nat} {r : List Nat} {a : Nat} (h : plI frm r = (a : Int)) (he : owI key r = a) : hopN frm key r = 0 := if_pos (.inr (by rw [h, he]))
theorem hopN_at {frm : Int} {key : Nat} {r : List Nat} {a : Nat} (ha : a < r.length) (h : plI frm r = (a : Int)) (he : owI key r ≠ a) : hopN frm key r = r[hopP key r a (pt r[a])]! := by
  unfold hopN
  rw [h, if_neg (by omega), Int.toNat_natCast, getElem!_pos r a ha]
theorem hopP_lt {key : Nat} {r : List Nat} {a : Nat} (hs : r.Pairwise (fun a b => pt a < pt b)) (ha : a < r.length) (he : owI key r ≠ a) : hopP key r a (pt r[a]) < r.length := by
  have hq := owI_lt key r hs (by omega)
  have h2 : 2 ≤ r.length := by omega
  have hK := fg_some r hs a ha h2 63
  unfold hopP
  split
  · exact hq
  · unfold hopK
    have hlt : (bst (dsL key r (fgL a r (pt r[a]) 64)) (dK key (pt r[a])) (fgL a r (pt r[a]) 64).length).getD 0 < (fgL a r (pt r[a]) 64).length := by
      cases hb : bst (dsL key r (fgL a r (pt r[a]) 64)) (dK key (pt r[a])) (fgL a r (pt r[a]) 64).length with
      | none => exact hK
      | some b => exact (bst_lt _ _ _ b hb).1
    rw [getElem!_pos (fgL a r (pt r[a]) 64) _ hlt]
    exact fgL_lt hs (by omega) 64 _ (List.getElem_mem hlt)
set_option maxRecDepth 100000 in
set_option maxHeartbeats 2000000 in
theorem hopL_any (frm : Int) (key : Nat) (v : Value) (l : List Int) (w : World) (hr : IsRow w 1 v l.length (iCells l)) (hl : l.length ≤ 1000) :
    Calls Tryd.prog 24 #[.int .i64 frm, .int .u64 (key : Int), v] w fun e w' => e = .returned (.tuple #[.int .i64 (hopN frm key (rgL l) : Int), .bool (decide (0 < hopN frm key (rgL l)))]) ∧ Below w.heap.size w w' := by
  have HS : Hid (Calls Tryd.prog 31 #[v] w fun e w' => StPost l w e w') := stands_any v l w hr hl
  have hrl := rg_le l
  have hsr := rgL_sorted l
  have hnode : ∀ n ∈ rgL l, 1 ≤ n ∧ n ≤ 15 := fun n hn => rgL_node hn
  generalize hR : rgL l = r at *
  clear hr
  have HPl : Hid (∀ v w, IsRow w 2 v r.length (stCells r) → Calls Tryd.prog 43 #[.int .i64 frm, v] w fun e w' => e = .returned (.int .i64 (plI frm r)) ∧ Below w.heap.size w w') := fun v w h => place_any frm v r w h (by omega)
  have HOw : Hid (∀ v w, IsRow w 2 v r.length (stCells r) → Calls Tryd.prog 32 #[.int .u64 (key : Int), v] w fun e w' => e = .returned (.int .i64 (owI key r : Int)) ∧ Below w.heap.size w w') := fun v w h => owner_any key v r w h hsr (by omega)
  rcases pl_cases frm r with ⟨hp, -⟩ | ⟨a, ha, hp, -⟩
  · rw [hopN_not hp]
    rw [hp] at HPl
    clear hp
    go_enter Tryd.func24, Tryd.ntmps24
    go_wp2_with fail
    refine HS.out.mono ?_
    rintro e w1 ⟨v1, rfl, hrow, hb1⟩
    rw [hR] at hrow
    clear hR HS hsr
    have HR : Hid (IsRow w1 2 v1 r.length (stCells r)) := hrow
    clear hrow
    go_wp2_with fail
    refine (HPl.out _ _ HR.out).mono ?_
    rintro e w2 ⟨rfl, hb2⟩
    have HB : Hid (Below w.heap.size w w2) := hb1.trans (hb2.mono hb1.size)
    clear hb1 hb2 HR
    go_wp2
    go_ret2
    exact ⟨rfl, HB.out⟩
  rw [hp] at HPl
  by_cases he : owI key r = a
  · rw [hopN_own hp he]
    rw [he] at HOw
    clear hp
    go_enter Tryd.func24, Tryd.ntmps24
    go_wp2_with fail
    refine HS.out.mono ?_
    rintro e w1 ⟨v1, rfl, hrow, hb1⟩
    rw [hR] at hrow
    clear hR HS hsr
    have HR : Hid (IsRow w1 2 v1 r.length (stCells r)) := hrow
    clear hrow
    go_wp2_with fail
    refine (HPl.out _ _ HR.out).mono ?_
    rintro e w2 ⟨rfl, hb2⟩
    have HR2 : Hid (IsRow w2 2 v1 r.length (stCells r)) := HR.out.below hb2
    have HB : Hid (Below w.heap.size w w2) := hb1.trans (hb2.mono hb1.size)
    clear hb1 hb2 HR
    go_wp2_with fail
    refine (HOw.out _ _ HR2.out).mono ?_
    rintro e w3 ⟨rfl, hb3⟩
    have HB3 : Hid (Below w.heap.size w w3) := HB.out.trans (hb3.mono HB.out.size)
    clear hb3
    go_wp2
    go_ret2
    exact ⟨rfl, HB3.out⟩
  · have HHp : Hid (∀ v w, IsRow w 2 v r.length (stCells r) → Calls Tryd.prog 44 #[.int .i64 (a : Int), .int .u64 (key : Int), v] w fun e w' => e = .returned (.int .i64 (hopP key r a (pt r[a]) : Int)) ∧ Below w.heap.size w w') := fun v w h => hop_any key a v r w ha he h hsr hrl
    have hlt := hopP_lt hsr ha he
    rw [hopN_at ha hp he, getElem!_pos r _ hlt]
    have hn1 := hnode _ (List.getElem_mem hlt)
    generalize hopP key r a (pt r[a]) = m at *
    generalize owI key r = q at *
    have dq : ((a : Int) == (q : Int)) = false := by rw [beq_eq_false_iff_ne]; omega
    have dn : decide (0 < r[m]) = true := by simp; omega
    rw [dn]
    clear hp dn
    go_enter Tryd.func24, Tryd.ntmps24
    go_wp2_with fail
    refine HS.out.mono ?_
    rintro e w1 ⟨v1, rfl, hrow, hb1⟩
    rw [hR] at hrow
    clear hR HS hsr
    obtain ⟨a1, cap1, rfl⟩ := hrow.form
    have HR : Hid (IsRow w1 2 (.slice a1 r.length cap1) r.length (stCells r)) := hrow
    clear hrow
    go_wp2_with fail
    refine (HPl.out _ _ HR.out).mono ?_
    rintro e w2 ⟨rfl, hb2⟩
    have HR2 : Hid (IsRow w2 2 (.slice a1 r.length cap1) r.length (stCells r)) := HR.out.below hb2
    have HB : Hid (Below w.heap.size w w2) := hb1.trans (hb2.mono hb1.size)
    clear hb1 hb2 HR
    go_wp2_with fail
    refine (HOw.out _ _ HR2.out).mono ?_
    rintro e w3 ⟨rfl, hb3⟩
    have HR3 : Hid (IsRow w3 2 (.slice a1 r.length cap1) r.length (stCells r)) := HR2.out.below hb3
    have HB3 : Hid (Below w.heap.size w w3) := HB.out.trans (hb3.mono HB.out.size)
    clear hb3 HR2 HB
    go_wp2_with fail
    refine (HHp.out _ _ HR3.out).mono ?_
    rintro e w4 ⟨rfl, hb4⟩
    obtain ⟨b, off, rfl, hltb, hcap, c0, c1⟩ := st_at (HR3.out.below hb4) m hlt
    have HB4 : Hid (Below w.heap.size w w4) := HB3.out.trans (hb4.mono HB3.out.size)
    clear hb4 HR3 HB3 c1
    go_wp2
    go_ret2
    exact ⟨rfl, HB4.out⟩
theorem hop_node {key : Nat} {r : List Nat} {a : Nat} (hs : r.Pairwise (fun a b => pt a < pt b)) (hd : r.Nodup) (ha : a < r.length) (he : owI key r ≠ a) :
    r[hopP key r a (pt r[a])]! = if r[owI key r]! ∈ gnL a r (pt r[a]) 64 then r[owI key r]! else (gnL a r (pt r[a]) 64)[(bst (dsL key r (fgL a r (pt r[a]) 64)) (dK key (pt r[a])) (gnL a r (pt r[a]) 64).length).getD 0]! := by
  have hq := owI_lt key r hs (by omega)
  have h2 : 2 ≤ r.length := by omega
  have hK := fg_some r hs a ha h2 63
  have hlen : (gnL a r (pt r[a]) 64).length = (fgL a r (pt r[a]) 64).length := by unfold gnL; rw [List.length_map]
  rw [getElem!_pos r (owI key r) hq, hlen]
  unfold hopP
  by_cases hm : owI key r ∈ fgL a r (pt r[a]) 64
  · rw [if_pos hm, if_pos ((gn_mem hd hs hq).2 hm), getElem!_pos r (owI key r) hq]
  · rw [if_neg hm, if_neg (fun h => hm ((gn_mem hd hs hq).1 h))]
    unfold hopK
    have hlt : (bst (dsL key r (fgL a r (pt r[a]) 64)) (dK key (pt r[a])) (fgL a r (pt r[a]) 64).length).getD 0 < (fgL a r (pt r[a]) 64).length := by
      cases hb : bst (dsL key r (fgL a r (pt r[a]) 64)) (dK key (pt r[a])) (fgL a r (pt r[a]) 64).length with
      | none => exact hK
      | some b => exact (bst_lt _ _ _ b hb).1
    unfold gnL
    rw [getElem!_pos (fgL a r (pt r[a]) 64) _ hlt, getElem!_pos ((fgL a r (pt r[a]) 64).map fun i => r[i]!) _ (by rw [List.length_map]; exact hlt), List.getElem_map]
theorem ds_node {key : Nat} {r : List Nat} {a p k : Nat} (hk : k < (gnL a r p 64).length) : (dsL key r (fgL a r p 64))[k]! = dK key (pt (gnL a r p 64)[k]) := by
  unfold gnL at hk ⊢
  rw [List.length_map] at hk
  unfold dsL
  rw [getElem!_pos _ k (by rw [List.length_map]; exact hk), List.getElem_map, List.getElem_map]
end Go.Proofs.YtmnmjphgpblbhaaDoor
/- The reference's Hop: its walk. -/
namespace Go.Proofs.YtmnmjphgpblbhaaDoor
open Go.RowKit

/-- The best finger so far, as the reference counts. -/
def bsI : Option Nat → Int
  | none => -1
  | some b => (b : Int)
set_option maxRecDepth 100000 in
set_option maxHeartbeats 4000000 in
theorem refHop_any (frm : Int) (key : Nat) (v : Value) (l : List Int) (w : World) (hr : IsRow w 1 v l.length (iCells l)) (hl : l.length ≤ 1000) :
    Calls Tryd.prog 25 #[.int .i64 frm, .int .u64 (key : Int), v] w fun e w' => e = .returned (.int .i64 (hopN frm key (rgL l) : Int)) ∧ Below w.heap.size w w' := by
  obtain ⟨a0, cap0, rfl⟩ := hr.form
  have HR : Hid (IsRow w 1 (.slice a0 l.length cap0) l.length (iCells l)) := hr
  have HNd : Hid (Calls Tryd.prog 14 #[.slice a0 l.length cap0] w fun e w' => e = .returned (.bool (nodesB l)) ∧ Below w.heap.size w w') := refNodes_any _ l w hr (by omega)
  clear hr
  by_cases hN : NodesP l
  rotate_left
  · rw [nodesB_false hN] at HNd
    have HG : Hid (hopN frm key (rgL l) = 0) := by show _ = _; rw [rgL_not hN]; rfl
    rw [HG.out]
    go_enter Tryd.func25, Tryd.ntmps25
    go_wp2_with fail
    refine HNd.out.mono ?_
    rintro e w1 ⟨rfl, hb1⟩
    have HB : Hid (Below w.heap.size w w1) := hb1
    clear hb1
    go_wp2
    go_ret
    exact ⟨rfl, HB.out⟩
  rw [nodesB_true hN] at HNd
  have HHs : Hid (∀ w, IsRow w 1 (.slice a0 l.length cap0) l.length (iCells l) → Calls Tryd.prog 29 #[.slice a0 l.length cap0, .int .i64 frm] w fun e w' => e = .returned (.bool (decide (frm ∈ l))) ∧ w' = w) := fun w h => has_any _ l frm w h (by omega)
  have HOw : Hid (∀ w, IsRow w 1 (.slice a0 l.length cap0) l.length (iCells l) → Calls Tryd.prog 19 #[.int .u64 (key : Int), .slice a0 l.length cap0] w fun e w' => e = .returned (.int .i64 (ownL key l : Int)) ∧ Below w.heap.size w w') := fun w h => refOwner_any key _ l w h hl
  rcases pl_cases frm (rgL l) with ⟨hp, hno⟩ | ⟨a, ha, hp, hna⟩
  · have hnl : ¬ frm ∈ l := fun h => by
      obtain ⟨a, ha, e⟩ := (has_iff hN frm).1 h
      exact hno _ (List.getElem_mem ha) e
    rw [decide_eq_false hnl] at HHs
    rw [hopN_not hp]
    go_enter Tryd.func25, Tryd.ntmps25
    go_wp2_with fail
    refine HNd.out.mono ?_
    rintro e w1 ⟨rfl, hb1⟩
    have HR1 : Hid (IsRow w1 1 (.slice a0 l.length cap0) l.length (iCells l)) := HR.out.below hb1
    have HB : Hid (Below w.heap.size w w1) := hb1
    clear hb1
    go_wp2_with fail
    refine (HHs.out _ HR1.out).mono ?_
    rintro e w2 ⟨rfl, hw⟩
    subst hw
    go_wp2
    go_ret
    exact ⟨rfl, HB.out⟩
  have hnl : frm ∈ l := (has_iff hN frm).2 ⟨a, ha, hna⟩
  rw [decide_eq_true hnl] at HHs
  obtain ⟨hq, hoq⟩ := own_at key l (by omega)
  have hd := rgL_nodup l
  have hsr := rgL_sorted l
  by_cases he : owI key (rgL l) = a
  · rw [hopN_own hp he]
    have hof : (ownL key l : Int) = frm := by rw [hoq, ← hna]; simp only [he]
    rw [hof] at HOw
    go_enter Tryd.func25, Tryd.ntmps25
    go_wp2_with fail
    refine HNd.out.mono ?_
    rintro e w1 ⟨rfl, hb1⟩
    have HR1 : Hid (IsRow w1 1 (.slice a0 l.length cap0) l.length (iCells l)) := HR.out.below hb1
    have HB : Hid (Below w.heap.size w w1) := hb1
    clear hb1
    go_wp2_with fail
    refine (HHs.out _ HR1.out).mono ?_
    rintro e w2 ⟨rfl, hw⟩
    subst hw
    go_wp2_with fail
    refine (HOw.out _ HR1.out).mono ?_
    rintro e w3 ⟨rfl, hb3⟩
    have HB3 : Hid (Below w.heap.size w w3) := HB.out.trans (hb3.mono HB.out.size)
    clear hb3
    go_wp2
    go_ret
    exact ⟨rfl, HB3.out⟩
  have hof : (ownL key l : Int) ≠ frm := fun e => he (get_inj hd hq ha (by rw [hoq, ← hna] at e; omega))
  have dof : ((ownL key l : Int) == frm) = false := by rw [beq_eq_false_iff_ne]; exact hof
  have HFg : Hid (∀ w, IsRow w 1 (.slice a0 l.length cap0) l.length (iCells l) → Calls Tryd.prog 27 #[.int .i64 frm, .slice a0 l.length cap0] w fun e w' => RwPost (gnL a (rgL l) (pt (rgL l)[a]) 64) w e w') := fun w h => by
    have := refFingers_any frm _ l w h hl
    rw [FgL_at ha hp] at this
    exact this
  have hres := hop_node hsr hd ha he
  rw [getElem!_pos (rgL l) (owI key (rgL l)) hq, ← hoq] at hres
  rw [hopN_at ha hp he, hres]
  have HDs : Hid (∀ (k : Nat) (hk : k < (gnL a (rgL l) (pt (rgL l)[a]) 64).length), (dsL key (rgL l) (fgL a (rgL l) (pt (rgL l)[a]) 64))[k]! = dK key (pt (gnL a (rgL l) (pt (rgL l)[a]) 64)[k])) := fun k hk => ds_node hk
  have HNode : Hid (∀ n ∈ gnL a (rgL l) (pt (rgL l)[a]) 64, 1 ≤ n ∧ n ≤ 15) := fun n hn => by
    unfold gnL at hn
    obtain ⟨i, hi, rfl⟩ := List.mem_map.1 hn
    have hir := fgL_lt hsr (by omega) 64 i hi
    rw [getElem!_pos (rgL l) i hir]
    exact rgL_node (List.getElem_mem hir)
  have hK1 : 1 ≤ (gnL a (rgL l) (pt (rgL l)[a]) 64).length := by unfold gnL; rw [List.length_map]; exact fg_some _ hsr a ha (by omega) 63
  have hKl := gn_len a (rgL l) (pt (rgL l)[a]) 64
  obtain ⟨n1, n2⟩ := rgL_node (List.getElem_mem ha)
  have HP0 : Hid (∀ w, Calls Tryd.prog 23 #[.int .i64 frm] w fun e w' => e = .returned (.int .u64 (pt (rgL l)[a] : Int)) ∧ Below w.heap.size w w') := fun w => by
    have := refPoint_any frm w
    rw [← hna] at this ⊢
    rw [ptI, if_pos (isN_of (by omega) (by omega)), Int.toNat_natCast] at this
    exact this
  have HPn : Hid (∀ (n : Nat), 1 ≤ n ∧ n ≤ 15 → ∀ w, Calls Tryd.prog 23 #[.int .i64 (n : Int)] w fun e w' => e = .returned (.int .u64 (pt n : Int)) ∧ Below w.heap.size w w') := fun n hn w => by
    have := refPoint_any (n : Int) w
    rw [ptI, if_pos (isN_of (by omega) (by omega)), Int.toNat_natCast] at this
    exact this
  generalize gnL a (rgL l) (pt (rgL l)[a]) 64 = F at *
  generalize dsL key (rgL l) (fgL a (rgL l) (pt (rgL l)[a]) 64) = ds at *
  generalize pt (rgL l)[a] = p at *
  generalize ownL key l = o at *
  have HSt : Hid (∀ k, bst ds (dK key p) (k + 1) = if ds[k]! < lst ds (dK key p) (bst ds (dK key p) k) then some k else bst ds (dK key p) k) := fun k => rfl
  have HBl : Hid (∀ k b, bst ds (dK key p) k = some b → b < k ∧ ds[b]! < dK key p) := fun k b h => bst_lt _ _ k b h
  have hb0 : bst ds (dK key p) 0 = none := rfl
  have hw0 := dK_wrap key p
  have HWn : Hid (∀ y : Nat, IntKind.u64.wrap ((key : Int) - y) = (dK key y : Int)) := fun y => dK_wrap key y
  generalize hd0 : dK key p = d0 at *
  clear hres hof hoq hq hna hp ha hN hnl hd hsr he n1 n2 hd0
  by_cases hoF : o ∈ F
  · rw [if_pos hoF]
    go_enter Tryd.func25, Tryd.ntmps25
    go_wp2_with fail
    refine HNd.out.mono ?_
    rintro e w1 ⟨rfl, hb1⟩
    have HR1 : Hid (IsRow w1 1 (.slice a0 l.length cap0) l.length (iCells l)) := HR.out.below hb1
    have HB1 : Hid (Below w.heap.size w w1) := hb1
    clear hb1
    go_wp2_with fail
    refine (HHs.out _ HR1.out).mono ?_
    rintro e w2 ⟨rfl, hw⟩
    subst hw
    go_wp2_with fail
    refine (HOw.out _ HR1.out).mono ?_
    rintro e w3 ⟨rfl, hb3⟩
    have HR3 : Hid (IsRow w3 1 (.slice a0 l.length cap0) l.length (iCells l)) := HR1.out.below hb3
    have HB3 : Hid (Below w.heap.size w w3) := HB1.out.trans (hb3.mono HB1.out.size)
    clear hb3 HB1
    go_wp2_with fail
    refine (HFg.out _ HR3.out).mono ?_
    rintro e w4 ⟨v4, rfl, hrow4, hb4⟩
    have HR4 : Hid (IsRow w4 1 (.slice a0 l.length cap0) l.length (iCells l)) := HR3.out.below hb4
    have HF4 : Hid (IsRow w4 1 v4 F.length (nCells F)) := hrow4
    have HB4 : Hid (Below w.heap.size w w4) := HB3.out.trans (hb4.mono HB3.out.size)
    clear hb4 HB3 hrow4
    go_wp2_with fail
    refine (HOw.out _ HR4.out).mono ?_
    rintro e w5 ⟨rfl, hb5⟩
    have HR5 : Hid (IsRow w5 1 (.slice a0 l.length cap0) l.length (iCells l)) := HR4.out.below hb5
    have HB5 : Hid (Below w.heap.size w w5) := HB4.out.trans (hb5.mono HB4.out.size)
    have HC : Hid (Calls Tryd.prog 29 #[v4, .int .i64 (o : Int)] w5 fun e w' => e = .returned (.bool true) ∧ w' = w5) := by
      have := has_any v4 (F.map fun (n : Nat) => (n : Int)) (o : Int) w5 (by rw [List.length_map, ← nCells_is]; exact HF4.out.below hb5) (by rw [List.length_map]; omega)
      rw [mem_cast, decide_eq_true hoF] at this
      exact this
    clear hb5 HB4
    go_wp2_with fail
    refine HC.out.mono ?_
    rintro e w6 ⟨rfl, hw⟩
    subst hw
    go_wp2_with fail
    refine (HOw.out _ HR5.out).mono ?_
    rintro e w7 ⟨rfl, hb7⟩
    have HB7 : Hid (Below w.heap.size w w7) := HB5.out.trans (hb7.mono HB5.out.size)
    clear hb7
    go_wp2
    go_ret
    exact ⟨rfl, HB7.out⟩
  rw [if_neg hoF]
  go_enter Tryd.func25, Tryd.ntmps25
  go_wp2_with fail
  refine HNd.out.mono ?_
  rintro e w1 ⟨rfl, hb1⟩
  have HR1 : Hid (IsRow w1 1 (.slice a0 l.length cap0) l.length (iCells l)) := HR.out.below hb1
  have HB1 : Hid (Below w.heap.size w w1) := hb1
  clear hb1
  go_wp2_with fail
  refine (HHs.out _ HR1.out).mono ?_
  rintro e w2 ⟨rfl, hw⟩
  subst hw
  go_wp2_with fail
  refine (HOw.out _ HR1.out).mono ?_
  rintro e w3 ⟨rfl, hb3⟩
  have HR3 : Hid (IsRow w3 1 (.slice a0 l.length cap0) l.length (iCells l)) := HR1.out.below hb3
  have HB3 : Hid (Below w.heap.size w w3) := HB1.out.trans (hb3.mono HB1.out.size)
  clear hb3 HB1
  go_wp2_with fail
  refine (HFg.out _ HR3.out).mono ?_
  rintro e w4 ⟨v4, rfl, hrow4, hb4⟩
  obtain ⟨a4, cap4, rfl⟩ := hrow4.form
  have HR4 : Hid (IsRow w4 1 (.slice a0 l.length cap0) l.length (iCells l)) := HR3.out.below hb4
  have HF4 : Hid (IsRow w4 1 (.slice a4 F.length cap4) F.length (nCells F)) := hrow4
  have HB4 : Hid (Below w.heap.size w w4) := HB3.out.trans (hb4.mono HB3.out.size)
  clear hb4 HB3 hrow4
  go_wp2_with fail
  refine (HOw.out _ HR4.out).mono ?_
  rintro e w5 ⟨rfl, hb5⟩
  have HF5 : Hid (IsRow w5 1 (.slice a4 F.length cap4) F.length (nCells F)) := HF4.out.below hb5
  have HB5 : Hid (Below w.heap.size w w5) := HB4.out.trans (hb5.mono HB4.out.size)
  have HC : Hid (Calls Tryd.prog 29 #[.slice a4 F.length cap4, .int .i64 (o : Int)] w5 fun e w' => e = .returned (.bool false) ∧ w' = w5) := by
    have := has_any (.slice a4 F.length cap4) (F.map fun (n : Nat) => (n : Int)) (o : Int) w5 (by rw [List.length_map, ← nCells_is]; exact HF5.out) (by rw [List.length_map]; omega)
    rw [mem_cast, decide_eq_false hoF] at this
    exact this
  clear hb5 HB4 HF4 HNd HFg HHs HOw HR HR1 HR3 HR4
  go_wp2_with fail
  refine HC.out.mono ?_
  rintro e w6 ⟨rfl, hw⟩
  subst hw
  clear HC dof
  go_wp2_with fail
  go_loopw [8, 9] (fun t i wr => ∃ (k : Nat) (z : Int), k ≤ F.length ∧ i = .int .i64 (k : Int) ∧ t = .int .i64 z ∧ Hid (z = bsI (bst ds d0 k)) ∧ Below w6.heap.size w6 wr) (fun _ i _ => F.length - (intOf i).toNat)
  case atStart => exact ⟨0, -1, Nat.zero_le _, rfl, rfl, by show _ = _; rw [hb0]; rfl, Below.refl _ _⟩
  case round =>
    obtain ⟨k, z, hk, rfl, rfl, HZ, hB⟩ := hrel
    by_cases hlk : k < F.length
    · have dk : decide ((k : Int) < F.length) = true := by simp; omega
      obtain ⟨b, off, hbo, hlt, hcap, ck⟩ := n_at (HF5.out.below hB) k hlk
      subst hbo
      have hst := HSt.out k
      have hdk := HDs.out k hlk
      have HPk := HPn.out F[k] (HNode.out _ (List.getElem_mem hlk))
      have hwk := HWn.out (pt F[k])
      rw [← hdk] at hwk
      have HPK : Hid (∀ w, Calls Tryd.prog 23 #[.int .i64 (F[k] : Int)] w fun e w' => e = .returned (.int .u64 (pt F[k] : Int)) ∧ Below w.heap.size w w') := HPk
      have HBk : Hid (Below w6.heap.size w6 wr) := hB
      generalize hdd : ds[k]! = d at *
      generalize pt F[k] = y at *
      generalize F[k]'hlk = m at *
      clear HPk hdk hB
      by_cases hlt0 : d < d0
      rotate_left
      · have dl : decide (d < d0) = false := by simpa using hlt0
        have hsame : bst ds d0 (k + 1) = bst ds d0 k := by
          rw [hst, if_neg]
          cases hbk : bst ds d0 k with
          | none => exact hlt0
          | some b' => have := (HBl.out k b' hbk).2; show ¬ d < ds[b']!; omega
        have HZ2 : Hid (z = bsI (bst ds d0 (k + 1))) := by show _ = _; rw [hsame]; exact HZ.out
        clear hst hsame HZ hlt0 hdd
        go_wp2_with fail
        refine (HPK.out _).mono ?_
        rintro e w7 ⟨rfl, hb7⟩
        have HB7 : Hid (Below w6.heap.size w6 w7) := HBk.out.trans (hb7.mono HBk.out.size)
        clear hb7 HPK
        go_wp2_with fail
        refine (HP0.out _).mono ?_
        rintro e w8 ⟨rfl, hb8⟩
        have HB8 : Hid (Below w6.heap.size w6 w8) := HB7.out.trans (hb8.mono HB7.out.size)
        clear hb8 HB7
        go_wp2
        go_roundw
        case rel => exact ⟨k + 1, z, by omega, by simp, rfl, HZ2, HB8.out⟩
        case measure => simp [intOf]; omega
      have dl : decide (d < d0) = true := by simpa using hlt0
      cases hbk : bst ds d0 k with
      | none =>
        have hz : z = -1 := by rw [HZ.out, hbk]; rfl
        subst hz
        rw [hbk, if_pos (show d < lst ds d0 none from hlt0)] at hst
        have HZ2 : Hid ((k : Int) = bsI (bst ds d0 (k + 1))) := by show _ = _; rw [hst]; rfl
        clear hst HZ hlt0 hdd hbk
        go_wp2_with fail
        refine (HPK.out _).mono ?_
        rintro e w7 ⟨rfl, hb7⟩
        have HB7 : Hid (Below w6.heap.size w6 w7) := HBk.out.trans (hb7.mono HBk.out.size)
        clear hb7 HPK
        go_wp2_with fail
        refine (HP0.out _).mono ?_
        rintro e w8 ⟨rfl, hb8⟩
        have HB8 : Hid (Below w6.heap.size w6 w8) := HB7.out.trans (hb8.mono HB7.out.size)
        clear hb8 HB7
        go_wp2
        go_roundw
        case rel => exact ⟨k + 1, (k : Int), by omega, by simp, rfl, HZ2, HB8.out⟩
        case measure => simp [intOf]; omega
      | some b' =>
        have hz : z = (b' : Int) := by rw [HZ.out, hbk]; rfl
        subst hz
        have hb'k := (HBl.out k b' hbk).1
        have hb'F : b' < F.length := by omega
        rw [hbk] at hst
        have hdb := HDs.out b' hb'F
        have HPb := HPn.out F[b'] (HNode.out _ (List.getElem_mem hb'F))
        have hwb := HWn.out (pt F[b'])
        rw [← hdb] at hwb
        have HPB : Hid (∀ w, Calls Tryd.prog 23 #[.int .i64 (F[b'] : Int)] w fun e w' => e = .returned (.int .u64 (pt F[b'] : Int)) ∧ Below w.heap.size w w') := HPb
        have HF7 : Hid (∀ w', Below w6.heap.size w6 w' → w'.cell? ⟨b, off + b', none⟩ = some (.int .i64 (F[b'] : Int))) := fun w' h => by
          obtain ⟨b2, off2, hbo2, -, -, cb⟩ := n_at (HF5.out.below h) b' hb'F
          cases hbo2
          exact cb
        have hst2 : bst ds d0 (k + 1) = if d < ds[b']! then some k else some b' := hst
        generalize ds[b']! = db at *
        generalize pt F[b'] = yb at *
        generalize F[b']'hb'F = mb at *
        clear HPb hdb hst hlt0 hbk hdd
        by_cases hltb : d < db
        · have dlb : decide (d < db) = true := by simpa using hltb
          rw [if_pos hltb] at hst2
          have HZ2 : Hid ((k : Int) = bsI (bst ds d0 (k + 1))) := by show _ = _; rw [hst2]; rfl
          clear hst2 HZ hltb
          go_wp2_with fail
          refine (HPK.out _).mono ?_
          rintro e w7 ⟨rfl, hb7⟩
          have HB7 : Hid (Below w6.heap.size w6 w7) := HBk.out.trans (hb7.mono HBk.out.size)
          clear hb7 HPK
          go_wp2_with fail
          refine (HP0.out _).mono ?_
          rintro e w8 ⟨rfl, hb8⟩
          have HB8 : Hid (Below w6.heap.size w6 w8) := HB7.out.trans (hb8.mono HB7.out.size)
          clear hb8 HB7
          have cb := HF7.out _ HB8.out
          go_wp2_with fail
          refine (HPB.out _).mono ?_
          rintro e w9 ⟨rfl, hb9⟩
          have HB9 : Hid (Below w6.heap.size w6 w9) := HB8.out.trans (hb9.mono HB8.out.size)
          clear hb9 HB8
          go_wp2
          go_roundw
          case rel => exact ⟨k + 1, (k : Int), by omega, by simp, rfl, HZ2, HB9.out⟩
          case measure => simp [intOf]; omega
        · have dlb : decide (d < db) = false := by simpa using hltb
          rw [if_neg hltb] at hst2
          have HZ2 : Hid ((b' : Int) = bsI (bst ds d0 (k + 1))) := by show _ = _; rw [hst2]; rfl
          clear hst2 HZ hltb
          go_wp2_with fail
          refine (HPK.out _).mono ?_
          rintro e w7 ⟨rfl, hb7⟩
          have HB7 : Hid (Below w6.heap.size w6 w7) := HBk.out.trans (hb7.mono HBk.out.size)
          clear hb7 HPK
          go_wp2_with fail
          refine (HP0.out _).mono ?_
          rintro e w8 ⟨rfl, hb8⟩
          have HB8 : Hid (Below w6.heap.size w6 w8) := HB7.out.trans (hb8.mono HB7.out.size)
          clear hb8 HB7
          have cb := HF7.out _ HB8.out
          go_wp2_with fail
          refine (HPB.out _).mono ?_
          rintro e w9 ⟨rfl, hb9⟩
          have HB9 : Hid (Below w6.heap.size w6 w9) := HB8.out.trans (hb9.mono HB8.out.size)
          clear hb9 HB8
          go_wp2
          go_roundw
          case rel => exact ⟨k + 1, (b' : Int), by omega, by simp, rfl, HZ2, HB9.out⟩
          case measure => simp [intOf]; omega
    · have dk : decide ((k : Int) < F.length) = false := by simp; omega
      have hk' : k = F.length := by omega
      subst hk'
      have HB : Hid (Below w.heap.size w wr) := HB5.out.trans (hB.mono HB5.out.size)
      cases hbk : bst ds d0 F.length with
      | none =>
        have hz : z = -1 := by rw [HZ.out, hbk]; rfl
        subst hz
        obtain ⟨b, off, hbo, hlt, hcap, c0⟩ := n_at (HF5.out.below hB) 0 hK1
        subst hbo
        have c0 : wr.cell? ⟨b, off, none⟩ = some (.int .i64 (F[0] : Int)) := c0
        have HFe : Hid (F[(none : Option Nat).getD 0]! = F[0]) := getElem!_pos F 0 hK1
        have hF0 : 0 < F.length := hK1
        clear hB HZ
        go_wp2
        go_ret
        exact ⟨by rw [hbk, HFe.out]; rfl, HB.out⟩
      | some b' =>
        have hz : z = (b' : Int) := by rw [HZ.out, hbk]; rfl
        subst hz
        have hb'F := (HBl.out _ b' hbk).1
        obtain ⟨b, off, hbo, hlt, hcap, c0⟩ := n_at (HF5.out.below hB) b' hb'F
        subst hbo
        have HFe : Hid (F[(some b').getD 0]! = F[b']) := getElem!_pos F b' hb'F
        clear hB HZ
        go_wp2
        go_ret
        exact ⟨by rw [hbk, HFe.out]; rfl, HB.out⟩
end Go.Proofs.YtmnmjphgpblbhaaDoor
/- The way comes nearer with each step: plain. -/
namespace Go.Proofs.YtmnmjphgpblbhaaDoor
open Go.RowKit

/-- How far it is from a key on, round the ring. -/
def cw (key x : Nat) : Nat := (x + 18446744073709551616 - key) % 18446744073709551616
theorem cw_ge {key x : Nat} (hk : key < 18446744073709551616) (hx : x < 18446744073709551616) (h : key ≤ x) : cw key x = x - key := by
  unfold cw
  omega
theorem cw_lt {key x : Nat} (hk : key < 18446744073709551616) (h : x < key) : cw key x = x + 18446744073709551616 - key := by
  unfold cw
  omega
theorem pt_le {r : List Nat} (hs : r.Pairwise (fun a b => pt a < pt b)) {i j : Nat} (hi : i < r.length) (hj : j < r.length) (h : i ≤ j) : pt r[i] ≤ pt r[j] := by
  by_cases e : i = j
  · subst e; exact Nat.le_refl _
  · exact Nat.le_of_lt (List.pairwise_iff_getElem.1 hs i j hi hj (by omega))
/-- The owner is the first one round the ring. -/
theorem own_min {key : Nat} {r : List Nat} (hk : key < 18446744073709551616) (hs : r.Pairwise (fun a b => pt a < pt b)) (h0 : 0 < r.length) (i : Nat) (hi : i < r.length) : cw key (pt (r[owI key r]'(owI_lt key r hs h0))) ≤ cw key (pt r[i]) := by
  have hq := owI_lt key r hs h0
  have hli := low_at key r hs i hi
  have hlq := low_at key r hs _ hq
  have p1 := pt_lt r[i]
  have p2 := pt_lt (r[owI key r]'hq)
  by_cases ha : r.any (fun n => decide (key ≤ pt n)) = true
  · have e : owI key r = lowN key r := if_pos ha
    have hqk : key ≤ pt (r[owI key r]'hq) := by
      have : ¬ pt (r[owI key r]'hq) < key := fun h => by have := hlq.1 h; omega
      omega
    rw [cw_ge hk p2 hqk]
    by_cases hik : pt r[i] < key
    · rw [cw_lt hk hik]; omega
    · rw [cw_ge hk p1 (by omega)]
      have : ¬ i < lowN key r := fun h => hik (hli.2 h)
      have := pt_le hs hq hi (by omega)
      omega
  · have e : owI key r = 0 := if_neg ha
    have hall : ∀ n ∈ r, pt n < key := fun n hn => by
      apply Classical.byContradiction
      intro h
      exact ha (List.any_eq_true.2 ⟨n, hn, by simp; omega⟩)
    rw [cw_lt hk (hall _ (List.getElem_mem hq)), cw_lt hk (hall _ (List.getElem_mem hi))]
    have := pt_le hs hq hi (by omega)
    omega
theorem dK_cw (key p : Nat) (hk : key < 18446744073709551616) (hp : p < 18446744073709551616) : dK key p = cw p key := by
  unfold dK cw
  omega
theorem own_self {r : List Nat} (hs : r.Pairwise (fun a b => pt a < pt b)) {a : Nat} (ha : a < r.length) : owI (pt r[a]) r = a := by
  have h0 : 0 < r.length := by omega
  have hq := owI_lt (pt r[a]) r hs h0
  have hm := own_min (pt_lt r[a]) hs h0 a ha
  rw [cw_ge (pt_lt _) (pt_lt _) (Nat.le_refl _), Nat.sub_self] at hm
  have p2 := pt_lt (r[owI (pt r[a]) r]'hq)
  have p1 := pt_lt r[a]
  have e : pt (r[owI (pt r[a]) r]'hq) = pt r[a] := by
    unfold cw at hm
    omega
  apply Classical.byContradiction
  intro hn
  rcases Nat.lt_or_ge (owI (pt r[a]) r) a with h | h
  · have := List.pairwise_iff_getElem.1 hs _ a hq ha h; omega
  · have := List.pairwise_iff_getElem.1 hs a _ ha hq (by omega); omega
/-- The next one is the owner, or nearer. -/
theorem succ_near {key : Nat} {r : List Nat} (hk : key < 18446744073709551616) (hs : r.Pairwise (fun a b => pt a < pt b)) {a : Nat} (ha : a < r.length) (hne : owI key r ≠ a) :
    owI (fkey (pt r[a]) 0) r = owI key r ∨ dK key (pt (r[owI (fkey (pt r[a]) 0) r]'(owI_lt _ r hs (by omega)))) < dK key (pt r[a]) := by
  have h0 : 0 < r.length := by omega
  have hfk : fkey (pt r[a]) 0 < 18446744073709551616 := Nat.mod_lt _ (by decide)
  have hS := owI_lt (fkey (pt r[a]) 0) r hs h0
  have hE := owI_lt key r hs h0
  have mS := own_min hfk hs h0 _ hE
  have mE := own_min hk hs h0 _ hS
  have pS := pt_lt (r[owI (fkey (pt r[a]) 0) r]'hS)
  have pE := pt_lt (r[owI key r]'hE)
  have pA := pt_lt r[a]
  have hka : key ≠ pt r[a] := fun e => hne (by rw [e]; exact own_self hs ha)
  have hfv : fkey (pt r[a]) 0 = (pt r[a] + 1) % 18446744073709551616 := rfl
  have inj : pt (r[owI (fkey (pt r[a]) 0) r]'hS) = pt (r[owI key r]'hE) → owI (fkey (pt r[a]) 0) r = owI key r := fun e => by
    apply Classical.byContradiction
    intro hn
    rcases Nat.lt_or_ge (owI (fkey (pt r[a]) 0) r) (owI key r) with h | h
    · have := List.pairwise_iff_getElem.1 hs _ _ hS hE h; omega
    · have := List.pairwise_iff_getElem.1 hs _ _ hE hS (by omega); omega
  by_cases hc : owI (fkey (pt r[a]) 0) r = owI key r
  · exact .inl hc
  · right
    have hpe : pt (r[owI (fkey (pt r[a]) 0) r]'hS) ≠ pt (r[owI key r]'hE) := fun e => hc (inj e)
    rw [dK_cw key _ hk pS, dK_cw key _ hk pA]
    generalize pt (r[owI (fkey (pt r[a]) 0) r]'hS) = s at *
    generalize pt (r[owI key r]'hE) = e at *
    generalize pt r[a] = p at *
    rw [hfv] at mS hfk
    unfold cw at *
    omega
/-- A hop comes to the owner, or nearer. -/
theorem hop_near {key : Nat} {r : List Nat} (hk : key < 18446744073709551616) (hs : r.Pairwise (fun a b => pt a < pt b)) {a : Nat} (ha : a < r.length) (hne : owI key r ≠ a) :
    hopP key r a (pt r[a]) = owI key r ∨ dK key (pt (r[hopP key r a (pt r[a])]'(hopP_lt hs ha hne))) < dK key (pt r[a]) := by
  by_cases hm : owI key r ∈ fgL a r (pt r[a]) 64
  · exact .inl (if_pos hm)
  right
  have h0 : 0 < r.length := by omega
  have hq := owI_lt key r hs h0
  have h2 : 2 ≤ r.length := by omega
  have hlt := hopP_lt hs ha hne
  have hdef : hopP key r a (pt r[a]) = hopK key r (fgL a r (pt r[a]) 64) (dK key (pt r[a])) := if_neg hm
  have hK := fg_some r hs a ha h2 63
  have hlt64 := fgL_lt (a := a) (p := pt r[a]) hs h0 64
  cases hb : bst (dsL key r (fgL a r (pt r[a]) 64)) (dK key (pt r[a])) (fgL a r (pt r[a]) 64).length with
  | some b =>
    obtain ⟨hbl, hbd⟩ := bst_lt _ _ _ b hb
    have e : hopP key r a (pt r[a]) = (fgL a r (pt r[a]) 64)[b] := by
      rw [hdef, hopK, hb]
      exact getElem!_pos _ b hbl
    rw [ds_at hbl (hlt64 _ (List.getElem_mem hbl))] at hbd
    simp only [e]
    exact hbd
  | none =>
    exfalso
    -- the successor is a finger, and it is nearer
    have hpre : ∀ k, owI (fkey (pt r[a]) 0) r ∈ fgL a r (pt r[a]) (k + 1) := by
      intro k
      induction k with
      | zero =>
        rw [show fgL a r (pt r[a]) (0 + 1) = if owI (fkey (pt r[a]) 0) r ≠ a ∧ owI (fkey (pt r[a]) 0) r ∉ [] then [] ++ [owI (fkey (pt r[a]) 0) r] else [] from rfl, if_pos ⟨succ_ne r hs a ha h2, by simp⟩]
        simp
      | succ k ih =>
        rw [show fgL a r (pt r[a]) (k + 1 + 1) = if owI (fkey (pt r[a]) (k + 1)) r ≠ a ∧ owI (fkey (pt r[a]) (k + 1)) r ∉ fgL a r (pt r[a]) (k + 1) then fgL a r (pt r[a]) (k + 1) ++ [owI (fkey (pt r[a]) (k + 1)) r] else fgL a r (pt r[a]) (k + 1) from rfl]
        split
        · exact List.mem_append_left _ ih
        · exact ih
    have hmem := hpre 63
    have hnear := (succ_near hk hs ha hne).resolve_left (fun e => hm (e ▸ hmem))
    obtain ⟨j, hj, ej⟩ := List.mem_iff_getElem.1 hmem
    have hnone : ∀ k, k ≤ (fgL a r (pt r[a]) 64).length → bst (dsL key r (fgL a r (pt r[a]) 64)) (dK key (pt r[a])) k = none := by
      intro k
      have back : ∀ m, bst (dsL key r (fgL a r (pt r[a]) 64)) (dK key (pt r[a])) (m + 1) = none → bst (dsL key r (fgL a r (pt r[a]) 64)) (dK key (pt r[a])) m = none := fun m h => by
        unfold bst at h
        split at h
        · cases h
        · exact h
      intro hkl
      obtain ⟨t, ht⟩ : ∃ t, (fgL a r (pt r[a]) 64).length = k + t := ⟨_, (Nat.add_sub_cancel' hkl).symm⟩
      rw [ht] at hb
      clear ht hkl
      induction t with
      | zero => exact hb
      | succ t ih => exact ih (back _ hb)
    have h1 := hnone (j + 1) hj
    have h3 := hnone j (Nat.le_of_lt hj)
    unfold bst at h1
    rw [h3] at h1
    rw [if_pos] at h1
    · cases h1
    · rw [ds_at hj (hlt64 _ (List.getElem_mem hj))]
      simp only [ej]
      exact hnear
theorem nodup_len : ∀ (n : Nat) (l : List Nat), l.Nodup → (∀ x ∈ l, x < n) → l.length ≤ n
  | 0, l, _, h => by
    cases l with
    | nil => exact Nat.le_refl _
    | cons a t => exact absurd (h a (by simp)) (Nat.not_lt_zero _)
  | n + 1, l, hd, h => by
    have h1 := nodup_len n (l.filter (fun x => decide (x ≠ n))) (hd.filter _) (fun x hx => by
      obtain ⟨a, b⟩ := List.mem_filter.1 hx
      have := h x a
      simp at b
      omega)
    have h2 : ∀ m : List Nat, m.Nodup → m.length ≤ (m.filter (fun x => decide (x ≠ n))).length + 1 := by
      intro m
      induction m with
      | nil => intro _; simp
      | cons a t ih =>
        intro hm
        have hm2 := List.nodup_cons.1 hm
        by_cases e : a = n
        · subst e
          rw [List.filter_cons_of_neg (by simp), List.filter_eq_self.2 (fun x hx => by simp; exact fun e => hm2.1 (e ▸ hx)), List.length_cons]
          exact Nat.le_refl _
        · rw [List.filter_cons_of_pos (by simpa using e), List.length_cons, List.length_cons]
          have := ih hm2.2
          omega
    have := h2 l hd
    omega
/-- What is so of a way, as far as it is gone. -/
structure WayI (key : Nat) (r : List Nat) (a : Nat) (V : List Nat) (c : Nat) : Prop where
  hc : c < r.length
  nd : (V ++ [c]).Nodup
  hd : (V ++ [c])[0]? = some a
  ne : ∀ x ∈ V, x ≠ owI key r
  lt : ∀ x ∈ V, x < r.length
  dec : c ≠ owI key r → ∀ x ∈ V, dK key (pt r[c]!) < dK key (pt r[x]!)
  ch : ∀ i x y, (V ++ [c])[i]? = some x → (V ++ [c])[i + 1]? = some y → x ≠ owI key r ∧ x < r.length ∧ y = hopP key r x (pt r[x]!)
theorem way_start {key : Nat} {r : List Nat} {a : Nat} (ha : a < r.length) : WayI key r a [] a :=
  ⟨ha, by simp, rfl, fun _ h => (by cases h), fun _ h => (by cases h), fun _ _ h => (by cases h), fun i x y _ h => (by simp at h)⟩
theorem way_step {key : Nat} {r : List Nat} {a : Nat} {V : List Nat} {c : Nat} (hk : key < 18446744073709551616) (hs : r.Pairwise (fun a b => pt a < pt b)) (h : WayI key r a V c) (hne : c ≠ owI key r) :
    WayI key r a (V ++ [c]) (hopP key r c (pt r[c]!)) ∧ (hopP key r c (pt r[c]!) = owI key r ∨ dK key (pt r[hopP key r c (pt r[c]!)]!) < dK key (pt r[c]!)) := by
  have hc := h.hc
  have e0 : r[c]! = r[c] := getElem!_pos r c hc
  have hlt := hopP_lt (key := key) hs hc (fun e => hne e.symm)
  have hnear := hop_near hk hs hc (fun e => hne e.symm)
  rw [e0]
  have e1 : r[hopP key r c (pt r[c])]! = r[hopP key r c (pt r[c])]'hlt := getElem!_pos r _ hlt
  have hnear' : hopP key r c (pt r[c]) = owI key r ∨ dK key (pt r[hopP key r c (pt r[c])]!) < dK key (pt r[c]) := by rw [e1]; exact hnear
  have hdec := h.dec hne
  rw [e0] at hdec
  have hfresh : hopP key r c (pt r[c]) ∉ V ++ [c] := by
    intro hm
    rcases hnear' with e | hl
    · rw [e] at hm
      rcases List.mem_append.1 hm with hm | hm
      · exact h.ne _ hm rfl
      · simp at hm; exact hne hm.symm
    · rcases List.mem_append.1 hm with hm | hm
      · have := hdec _ hm; omega
      · simp at hm
        rw [hm, e0] at hl
        omega
  refine ⟨⟨hlt, ?_, ?_, ?_, ?_, ?_, ?_⟩, hnear'⟩
  · rw [List.nodup_append]
    exact ⟨h.nd, by simp, fun x hx y hy => by simp at hy; subst hy; exact fun e => hfresh (e ▸ hx)⟩
  · rw [List.getElem?_append_left (by simp)]
    exact h.hd
  · intro x hx
    rcases List.mem_append.1 hx with hx | hx
    · exact h.ne x hx
    · simp at hx; subst hx; exact hne
  · intro x hx
    rcases List.mem_append.1 hx with hx | hx
    · exact h.lt x hx
    · simp at hx; subst hx; exact hc
  · intro hn x hx
    have hl := hnear'.resolve_left hn
    rcases List.mem_append.1 hx with hx | hx
    · have := hdec x hx; omega
    · simp at hx
      subst hx
      rw [e0]
      exact hl
  · intro i x y hx hy
    by_cases hi : i + 1 < (V ++ [c]).length
    · rw [List.getElem?_append_left (by omega)] at hx
      rw [List.getElem?_append_left hi] at hy
      exact h.ch i x y hx hy
    · have hil : i + 1 = (V ++ [c]).length := by
        have := (List.getElem?_eq_some_iff.1 hy).1
        rw [List.length_append, List.length_singleton] at this
        omega
      rw [List.getElem?_append_right (by omega), hil, Nat.sub_self] at hy
      rw [List.getElem?_append_left (by omega)] at hx
      have hlen : (V ++ [c]).length = V.length + 1 := by simp
      rw [show i = V.length by omega, List.getElem?_append_right (Nat.le_refl _), Nat.sub_self] at hx
      simp at hx hy
      subst hx hy
      exact ⟨hne, hc, by rw [e0]⟩
end Go.Proofs.YtmnmjphgpblbhaaDoor
