/- ring.Way: its walk. -/
import Derived.Test.YtmnmjphgpblbhaaDoorZb6
import Derived.WalkMore
import Derived.Test.YtmnmjphgpblbhaaDoorZb4
import Derived.Test.YtmnmjphgpblbhaaDoorZb2
import Derived.ProofKit
import Derived.LaidMore
import Derived.Stop.LaidErr
import Derived.OpenShut
import Derived.ShutString
import Derived.ChangeOld
import Derived.Below
import Derived.Lib.LaidTab
import Derived.Stop.Joined
import Derived.Deep.Slices
import Derived.Deep.Strs
import Derived.SizedLaws
namespace Go.Proofs.YtmnmjphgpblbhaaDoor
open Go.RowKit

/-- Places as nodes. -/
def nodesOf (r V : List Nat) : List Nat := V.map fun i => r[i]!
/-- What Way leaves where the node is there. -/
def WyPost (key : Nat) (r : List Nat) (a : Nat) (w : World) (e : Ending) (w' : World) : Prop :=
  ∃ V v', e = .returned v' ∧ WayI key r a V (owI key r) ∧ IsRow w' 1 v' (nodesOf r (V ++ [owI key r])).length (nCells (nodesOf r (V ++ [owI key r]))) ∧ Below w.heap.size w w'
theorem way_len {key : Nat} {r : List Nat} {a : Nat} {V : List Nat} {c : Nat} (h : WayI key r a V c) : V.length + 1 ≤ r.length := by
  have := nodup_len r.length (V ++ [c]) h.nd (fun x hx => by
    rcases List.mem_append.1 hx with hx | hx
    · exact h.lt x hx
    · simp at hx; subst hx; exact h.hc)
  simpa using this
/-- How much is left of a way. -/
def leftW (key : Nat) (r : List Nat) (c : Int) : Nat := if c = (owI key r : Int) then 0 else dK key (pt r[c.toNat]!) + 1
set_option maxRecDepth 100000 in
set_option maxHeartbeats 4000000 in
theorem way_any (frm : Int) (key a : Nat) (v : Value) (l : List Int) (w : World) (hk : key < 18446744073709551616) (hr : IsRow w 1 v l.length (iCells l)) (hl : l.length ≤ 1000) (ha : a < (rgL l).length) (hp : plI frm (rgL l) = (a : Int)) :
    Calls Tryd.prog 28 #[.int .i64 frm, .int .u64 (key : Int), v] w fun e w' => WyPost key (rgL l) a w e w' := by
  have HS : Hid (Calls Tryd.prog 31 #[v] w fun e w' => StPost l w e w') := stands_any v l w hr hl
  have hrl := rg_le l
  have hsr := rgL_sorted l
  generalize hR : rgL l = r at *
  clear hr
  have HPl : Hid (∀ v w, IsRow w 2 v r.length (stCells r) → Calls Tryd.prog 43 #[.int .i64 frm, v] w fun e w' => e = .returned (.int .i64 (plI frm r)) ∧ Below w.heap.size w w') := fun v w h => place_any frm v r w h (by omega)
  rw [hp] at HPl
  have HOw : Hid (∀ v w, IsRow w 2 v r.length (stCells r) → Calls Tryd.prog 32 #[.int .u64 (key : Int), v] w fun e w' => e = .returned (.int .i64 (owI key r : Int)) ∧ Below w.heap.size w w') := fun v w h => owner_any key v r w h hsr (by omega)
  have HHp : Hid (∀ (c : Nat) (hc : c < r.length), c ≠ owI key r → ∀ v w, IsRow w 2 v r.length (stCells r) → Calls Tryd.prog 44 #[.int .i64 (c : Int), .int .u64 (key : Int), v] w fun e w' => e = .returned (.int .i64 (hopP key r c (pt r[c]!) : Int)) ∧ Below w.heap.size w w') := fun c hc hne v w h => by
    rw [getElem!_pos r c hc]
    exact hop_any key c v r w hc (fun e => hne e.symm) h hsr hrl
  have HStep : Hid (∀ V c, WayI key r a V c → c ≠ owI key r → WayI key r a (V ++ [c]) (hopP key r c (pt r[c]!)) ∧ leftW key r (hopP key r c (pt r[c]!) : Int) < leftW key r (c : Int)) := fun V c h hne => by
    obtain ⟨h1, h2⟩ := way_step hk hsr h hne
    refine ⟨h1, ?_⟩
    have e1 : leftW key r (c : Int) = dK key (pt r[c]!) + 1 := by unfold leftW; rw [if_neg (by omega), Int.toNat_natCast]
    rw [e1]
    unfold leftW
    split
    · omega
    · rename_i hn
      rw [Int.toNat_natCast]
      have := h2.resolve_left (fun e => hn (by rw [e]))
      omega
  have HW0 : Hid (WayI key r a [] a) := way_start ha
  obtain ⟨i0, hi0, hz0, hz1, hz2⟩ := info_parts info_in
  clear hp hk
  go_enter Tryd.func28, Tryd.ntmps28
  go_wp2_with fail
  go_step3
  go_wp2_with fail
  refine HS.out.mono ?_
  rintro e w1 ⟨v1, rfl, hrow, hb1⟩
  rw [hR] at hrow
  clear hR HS hsr
  obtain ⟨a1, cap1, rfl⟩ := hrow.form
  have HR1 : Hid (IsRow w1 2 (.slice a1 r.length cap1) r.length (stCells r)) := hrow
  clear hrow
  go_wp2_with fail
  refine (HPl.out _ _ HR1.out).mono ?_
  rintro e w2 ⟨rfl, hb2⟩
  have HR2 : Hid (IsRow w2 2 (.slice a1 r.length cap1) r.length (stCells r)) := HR1.out.below hb2
  have HB2 : Hid (Below w.heap.size w w2) := hb1.trans (hb2.mono hb1.size)
  clear hb1 hb2 HR1 HPl
  go_wp2_with fail
  refine (HOw.out _ _ HR2.out).mono ?_
  rintro e w3 ⟨rfl, hb3⟩
  have HR3 : Hid (IsRow w3 2 (.slice a1 r.length cap1) r.length (stCells r)) := HR2.out.below hb3
  have HB3 : Hid (Below w.heap.size w w3) := HB2.out.trans (hb3.mono HB2.out.size)
  clear hb3 HR2 HB2 HOw
  have hs3 := HB3.out.size
  go_wp2_with fail
  go_step3
  go_wp2_with fail
  go_loopw [6, 8] (fun o i wr => ∃ (V : List Nat) (c : Nat), i = .int .i64 (c : Int) ∧ Hid (WayI key r a V c) ∧ wr.ownsRow w3.heap.size 3 1 o V.length (nCells (nodesOf r V)) ∧ Below w3.heap.size w3 wr) (fun _ i _ => leftW key r (intOf i))
  case atStart => exact ⟨[], a, rfl, HW0, World.ownsRow_nil _ _ _ _, Below.refl _ _⟩
  case round =>
    obtain ⟨V, c, rfl, HV, hown, hB⟩ := hrel
    have hsz := hB.size
    have hc := HV.out.hc
    have hvl := way_len HV.out
    obtain ⟨b, off, hbo, hlt, hcap, c0, c1⟩ := st_at (HR3.out.below hB) c hc
    subst hbo
    have HRr : Hid (∀ w', Below wr.heap.size wr w' → IsRow w' 2 (.slice (some ⟨b, off, none⟩) r.length cap1) r.length (stCells r)) := fun w' h => (HR3.out.below hB).below h
    have HT : Hid (nCells (nodesOf r (V ++ [c])) = nCells (nodesOf r V) ++ [.int .i64 (r[c] : Int)]) := by
      show _ = _
      unfold nodesOf
      rw [List.map_append, nCells_app, List.map_cons, getElem!_pos r c hc]
      rfl
    have HO : Hid (wr.ownsRow w3.heap.size 3 1 u6 V.length (nCells (nodesOf r V))) := hown
    have HBw : Hid (Below w3.heap.size w3 wr) := hB
    generalize hx : r[c]'hc = x at *
    clear hown hB c1 hx
    have hvl15 : V.length ≤ 15 := by omega
    by_cases hce : c = owI key r
    · have dce : ((c : Int) == (owI key r : Int)) = true := by rw [beq_iff_eq]; omega
      have HVe : Hid (WayI key r a V (owI key r)) := by rw [← hce]; exact HV
      rw [hce] at HT
      clear hce
      go_wp2_with (at_builtin; go_loud (refine wpl_app1 wr rfl (.tmp 20) (.tmp 26) 23 3 rfl i0 _ 8 Tryd.underlying23 hi0 hz0 hz1 hz2 rfl w3.heap.size u6 V.length _ rfl HO.out (.int .i64 (x : Int)) _ rfl rfl rfl (by omega) (by unfold maxLen; omega) hsz ?_; intro v4 w4 hown4 hb4 hne4))
      have HO4 : Hid (IsRow w4 1 v4 (nodesOf r (V ++ [owI key r])).length (nCells (nodesOf r (V ++ [owI key r])))) := by
        show IsRow _ _ _ _ _
        rw [HT.out]
        have : (nodesOf r (V ++ [owI key r])).length = V.length + 1 := by simp [nodesOf]
        rw [this]
        exact IsRow.own hown4
      have HB4 : Hid (Below w.heap.size w w4) := HB3.out.trans ((HBw.out.trans hb4).mono hs3)
      clear hown4 hb4 hne4 HO HT
      go_wp2
      try rw [Exit.noGoto_ret]
      go_ret
      exact ⟨V, _, rfl, HVe.out, HO4.out, HB4.out⟩
    · have dce : ((c : Int) == (owI key r : Int)) = false := by rw [beq_eq_false_iff_ne]; omega
      have HH := HHp.out c hc hce
      obtain ⟨hst1, hst2⟩ := HStep.out V c HV.out hce
      have HS1 : Hid (WayI key r a (V ++ [c]) (hopP key r c (pt r[c]!))) := hst1
      have HS2 : Hid (leftW key r (hopP key r c (pt r[c]!) : Int) < leftW key r (c : Int)) := hst2
      generalize hopP key r c (pt r[c]!) = n at *
      clear hst1 hst2
      go_wp2_with (at_builtin; go_loud (refine wpl_app1 wr rfl (.tmp 20) (.tmp 26) 23 3 rfl i0 _ 8 Tryd.underlying23 hi0 hz0 hz1 hz2 rfl w3.heap.size u6 V.length _ rfl HO.out (.int .i64 (x : Int)) _ rfl rfl rfl (by omega) (by unfold maxLen; omega) hsz ?_; intro v4 w4 hown4 hb4 hne4))
      have HO4 : Hid (w4.ownsRow w3.heap.size 3 1 v4 (V ++ [c]).length (nCells (nodesOf r (V ++ [c])))) := by show World.ownsRow _ _ _ _ _ _ _; rw [HT.out, List.length_append]; exact hown4
      have HR4 : Hid (IsRow w4 2 (.slice (some ⟨b, off, none⟩) r.length cap1) r.length (stCells r)) := (HR3.out).below (HBw.out.trans hb4)
      have HB4 : Hid (Below w3.heap.size w3 w4) := HBw.out.trans hb4
      clear hown4 hb4 hne4 HO HT
      go_wp2_with fail
      refine (HH _ _ HR4.out).mono ?_
      rintro e w5 ⟨rfl, hb5⟩
      have HO5 : Hid (w5.ownsRow w3.heap.size 3 1 v4 (V ++ [c]).length (nCells (nodesOf r (V ++ [c])))) := own_belowJ HO4.out hb5
      have HB5 : Hid (Below w3.heap.size w3 w5) := HB4.out.trans (hb5.mono HB4.out.size)
      clear hb5 HO4 HB4 HR4
      go_wp2
      go_roundw
      case rel => exact ⟨V ++ [c], n, rfl, HS1, HO5.out, HB5.out⟩
      case measure => exact HS2.out
end Go.Proofs.YtmnmjphgpblbhaaDoor
/- RingHeirs: for all keys, numbers and bounds the law returns true. -/
namespace Go.Proofs.YtmnmjphgpblbhaaDoor
open Go.RowKit

theorem row_take {w : World} {b off n cap : Nat} {l : List Int} (h : IsRow w 1 (.slice (some ⟨b, off, none⟩) n cap) l.length (iCells l)) (m : Nat) (hm : m ≤ l.length) (h0 : 0 < l.length) : IsRow w 1 (.slice (some ⟨b, off, none⟩) m cap) (l.take m).length (iCells (l.take m)) := by
  obtain ⟨b', off', cap', hv, hlt, q1, q2, hc⟩ := h.open (by omega)
  simp only [Value.slice.injEq, Option.some.injEq, Addr.mk.injEq, and_true] at hv
  obtain ⟨⟨rfl, rfl⟩, -, rfl⟩ := hv
  have hl : (l.take m).length = m := by rw [List.length_take]; omega
  rw [hl]
  refine ⟨by simp [iCells]; omega, .inr ⟨b, off, cap, rfl, hlt, by omega, q2, fun j u hu => hc j u ?_⟩⟩
  have e : iCells (l.take m) = (iCells l).take m := by simp [iCells, List.map_take]
  rw [e] at hu
  rw [← hu, List.getElem?_take_of_lt]
  have := (List.getElem?_eq_some_iff.1 hu).1
  rw [List.length_take] at this
  omega
set_option maxRecDepth 100000 in
set_option maxHeartbeats 4000000 in
theorem ringHeirs_walk (key : Nat) (v : Value) (l : List Int) (most : Int) (w : World) (hr : IsRow w 1 v l.length (iCells l)) (hl : l.length ≤ 140737488355328) (hm1 : -9223372036854775808 ≤ most) (hm2 : most ≤ 9223372036854775807) :
    Calls Tryd.prog 7 #[.int .u64 (key : Int), v, .int .i64 most] w fun e w' => e = .returned (.bool true) ∧ Below w.heap.size w w' := by
  obtain ⟨a0, cap0, rfl⟩ := hr.form
  have HR : Hid (IsRow w 1 (.slice a0 l.length cap0) l.length (iCells l)) := hr
  have HA : Hid (∀ w, Calls Tryd.prog 9 #[] w fun e w' => e = .returned (.bool true) ∧ Below w.heap.size w w') := awake10_any
  have HFw : Hid (Calls Tryd.prog 8 #[.slice a0 l.length cap0] w fun e w' => e = .returned (.bool (decide (l.length ≤ 40))) ∧ w' = w) := few_any _ l w hr hl
  clear hr
  by_cases h40 : l.length ≤ 40
  rotate_left
  · rw [decide_eq_false h40] at HFw
    go_enter Tryd.func7, Tryd.ntmps7
    go_wp2_with fail
    refine HFw.out.mono ?_
    rintro e w1 ⟨rfl, hw⟩
    subst hw
    go_wp2_with fail
    refine (HA.out _).mono ?_
    rintro e w2 ⟨rfl, hb2⟩
    go_wp2
    go_ret
    exact ⟨rfl, hb2⟩
  rw [decide_eq_true h40] at HFw
  have HNd : Hid (Calls Tryd.prog 14 #[.slice a0 l.length cap0] w fun e w' => e = .returned (.bool (nodesB l)) ∧ Below w.heap.size w w') := refNodes_any _ l w HR.out (by omega)
  by_cases hN : NodesP l
  rotate_left
  · rw [nodesB_false hN] at HNd
    go_enter Tryd.func7, Tryd.ntmps7
    go_wp2_with fail
    refine HFw.out.mono ?_
    rintro e w1 ⟨rfl, hw⟩
    subst hw
    go_wp2_with fail
    refine HNd.out.mono ?_
    rintro e w2 ⟨rfl, hb2⟩
    go_wp2_with fail
    refine (HA.out _).mono ?_
    rintro e w3 ⟨rfl, hb3⟩
    have HB : Hid (Below w1.heap.size w1 w3) := hb2.trans (hb3.mono hb2.size)
    clear hb2 hb3
    go_wp2
    go_ret
    exact ⟨rfl, HB.out⟩
  rw [nodesB_true hN] at HNd
  by_cases h0 : l.length = 0
  · obtain rfl := List.eq_nil_of_length_eq_zero h0
    simp only [List.length_nil] at HFw HNd HR
    clear h0 h40 hl
    go_enter Tryd.func7, Tryd.ntmps7
    go_wp2_with fail
    refine HFw.out.mono ?_
    rintro e w1 ⟨rfl, hw⟩
    subst hw
    go_wp2_with fail
    refine HNd.out.mono ?_
    rintro e w2 ⟨rfl, hb2⟩
    go_wp2_with fail
    refine (HA.out _).mono ?_
    rintro e w3 ⟨rfl, hb3⟩
    have HB : Hid (Below w1.heap.size w1 w3) := hb2.trans (hb3.mono hb2.size)
    clear hb2 hb3
    go_wp2
    go_ret
    exact ⟨rfl, HB.out⟩
  have d0 : ((l.length : Int) == 0) = false := by rw [beq_eq_false_iff_ne]; omega
  have hrl := rgL_len hN
  have hsr := rgL_sorted l
  have hHl : ((hsL key (rgL l)).map fun (n : Nat) => (n : Int)).length = l.length := by rw [List.length_map, hsL_len key _ hsr, hrl]
  have HH1 : Hid (∀ w, IsRow w 1 (.slice a0 l.length cap0) l.length (iCells l) → Calls Tryd.prog 18 #[.int .u64 (key : Int), .slice a0 l.length cap0, .int .i64 (l.length : Int)] w fun e w' => RiPost ((hsL key (rgL l)).map fun (n : Nat) => (n : Int)) w e w') := fun w h => (heirs_any key _ l (l.length : Int) w h (by omega)).mono fun e w' h => by
    have := h.ints
    rw [Int.toNat_natCast, List.take_of_length_le (by rw [hsL_len key _ hsr, hrl]; exact Nat.le_refl _)] at this
    exact this
  have HH2 : Hid (∀ w, IsRow w 1 (.slice a0 l.length cap0) l.length (iCells l) → Calls Tryd.prog 18 #[.int .u64 (key : Int), .slice a0 l.length cap0, .int .i64 most] w fun e w' => RiPost (((hsL key (rgL l)).map fun (n : Nat) => (n : Int)).take most.toNat) w e w') := fun w h => (heirs_any key _ l most w h (by omega)).mono fun e w' h => by
    have := h.ints
    rw [List.map_take] at this
    exact this
  have HOw : Hid (∀ w, IsRow w 1 (.slice a0 l.length cap0) l.length (iCells l) → Calls Tryd.prog 11 #[.int .u64 (key : Int), .slice a0 l.length cap0] w fun e w' => e = .returned (.tuple #[.int .i64 (ownL key l : Int), .bool (hasL l)]) ∧ Below w.heap.size w w') := fun w h => ownerL_any key _ l w h (by omega)
  have hown : ((hsL key (rgL l)).map fun (n : Nat) => (n : Int))[0]? = some (ownL key l : Int) := by
    unfold ownL
    rw [List.getElem?_map, List.head?_eq_getElem?, List.getElem?_eq_getElem (by rw [hsL_len key _ hsr, hrl]; omega)]
    rfl
  have hmem : ∀ x ∈ l, x ∈ (hsL key (rgL l)).map fun (n : Nat) => (n : Int) := fun x hx => by
    have h1 := (rgL_mem hN).2 hx
    obtain ⟨n, hn, e⟩ := List.mem_map.1 h1
    exact List.mem_map.2 ⟨n, (hsL_perm key _ hsr).mem_iff.2 hn, e⟩
  generalize (hsL key (rgL l)).map (fun (n : Nat) => (n : Int)) = H at *
  generalize (ownL key l : Int) = o at *
  generalize hasL l = bb at *
  have HHl : Hid (H.length = l.length) := hHl
  have HOn : Hid (H[0]? = some o) := hown
  have HMem : Hid (∀ x ∈ l, x ∈ H) := hmem
  obtain ⟨K, HKe⟩ : ∃ K, Hid (K = H.take most.toNat) := ⟨_, rfl⟩
  rw [← HKe.out] at HH2
  clear hown hmem hsr hrl hHl hN
  go_enter Tryd.func7, Tryd.ntmps7
  go_wp2_with fail
  refine HFw.out.mono ?_
  rintro e w1 ⟨rfl, hw⟩
  subst hw
  go_wp2_with fail
  refine HNd.out.mono ?_
  rintro e w2 ⟨rfl, hb2⟩
  have HR2 : Hid (IsRow w2 1 (.slice a0 l.length cap0) l.length (iCells l)) := HR.out.below hb2
  have HB2 : Hid (Below w1.heap.size w1 w2) := hb2
  clear hb2 HNd HFw HR
  go_wp2_with fail
  refine (HH1.out _ HR2.out).mono ?_
  rintro e w3 ⟨v3, rfl, hrow3, hb3⟩
  obtain ⟨a3, cap3, rfl⟩ := hrow3.form
  have HR3 : Hid (IsRow w3 1 (.slice a0 l.length cap0) l.length (iCells l)) := HR2.out.below hb3
  have HH3 : Hid (IsRow w3 1 (.slice a3 H.length cap3) H.length (iCells H)) := hrow3
  have HB3 : Hid (Below w1.heap.size w1 w3) := HB2.out.trans (hb3.mono HB2.out.size)
  clear hrow3 hb3 HR2 HB2 HH1
  go_wp2_with fail
  refine (HH2.out _ HR3.out).mono ?_
  rintro e w4 ⟨v4, rfl, hrow4, hb4⟩
  obtain ⟨a4, cap4, rfl⟩ := hrow4.form
  have HR4 : Hid (IsRow w4 1 (.slice a0 l.length cap0) l.length (iCells l)) := HR3.out.below hb4
  have HH4 : Hid (IsRow w4 1 (.slice a3 H.length cap3) H.length (iCells H)) := HH3.out.below hb4
  have HK4 : Hid (IsRow w4 1 (.slice a4 K.length cap4) K.length (iCells K)) := hrow4
  have HB4 : Hid (Below w1.heap.size w1 w4) := HB3.out.trans (hb4.mono HB3.out.size)
  clear hrow4 hb4 HR3 HB3 HH2 HH3
  go_wp2_with fail
  refine (HOw.out _ HR4.out).mono ?_
  rintro e w5 ⟨rfl, hb5⟩
  have HR5 : Hid (IsRow w5 1 (.slice a0 l.length cap0) l.length (iCells l)) := HR4.out.below hb5
  have HH5 : Hid (IsRow w5 1 (.slice a3 H.length cap3) H.length (iCells H)) := HH4.out.below hb5
  have HK5 : Hid (IsRow w5 1 (.slice a4 K.length cap4) K.length (iCells K)) := HK4.out.below hb5
  have HB5 : Hid (Below w1.heap.size w1 w5) := HB4.out.trans (hb5.mono HB4.out.size)
  clear hb5 HR4 HB4 HOw HH4 HK4
  obtain ⟨b5, off5, rfl, -, hlt5, hcap5, hc5⟩ := iCells_at HH5.out (by rw [HHl.out]; omega)
  have c5 : w5.cell? ⟨b5, off5, none⟩ = some (.int .i64 o) := by
    have h1 := hc5 0 (by rw [HHl.out]; omega)
    have h2 := HOn.out
    rw [List.getElem?_eq_getElem (by rw [HHl.out]; omega), Option.some.injEq] at h2
    rw [h2] at h1
    exact h1
  clear hc5
  have hHL : H.length ≤ 40 := by rw [HHl.out]; exact h40
  have HKl : Hid (K.length = min most.toNat l.length) := by show _ = _; rw [HKe.out, List.length_take, HHl.out]
  have hKl : K.length ≤ H.length := by rw [HKe.out, List.length_take]; omega
  have HTm : Hid (H.take K.length = K) := by
    show _ = _
    rw [HKe.out, List.length_take, List.take_eq_take_iff]
    omega
  have HS5 : Hid (Calls Tryd.prog 15 #[.slice a4 K.length cap4, .slice (some ⟨b5, off5, none⟩) K.length cap3] w5 fun e w' => e = .returned (.bool true) ∧ Below w5.heap.size w5 w') := by
    have h2 := row_take HH5.out K.length hKl (by rw [HHl.out]; omega)
    rw [HTm.out] at h2
    exact same_eq _ _ K w5 HK5.out h2 (by omega)
  have hH0 : 0 < H.length := by rw [HHl.out]; omega
  have hKc : K.length ≤ cap3 := by omega
  have dne : ((H.length : Int) != (l.length : Int)) = false := by rw [HHl.out]; simp
  have dgt : decide (H.length < K.length) = false := by simp; omega
  clear HK5 HTm HKe
  go_wp2_with fail
  refine HS5.out.mono ?_
  rintro e w6 ⟨rfl, hb6⟩
  have HR6 : Hid (IsRow w6 1 (.slice a0 l.length cap0) l.length (iCells l)) := HR5.out.below hb6
  have HH6 : Hid (IsRow w6 1 (.slice (some ⟨b5, off5, none⟩) H.length cap3) H.length (iCells H)) := HH5.out.below hb6
  have HB6 : Hid (Below w1.heap.size w1 w6) := HB5.out.trans (hb6.mono HB5.out.size)
  clear hb6 HR5 HB5 HS5 HH5 c5 dne dgt d0
  go_wp2_with fail
  go_loopw [6, 11] (fun r i wr => r = .bool false ∧ ∃ k : Nat, k ≤ l.length ∧ i = .int .i64 (k : Int) ∧ Below w6.heap.size w6 wr) (fun _ i _ => l.length - (intOf i).toNat)
  case atStart => exact ⟨rfl, 0, Nat.zero_le _, rfl, Below.refl _ _⟩
  case round =>
    obtain ⟨rfl, k, hk, rfl, hB⟩ := hrel
    by_cases hlk : k < l.length
    · have dk : decide ((k : Int) < l.length) = true := by simp; omega
      obtain ⟨b, off, rfl, -, hlt, hcap, hc⟩ := iCells_at (HR6.out.below hB) (by omega)
      have ck := hc k hlk
      have HHs : Hid (Calls Tryd.prog 29 #[.slice (some ⟨b5, off5, none⟩) H.length cap3, .int .i64 l[k]] wr fun e w' => e = .returned (.bool true) ∧ w' = wr) := by
        have := has_any _ H l[k] wr (HH6.out.below hB) (by omega)
        rw [decide_eq_true (HMem.out _ (List.getElem_mem hlk))] at this
        exact this
      generalize l[k]'hlk = x at *
      clear hc
      go_wp2_with fail
      refine HHs.out.mono ?_
      rintro e w7 ⟨rfl, hw⟩
      subst hw
      go_wp2
      go_roundw
      case rel => exact ⟨rfl, k + 1, by omega, by simp, hB⟩
      case measure => simp [intOf]; omega
    · have dk : decide ((k : Int) < l.length) = false := by simp; omega
      have HB7 : Hid (Below w1.heap.size w1 wr) := HB6.out.trans (hB.mono HB6.out.size)
      clear hB
      go_wp2_with fail
      refine (HA.out _).mono ?_
      rintro e w8 ⟨rfl, hb8⟩
      have HB8 : Hid (Below w1.heap.size w1 w8) := HB7.out.trans (hb8.mono HB7.out.size)
      clear hb8
      by_cases hms : most < 0
      · have dm : decide (most < 0) = true := by simpa using hms
        have dK : ((K.length : Int) == 0) = true := by rw [beq_iff_eq, HKl.out]; omega
        go_wp2
        go_ret
        exact ⟨rfl, HB8.out⟩
      · have dm : decide (most < 0) = false := by simpa using hms
        have dm2 : decide ((0 : Int) ≤ most) = true := by simp; omega
        have dK : ((K.length : Int) == min most (l.length : Int)) = true := by rw [beq_iff_eq, HKl.out]; omega
        go_wp2
        go_ret
        exact ⟨rfl, HB8.out⟩
end Go.Proofs.YtmnmjphgpblbhaaDoor
/- RingWays: for all numbers and keys the law returns true. -/
namespace Go.Proofs.YtmnmjphgpblbhaaDoor
open Go.RowKit

set_option maxRecDepth 100000 in
theorem way_none (frm : Int) (key : Nat) (v : Value) (l : List Int) (w : World) (hr : IsRow w 1 v l.length (iCells l)) (hl : l.length ≤ 1000) (hp : plI frm (rgL l) = -1) :
    Calls Tryd.prog 28 #[.int .i64 frm, .int .u64 (key : Int), v] w fun e w' => e = .returned (.slice none 0 0) ∧ Below w.heap.size w w' := by
  have HS : Hid (Calls Tryd.prog 31 #[v] w fun e w' => StPost l w e w') := stands_any v l w hr hl
  have hrl := rg_le l
  generalize hR : rgL l = r at *
  clear hr
  have HPl : Hid (∀ v w, IsRow w 2 v r.length (stCells r) → Calls Tryd.prog 43 #[.int .i64 frm, v] w fun e w' => e = .returned (.int .i64 (plI frm r)) ∧ Below w.heap.size w w') := fun v w h => place_any frm v r w h (by omega)
  rw [hp] at HPl
  clear hp
  go_enter Tryd.func28, Tryd.ntmps28
  go_wp2_with fail
  go_step3
  go_wp2_with fail
  refine HS.out.mono ?_
  rintro e w1 ⟨v1, rfl, hrow, hb1⟩
  rw [hR] at hrow
  clear hR HS
  have HR : Hid (IsRow w1 2 v1 r.length (stCells r)) := hrow
  clear hrow
  go_wp2_with fail
  refine (HPl.out _ _ HR.out).mono ?_
  rintro e w2 ⟨rfl, hb2⟩
  have HB : Hid (Below w.heap.size w w2) := hb1.trans (hb2.mono hb1.size)
  clear hb1 hb2 HR
  go_wp2
  try rw [Exit.noGoto_ret]
  go_ret
  exact ⟨rfl, HB.out⟩
/-- What a way is, as nodes. -/
structure WayN (frm : Int) (key : Nat) (l : List Int) (W : List Nat) : Prop where
  pos : 0 < W.length
  len : W.length ≤ l.length
  first : ∃ n : Nat, W[0]? = some n ∧ (n : Int) = frm
  last : W[W.length - 1]? = some (ownL key l)
  fresh : ∀ (i x : Nat), W[i]? = some x → x ∉ W.take i
  step : ∀ (i x y : Nat), W[i]? = some x → W[i + 1]? = some y → hopN (x : Int) key (rgL l) = y
theorem nd_inj {l : List Nat} (h : l.Nodup) {i j x : Nat} (h1 : l[i]? = some x) (h2 : l[j]? = some x) : i = j := by
  obtain ⟨hi, e1⟩ := List.getElem?_eq_some_iff.1 h1
  obtain ⟨hj, e2⟩ := List.getElem?_eq_some_iff.1 h2
  exact get_inj h hi hj (e1.trans e2.symm)
theorem pl_at {r : List Nat} (hd : r.Nodup) {x : Nat} (hx : x < r.length) : plI (r[x] : Int) r = (x : Int) := by
  rcases pl_cases (r[x] : Int) r with ⟨-, hno⟩ | ⟨k, hk, hp, e⟩
  · exact absurd rfl (hno _ (List.getElem_mem hx))
  · have : k = x := get_inj hd hk hx (by omega)
    rw [hp, this]
theorem way_nodes {frm : Int} {key : Nat} {l : List Int} {a : Nat} {V : List Nat} (hN : NodesP l) (ha : a < (rgL l).length) (hna : ((rgL l)[a] : Int) = frm) (h : WayI key (rgL l) a V (owI key (rgL l))) : WayN frm key l (nodesOf (rgL l) (V ++ [owI key (rgL l)])) := by
  have hd := rgL_nodup l
  have hlen : (nodesOf (rgL l) (V ++ [owI key (rgL l)])).length = V.length + 1 := by simp [nodesOf]
  have hget : ∀ i, (nodesOf (rgL l) (V ++ [owI key (rgL l)]))[i]? = ((V ++ [owI key (rgL l)])[i]?).map (fun i => (rgL l)[i]!) := fun i => by unfold nodesOf; rw [List.getElem?_map]
  have hall : ∀ x ∈ V ++ [owI key (rgL l)], x < (rgL l).length := fun x hx => by
    rcases List.mem_append.1 hx with hx | hx
    · exact h.lt x hx
    · simp at hx; subst hx; exact h.hc
  refine ⟨by omega, ?_, ?_, ?_, ?_, ?_⟩
  · rw [hlen, ← rgL_len hN]; exact way_len h
  · refine ⟨(rgL l)[a], ?_, hna⟩
    rw [hget, h.hd, Option.map_some, getElem!_pos (rgL l) a ha]
  · obtain ⟨hq, e⟩ := own_at key l (by omega)
    rw [hget, hlen, Nat.add_sub_cancel, List.getElem?_append_right (Nat.le_refl _), Nat.sub_self]
    show some ((rgL l)[owI key (rgL l)]!) = _
    rw [getElem!_pos (rgL l) _ hq, e]
  · intro i x hx hm
    rw [hget] at hx
    obtain ⟨p, hp, rfl⟩ := Option.map_eq_some_iff.1 hx
    obtain ⟨j, hj, e⟩ := List.mem_iff_getElem.1 hm
    rw [List.length_take] at hj
    rw [List.getElem_take] at e
    have hj2 : (nodesOf (rgL l) (V ++ [owI key (rgL l)]))[j]? = some ((rgL l)[p]!) := by rw [List.getElem?_eq_getElem (by omega), e]
    rw [hget] at hj2
    obtain ⟨p', hp', e'⟩ := Option.map_eq_some_iff.1 hj2
    have l1 := hall p (List.mem_of_getElem? hp)
    have l2 := hall p' (List.mem_of_getElem? hp')
    rw [getElem!_pos (rgL l) p' l2, getElem!_pos (rgL l) p l1] at e'
    have := get_inj hd l2 l1 e'
    subst this
    have := nd_inj h.nd hp hp'
    omega
  · intro i x y hx hy
    rw [hget] at hx hy
    obtain ⟨p, hp, rfl⟩ := Option.map_eq_some_iff.1 hx
    obtain ⟨q, hq, rfl⟩ := Option.map_eq_some_iff.1 hy
    obtain ⟨hne, hlt, e⟩ := h.ch i p q hp hq
    rw [getElem!_pos (rgL l) p hlt] at e ⊢
    rw [hopN_at hlt (pl_at hd hlt) (fun c => hne c.symm), ← e]
set_option maxRecDepth 100000 in
set_option maxHeartbeats 4000000 in
theorem ringWays_walk (frm : Int) (key : Nat) (v : Value) (l : List Int) (w : World) (hk : key < 18446744073709551616) (hr : IsRow w 1 v l.length (iCells l)) (hl : l.length ≤ 140737488355328) :
    Calls Tryd.prog 5 #[.int .i64 frm, .int .u64 (key : Int), v] w fun e w' => e = .returned (.bool true) ∧ Below w.heap.size w w' := by
  obtain ⟨a0, cap0, rfl⟩ := hr.form
  have HR : Hid (IsRow w 1 (.slice a0 l.length cap0) l.length (iCells l)) := hr
  have HA : Hid (∀ w, Calls Tryd.prog 9 #[] w fun e w' => e = .returned (.bool true) ∧ Below w.heap.size w w') := awake10_any
  have HFw : Hid (Calls Tryd.prog 8 #[.slice a0 l.length cap0] w fun e w' => e = .returned (.bool (decide (l.length ≤ 40))) ∧ w' = w) := few_any _ l w hr hl
  clear hr
  by_cases h40 : l.length ≤ 40
  rotate_left
  · rw [decide_eq_false h40] at HFw
    clear hk
    go_enter Tryd.func5, Tryd.ntmps5
    go_wp2_with fail
    refine HFw.out.mono ?_
    rintro e w1 ⟨rfl, hw⟩
    subst hw
    go_wp2_with fail
    refine (HA.out _).mono ?_
    rintro e w2 ⟨rfl, hb2⟩
    go_wp2
    go_ret
    exact ⟨rfl, hb2⟩
  rw [decide_eq_true h40] at HFw
  have HNd : Hid (∀ w, IsRow w 1 (.slice a0 l.length cap0) l.length (iCells l) → Calls Tryd.prog 14 #[.slice a0 l.length cap0] w fun e w' => e = .returned (.bool (nodesB l)) ∧ Below w.heap.size w w') := fun w h => refNodes_any _ l w h (by omega)
  have HHs : Hid (∀ w, IsRow w 1 (.slice a0 l.length cap0) l.length (iCells l) → Calls Tryd.prog 29 #[.slice a0 l.length cap0, .int .i64 frm] w fun e w' => e = .returned (.bool (decide (frm ∈ l))) ∧ w' = w) := fun w h => has_any _ l frm w h (by omega)
  rcases pl_cases frm (rgL l) with ⟨hp, hno⟩ | ⟨a, ha, hp, hna⟩
  · have HWn : Hid (∀ w, IsRow w 1 (.slice a0 l.length cap0) l.length (iCells l) → Calls Tryd.prog 28 #[.int .i64 frm, .int .u64 (key : Int), .slice a0 l.length cap0] w fun e w' => e = .returned (.slice none 0 0) ∧ Below w.heap.size w w') := fun w h => way_none frm key _ l w h (by omega) hp
    clear hk
    by_cases hN : NodesP l
    · have hnl : ¬ frm ∈ l := fun h => by
        obtain ⟨a, ha, e⟩ := (has_iff hN frm).1 h
        exact hno _ (List.getElem_mem ha) e
      rw [nodesB_true hN] at HNd
      rw [decide_eq_false hnl] at HHs
      go_enter Tryd.func5, Tryd.ntmps5
      go_wp2_with fail
      refine HFw.out.mono ?_
      rintro e w1 ⟨rfl, hw⟩
      subst hw
      go_wp2_with fail
      refine (HWn.out _ HR.out).mono ?_
      rintro e w2 ⟨rfl, hb2⟩
      have HR2 : Hid (IsRow w2 1 (.slice a0 l.length cap0) l.length (iCells l)) := HR.out.below hb2
      have HB2 : Hid (Below w1.heap.size w1 w2) := hb2
      clear hb2 HR
      go_wp2_with fail
      refine (HNd.out _ HR2.out).mono ?_
      rintro e w3 ⟨rfl, hb3⟩
      have HR3 : Hid (IsRow w3 1 (.slice a0 l.length cap0) l.length (iCells l)) := HR2.out.below hb3
      have HB3 : Hid (Below w1.heap.size w1 w3) := HB2.out.trans (hb3.mono HB2.out.size)
      clear hb3 HR2 HB2
      go_wp2_with fail
      refine (HHs.out _ HR3.out).mono ?_
      rintro e w4 ⟨rfl, hw⟩
      subst hw
      go_wp2_with fail
      refine (HA.out _).mono ?_
      rintro e w5 ⟨rfl, hb5⟩
      have HB5 : Hid (Below w1.heap.size w1 w5) := HB3.out.trans (hb5.mono HB3.out.size)
      clear hb5
      go_wp2
      go_ret
      exact ⟨rfl, HB5.out⟩
    · rw [nodesB_false hN] at HNd
      go_enter Tryd.func5, Tryd.ntmps5
      go_wp2_with fail
      refine HFw.out.mono ?_
      rintro e w1 ⟨rfl, hw⟩
      subst hw
      go_wp2_with fail
      refine (HWn.out _ HR.out).mono ?_
      rintro e w2 ⟨rfl, hb2⟩
      have HR2 : Hid (IsRow w2 1 (.slice a0 l.length cap0) l.length (iCells l)) := HR.out.below hb2
      have HB2 : Hid (Below w1.heap.size w1 w2) := hb2
      clear hb2 HR
      go_wp2_with fail
      refine (HNd.out _ HR2.out).mono ?_
      rintro e w3 ⟨rfl, hb3⟩
      have HB3 : Hid (Below w1.heap.size w1 w3) := HB2.out.trans (hb3.mono HB2.out.size)
      clear hb3 HR2 HB2
      go_wp2_with fail
      refine (HA.out _).mono ?_
      rintro e w5 ⟨rfl, hb5⟩
      have HB5 : Hid (Below w1.heap.size w1 w5) := HB3.out.trans (hb5.mono HB3.out.size)
      clear hb5
      go_wp2
      go_ret
      exact ⟨rfl, HB5.out⟩
  have hN : NodesP l := by
    apply Classical.byContradiction
    intro h
    rw [rgL_not h] at ha
    exact absurd ha (Nat.not_lt_zero _)
  have hnl : frm ∈ l := (has_iff hN frm).2 ⟨a, ha, hna⟩
  rw [nodesB_true hN] at HNd
  rw [decide_eq_true hnl] at HHs
  have HWy : Hid (∀ w, IsRow w 1 (.slice a0 l.length cap0) l.length (iCells l) → Calls Tryd.prog 28 #[.int .i64 frm, .int .u64 (key : Int), .slice a0 l.length cap0] w fun e w' => ∃ W v', e = .returned v' ∧ WayN frm key l W ∧ IsRow w' 1 v' W.length (nCells W) ∧ Below w.heap.size w w') := fun w h => (way_any frm key a _ l w hk h (by omega) ha hp).mono fun e w' ⟨V, v', he, hi, hrow, hb⟩ => ⟨_, v', he, way_nodes hN ha hna hi, hrow, hb⟩
  have HOw : Hid (∀ w, IsRow w 1 (.slice a0 l.length cap0) l.length (iCells l) → Calls Tryd.prog 19 #[.int .u64 (key : Int), .slice a0 l.length cap0] w fun e w' => e = .returned (.int .i64 (ownL key l : Int)) ∧ Below w.heap.size w w') := fun w h => refOwner_any key _ l w h (by omega)
  have HHp : Hid (∀ x w, IsRow w 1 (.slice a0 l.length cap0) l.length (iCells l) → Calls Tryd.prog 25 #[.int .i64 x, .int .u64 (key : Int), .slice a0 l.length cap0] w fun e w' => e = .returned (.int .i64 (hopN x key (rgL l) : Int)) ∧ Below w.heap.size w w') := fun x w h => refHop_any x key _ l w h (by omega)
  clear hk hp ha hna hN hnl
  go_enter Tryd.func5, Tryd.ntmps5
  go_wp2_with fail
  refine HFw.out.mono ?_
  rintro e w1 ⟨rfl, hw⟩
  subst hw
  go_wp2_with fail
  refine (HWy.out _ HR.out).mono ?_
  rintro e w2 ⟨W, v2, rfl, hW, hrow2, hb2⟩
  obtain ⟨a2, cap2, rfl⟩ := hrow2.form
  have HR2 : Hid (IsRow w2 1 (.slice a0 l.length cap0) l.length (iCells l)) := HR.out.below hb2
  have HW2 : Hid (IsRow w2 1 (.slice a2 W.length cap2) W.length (nCells W)) := hrow2
  have HB2 : Hid (Below w1.heap.size w1 w2) := hb2
  have HW : Hid (WayN frm key l W) := hW
  have hWp := hW.pos
  have hWl := hW.len
  clear hb2 HR hrow2 hW HWy HFw
  go_wp2_with fail
  refine (HNd.out _ HR2.out).mono ?_
  rintro e w3 ⟨rfl, hb3⟩
  have HR3 : Hid (IsRow w3 1 (.slice a0 l.length cap0) l.length (iCells l)) := HR2.out.below hb3
  have HW3 : Hid (IsRow w3 1 (.slice a2 W.length cap2) W.length (nCells W)) := HW2.out.below hb3
  have HB3 : Hid (Below w1.heap.size w1 w3) := HB2.out.trans (hb3.mono HB2.out.size)
  clear hb3 HR2 HB2 HW2
  go_wp2_with fail
  refine (HHs.out _ HR3.out).mono ?_
  rintro e w4 ⟨rfl, hw⟩
  subst hw
  obtain ⟨n0, hn0, hnf⟩ := HW.out.first
  have hlast := HW.out.last
  obtain ⟨b, off, hbo, hlt, hcap, k0⟩ := n_at HW3.out 0 hWp
  subst hbo
  obtain ⟨b', off', hbo', -, -, k9⟩ := n_at HW3.out (W.length - 1) (by omega)
  cases hbo'
  rw [List.getElem?_eq_getElem hWp, Option.some.injEq] at hn0
  rw [List.getElem?_eq_getElem (by omega), Option.some.injEq] at hlast
  have c0 : w4.cell? ⟨b, off, none⟩ = some (.int .i64 frm) := by rw [← hnf, ← hn0]; exact k0
  have c9 : w4.cell? ⟨b, off + (W.length - 1), none⟩ = some (.int .i64 (ownL key l : Int)) := by rw [← hlast]; exact k9
  clear hn0 hnf hlast HNd HHs k0 k9
  have hS : SG b off (off + (W.length - 1)) frm (ownL key l : Int) w4 w4 := ⟨c0, c9, hlt, Below.refl _ _⟩
  have HRz : Hid (∀ w', Below w4.heap.size w4 w' → IsRow w' 1 (.slice a0 l.length cap0) l.length (iCells l)) := fun w' h => HR3.out.below h
  have HWz : Hid (∀ w', Below w4.heap.size w4 w' → IsRow w' 1 (.slice (some ⟨b, off, none⟩) W.length cap2) W.length (nCells W)) := fun w' h => HW3.out.below h
  have dlt : decide (l.length < W.length) = false := by simp; omega
  generalize (ownL key l : Int) = o at *
  generalize hL : W.length = L at *
  obtain ⟨n, rfl⟩ : ∃ n, L = n + 1 := ⟨L - 1, by omega⟩
  have HL : Hid (W.length = n + 1) := hL
  rw [Nat.add_sub_cancel] at hS c9
  have hn50 : n + 1 ≤ 40 := by omega
  have dlt2 : decide ((l.length : Int) < (n : Int) + 1) = false := by simp; omega
  have dn0 : ((n : Int) + 1 == 0) = false := by rw [beq_eq_false_iff_ne]; omega
  have q1 : IntKind.i64.wrap (((n + 1 : Nat) : Int) - 1) = (n : Int) := by rw [IntKind.wrap_i64]; omega
  have q2 : IntKind.i64.wrap (n : Int) = (n : Int) := by rw [IntKind.wrap_i64]; omega
  have q3 : (0 : Int) ≤ (n : Int) := by omega
  have q4 : (n : Int) < (n : Int) + 1 := by omega
  have q5 : (n : Int) + 1 - 1 = (n : Int) := by omega
  clear hL c0 c9 HR3 HW3
  go_wp2_with fail
  go_region_held3 (fun w' => SG b off (off + n) frm o w4 w') (first | assumption | exact SG_call (by assumption) (by assumption) | exact SG_drew (by assumption))
    (first | (go_at_call 19; refine (HOw.out _ (HRz.out _ (Below.drew (And.right (And.right (And.right (show SG b off (off + n) frm o w4 _ by assumption))))))).mono ?_; rintro e w' ⟨rfl, hb⟩))
  rename_i hS2
  generalize hw5 : w' = w5 at *
  have HB45 : Hid (Below w4.heap.size w4 w5) := hS2.2.2.2
  have HB5 : Hid (Below w1.heap.size w1 w5) := HB3.out.trans (HB45.out.mono HB3.out.size)
  have HR5 : Hid (IsRow w5 1 (.slice a0 l.length cap0) l.length (iCells l)) := HRz.out _ HB45.out
  have HW5 : Hid (IsRow w5 1 (.slice (some ⟨b, off, none⟩) (n + 1) cap2) (n + 1) (nCells W)) := HWz.out _ HB45.out
  clear hS2 hS HRz HWz q1 q2 q3 q4 q5 HB45 HB3 hw5 HOw dn0
  go_wp2_with fail
  go_loopw [6, 8] (fun r i wr => r = .bool false ∧ ∃ j : Nat, j ≤ n ∧ i = .int .i64 ((j : Int) + 1) ∧ Below w5.heap.size w5 wr) (fun _ i _ => n + 1 - (intOf i).toNat)
  case atStart => exact ⟨rfl, 0, Nat.zero_le _, rfl, Below.refl _ _⟩
  case round =>
    obtain ⟨rfl, j, hj, rfl, hB⟩ := hrel
    by_cases hlj : j < n
    · have dj : decide (j < n) = true := by simpa using hlj
      have hjW : j < W.length := by rw [HL.out]; omega
      have hjW1 : j + 1 < W.length := by rw [HL.out]; omega
      have HWr : Hid (IsRow wr 1 (.slice (some ⟨b, off, none⟩) W.length cap2) W.length (nCells W)) := by show IsRow _ _ _ _ _; rw [HL.out]; exact HW5.out.below hB
      obtain ⟨b1, off1, hbo1, hlt1, hcap1, cj⟩ := n_at HWr.out j hjW
      cases hbo1
      obtain ⟨b2, off2, hbo2, -, -, cj1⟩ := n_at HWr.out (j + 1) hjW1
      cases hbo2
      have hfr := HW.out.fresh (j + 1) _ (List.getElem?_eq_getElem hjW1)
      have hstp := HW.out.step j _ _ (List.getElem?_eq_getElem hjW) (List.getElem?_eq_getElem hjW1)
      have HHs : Hid (∀ w', Below wr.heap.size wr w' → Calls Tryd.prog 29 #[.slice (some ⟨b, off, none⟩) (j + 1) cap2, .int .i64 (W[j + 1] : Int)] w' fun e w2 => e = .returned (.bool false) ∧ w2 = w') := fun w' hb => by
        have h1 : IsRow w' 1 (.slice (some ⟨b, off, none⟩) W.length cap2) (W.map fun (n : Nat) => (n : Int)).length (iCells (W.map fun (n : Nat) => (n : Int))) := by rw [List.length_map, ← nCells_is]; exact HWr.out.below hb
        have h2 := row_take h1 (j + 1) (by rw [List.length_map]; omega) (by rw [List.length_map]; omega)
        have := has_any _ _ (W[j + 1] : Int) w' h2 (by rw [List.length_take]; omega)
        rw [← List.map_take, mem_cast, decide_eq_false hfr] at this
        exact this
      have HHq : Hid (∀ w', Below wr.heap.size wr w' → Calls Tryd.prog 25 #[.int .i64 (W[j] : Int), .int .u64 (key : Int), .slice a0 l.length cap0] w' fun e w2 => e = .returned (.int .i64 (W[j + 1] : Int)) ∧ Below w'.heap.size w' w2) := fun w' hb => by
        have := HHp.out (W[j] : Int) w' ((HR5.out.below hB).below hb)
        rw [hstp] at this
        exact this
      have hS : SG b (off + (j + 1)) (off + j) (W[j + 1] : Int) (W[j] : Int) wr wr := ⟨cj1, cj, hlt1, Below.refl _ _⟩
      have HBw : Hid (∀ w', Below wr.heap.size wr w' → Below w5.heap.size w5 w') := fun w' h => hB.trans (h.mono hB.size)
      generalize W[j + 1]'hjW1 = y at *
      generalize W[j]'hjW = x at *
      have q1 : IntKind.i64.wrap (j : Int) = (j : Int) := by rw [IntKind.wrap_i64]; omega
      have q2 : (0 : Int) ≤ (j : Int) := by omega
      have q3 : (j : Int) < (n : Int) + 1 := by omega
      have q4 : (j : Int) + 1 - 1 = (j : Int) := by omega
      have q5 : (0 : Int) ≤ (j : Int) + 1 := by omega
      have q6 : (j : Int) + 1 < (n : Int) + 1 := by omega
      have q7 : (j : Int) + 1 ≤ (cap2 : Int) := by omega
      clear cj cj1 hfr hstp hB HWr
      go_wp2_with fail
      go_region_held3 (fun w' => SG b (off + (j + 1)) (off + j) (y : Int) (x : Int) wr w') (first | assumption | exact SG_call (by assumption) (by assumption) | exact SG_drew (by assumption))
        (first
          | (go_at_call 29; refine (HHs.out _ (Below.drew (And.right (And.right (And.right (show SG b (off + (j + 1)) (off + j) (y : Int) (x : Int) wr _ by assumption)))))).mono ?_; rintro e w' ⟨rfl, rfl⟩)
          | (go_at_call 25; refine (HHq.out _ (And.right (And.right (And.right (show SG b (off + (j + 1)) (off + j) (y : Int) (x : Int) wr _ by assumption))))).mono ?_; rintro e w' ⟨rfl, hb⟩)
          | (go_at_call 25; refine (HHq.out _ (Below.drew (And.right (And.right (And.right (show SG b (off + (j + 1)) (off + j) (y : Int) (x : Int) wr _ by assumption)))))).mono ?_; rintro e w' ⟨rfl, hb⟩))
      rename_i hS2
      have HBz := HBw.out _ hS2.2.2.2
      clear hS2 hS
      go_wp2
      go_roundw
      case rel => exact ⟨rfl, j + 1, by omega, by simp, HBz⟩
      case measure => simp [intOf]; omega
    · have dj : decide (j < n) = false := by simpa using hlj
      have HB6 : Hid (Below w1.heap.size w1 wr) := HB5.out.trans (hB.mono HB5.out.size)
      clear hB
      go_wp2_with fail
      refine (HA.out _).mono ?_
      rintro e w7 ⟨rfl, hb7⟩
      have HB7 : Hid (Below w1.heap.size w1 w7) := HB6.out.trans (hb7.mono HB6.out.size)
      clear hb7
      go_wp2
      go_ret
      exact ⟨rfl, HB7.out⟩
end Go.Proofs.YtmnmjphgpblbhaaDoor
/- What the listed variables give to the ring's laws (nothing is asked of them); ints and keys that came in. -/
namespace Go.Proofs.YtmnmjphgpblbhaaDoor
open Go.ChangeShapes Go.WideShapes Go.ChangeAt Go.WideMaps Go.WideElems Go.RowKit Go.Deep

theorem own : ownKnob Tryd.prog.godebug = none := by kernel_rfl
theorem laidOut : laidOutB Tryd.prog = true := by kernel_rfl
def laidR : List (String × DataW Unit) := [("math/bits.deBruijn32tab", Rows.laid_math_bits_deBruijn32tab), ("math/bits.deBruijn64tab", Rows.laid_math_bits_deBruijn64tab), ("internal/strconv.uint64pow10", Rows.laid_internal_strconv_uint64pow10)]
theorem door_met (os : Os) (args : Array Value) : laidMetH Tryd.prog laidR ((World.doorLaid Tryd.prog 400 os).forCall (fun _ _ => 0) ⟨#[], args, []⟩).memory :=
  laidMetH_of_parts3 (fuel := 8) (laidMet_of_run' 8 (by kernel_rfl) (by kernel_rfl)) (by kernel_rfl) (by kernel_rfl)
theorem c_int : Tryd.prog.cellsOf 3 = 1 := by kernel_rfl
theorem b_int : Tryd.prog.bytesOf 3 = 8 := by kernel_rfl
theorem add_lit (b off j : Nat) : (⟨b, off, none⟩ : Addr).add j = ⟨b, off + j, none⟩ := by unfold Addr.add; split <;> simp_all
theorem row_of_cells {w : World} {a : Addr} {len cap : Nat} {xs : List Value} (hx : xs.length = len) (hl : len ≤ cap) (hm : cap ≤ maxLen) (hc : ∀ i, i < len → w.cell? (a.add i) = xs[i]?) : IsRow w 1 (.slice (some a) len cap) len xs := by
  refine ⟨by omega, ?_⟩
  by_cases h0 : len = 0
  · subst h0
    exact .inl ⟨rfl, _, _, rfl⟩
  · right
    obtain ⟨b, off, spot⟩ := a
    obtain ⟨u0, hu0⟩ : ∃ u, xs[0]? = some u := ⟨xs[0]'(by omega), by simp⟩
    have hspot : spot = none := by
      have := (hc 0 (by omega)).trans hu0
      simpa [Addr.add] using World.cell?_spot this
    subst hspot
    have hcell : ∀ i, i < len → w.cell? ⟨b, off + i, none⟩ = xs[i]? := fun i hi => by rw [← add_lit]; exact hc i hi
    refine ⟨b, off, cap, rfl, block_lt_of_cell ((hcell 0 (by omega)).trans hu0), hl, hm, ?_⟩
    intro j u hu
    have hj : j < len := by have := (List.getElem?_eq_some_iff.1 hu).1; omega
    rw [hcell j hj]; exact hu
theorem open_ints' {H : Type} {enc : TypeId × Value → H} {w : World} {fuel : Nat} {v : Value} {x : DataW H × List MemPlace} (h : DataW.trod enc Tryd.prog w 0 (fun _ => true) true fuel 23 [v] = some x)
    (hz : ∀ n ∈ x.1.weights Tryd.prog 23, n ≤ reachBytes) :
    ∃ l : List Int, IsRow w 1 v l.length (iCells l) ∧ l.length ≤ 140737488355328 ∧ True := by
  rcases open_slice1 Tryd.underlying23 c_int h with ⟨hv, _⟩ | ⟨a, len, cap, m, n, V, D, Pl, hv, hb, hl, hm, hmm, rfl, hx⟩
  · simp at hv
    subst hv
    exact ⟨[], ⟨rfl, .inl ⟨rfl, _, _, rfl⟩⟩, by simp, trivial⟩
  simp at hv
  subst hv
  simp at hmm
  subst hmm
  have key : ∀ i, i < len → ∃ y : Int, V i = .int .i64 y := by
    intro i hi
    obtain ⟨y, e, _, _⟩ := DataW.trod_int Tryd.underlying3 (hx i (by omega)).2
    exact ⟨y, by simpa using e⟩
  obtain ⟨X, hX⟩ := choose_lt key
  have hlen : len * 8 ≤ reachBytes := by
    have := hz ((len + (m - len)) * 8) (by simp only [DataW.weights, Tryd.underlying23, b_int]; simp)
    omega
  have r := row_of_cells (w := w) (a := a) (xs := ((List.range len).map X).map (Value.int .i64)) (len := len) (cap := m) (by simp) hl hm (fun i hi => by rw [(hx i (by omega)).1, hX i hi]; simp [hi])
  refine ⟨(List.range len).map X, ?_, ?_, trivial⟩
  · simpa [iCells] using r
  · simp; unfold reachBytes at hlen; omega
/-- A key that came in. -/
theorem key_nat {x : Int} (h : (Lit.int .u64 x).wf = true) : ∃ n : Nat, x = (n : Int) := by
  have : 0 ≤ x := by
    have h2 : 0 ≤ x ∧ x ≤ 18446744073709551615 := by simpa [Lit.wf, IntKind.min, IntKind.max, IntKind.signed, IntKind.bits] using h
    exact h2.1
  exact ⟨x.toNat, by omega⟩
theorem int_rng {x : Int} (h : (Lit.int .i64 x).wf = true) : -9223372036854775808 ≤ x ∧ x ≤ 9223372036854775807 := by
  simpa [Lit.wf, IntKind.min, IntKind.max, IntKind.signed, IntKind.bits] using h
end Go.Proofs.YtmnmjphgpblbhaaDoor
