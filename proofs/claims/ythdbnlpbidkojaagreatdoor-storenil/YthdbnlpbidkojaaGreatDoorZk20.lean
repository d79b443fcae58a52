/- store's Stored by another one than the maker: its walk. -/
import Derived.Test.YthdbnlpbidkojaaGreatDoorZk15
import Derived.Test.YthdbnlpbidkojaaGreatDoorZk14
import Derived.Test.YthdbnlpbidkojaaGreatDoorZk11
import Derived.Test.YthdbnlpbidkojaaGreatDoorZk0
import Derived.Test.YthdbnlpbidkojaaGreatDoorZk1
import Derived.Test.YthdbnlpbidkojaaGreatDoorZk2
namespace Go.Proofs.YthdbnlpbidkojaaGreatDoor
open Go.RowKit Go.ChangeMaps

set_option maxRecDepth 100000 in
set_option maxHeartbeats 1000000 in
theorem stored_other {base : Nat} {w : World} {s m g : Nat} {E : List (ByteArray × Nat)} {X : Nat → Kp} (h : StV base w s m E X) (n : ByteArray) (hn : n.size ≤ 1000000) (hL : lkS E (fldB n) = some g) (a b c N : Int) (hne : ¬ ((X g).t.nd = a ∧ (X g).t.lf = b ∧ (X g).t.sq = c)) (hT : UT w) :
    Calls Tryz.prog 21 #[stP s, .string n, idV a b c, .int .i64 N] w fun e w' => e = .returned (.tuple #[.bool false, .int .i64 4]) ∧ Below w.heap.size w w' := by
  have HFi : Hid (∀ W, Below w.heap.size w W → Calls Tryz.prog 35 #[stP s, .string n] W fun e w' => e = .returned (.pointer (some ⟨g, 0, none⟩)) ∧ Below W.heap.size W w') := fun W hb => by
    have := find_any (h.below hb) n hn (Utf8Tabs_below hT hb)
    rw [hL] at this
    exact this
  obtain ⟨hbg, vo, va, vc, h0, ho⟩ := h.kp _ (lkS_memB hL)
  dsimp only at hbg h0 ho
  obtain ⟨t, s0, f0, hX⟩ : ∃ t s0 f0, X g = ⟨t, s0, f0⟩ := ⟨_, _, _, rfl⟩
  rw [hX] at h0 ho hne
  dsimp only at hne
  have HE : Hid (∀ W : World, (if t.nd = a then if t.lf = b then if t.sq = c then Result.ok (Next.value (Value.bool false)) W else Result.ok (Next.value (Value.bool true)) W else Result.ok (Next.value (Value.bool true)) W else Result.ok (Next.value (Value.bool true)) W) = (Result.ok (Next.value (Value.bool true)) W : Result Next)) := fun W => by
    by_cases h1 : t.nd = a
    · by_cases h2 : t.lf = b
      · by_cases h3 : t.sq = c
        · exact absurd ⟨h1, h2, h3⟩ hne
        · simp [h1, h2, h3]
      · simp [h1, h2]
    · simp [h1]
  have HK : Hid (∀ W, Below w.heap.size w W → W.cell? ⟨g, 5, none⟩ = some (.int .i64 t.nd) ∧ W.cell? ⟨g, 6, none⟩ = some (.int .i64 t.lf) ∧ W.cell? ⟨g, 7, none⟩ = some (.int .i64 t.sq)) := fun W hb => by
    have hk := (hb.block _ (Array.getElem?_eq_some_iff.1 h0).1).trans h0
    exact ⟨by rw [Lib.cell_of_heap hk]; rfl, by rw [Lib.cell_of_heap hk]; rfl, by rw [Lib.cell_of_heap hk]; rfl⟩
  clear h hn hL hT hbg h0 ho hX hne
  obtain ⟨w1, hw1⟩ : ∃ w1, w1 = w.alloc (.cells #[.int .i64 a, .int .i64 b, .int .i64 c] 33) := ⟨_, rfl⟩
  have B1 : Hid (Below w.heap.size w w1) := by show Below _ _ _; rw [hw1]; exact al_b _ _
  have hn1 : w1.heap[w.heap.size]? = some (.cells #[.int .i64 a, .int .i64 b, .int .i64 c] 33 (0, 0)) := by rw [hw1]; exact new_at _ _
  have HI : Hid (∀ W, Below w1.heap.size w1 W → W.cell? ⟨w.heap.size, 0, none⟩ = some (.int .i64 a) ∧ W.cell? ⟨w.heap.size, 1, none⟩ = some (.int .i64 b) ∧ W.cell? ⟨w.heap.size, 2, none⟩ = some (.int .i64 c)) := fun W hb => by
    have hk := (hb.block _ (Array.getElem?_eq_some_iff.1 hn1).1).trans hn1
    exact ⟨by rw [Lib.cell_of_heap hk]; rfl, by rw [Lib.cell_of_heap hk]; rfl, by rw [Lib.cell_of_heap hk]; rfl⟩
  clear hn1
  go_enter Tryz.func21, Tryz.ntmps21
  go_wp2_with fail
  rw [← hw1]
  clear hw1
  refine (HFi.out _ B1.out).mono ?_
  rintro e w2 ⟨rfl, hb⟩
  have B2 : Hid (Below w.heap.size w w2) := B1.out.trans (hb.mono B1.out.size)
  have D2 : Hid (Below w1.heap.size w1 w2) := hb
  clear hb HFi
  go_wp2_with fail
  refine wp_region_quiet (C := fun w' => Below w2.heap.size w2 w') (by kernel_rfl) (by kernel_rfl) ((Below.refl _ _).drew) ?_
  dsimp only
  repeat (first
    | go_big_quiet_skip
    | (go_big_quiet_want
       apply Exists.intro
       refine ⟨fun W' hW' => ?_, ?_⟩
       · have hw : Below w2.heap.size w2 W' := hW'
         obtain ⟨i0, i1, i2⟩ := HI.out W' (D2.out.trans (hw.mono D2.out.size))
         obtain ⟨c5, c6, c7⟩ := HK.out W' (B2.out.trans (hw.mono B2.out.size))
         go_simp
         first
           | done
           | rfl
       go_big_quiet_on
       try simp only [Act.put, List.setIfInBounds_toArray, List.set_cons_zero, List.set_cons_succ]))
  go_big_quiet_want
  refine ⟨.bool true, fun W' hW' => ?_, ?_⟩
  · have hw : Below w2.heap.size w2 W' := hW'
    have := HE.out W'
    go_simp
  go_big_quiet_on
  try simp only [Act.put, List.setIfInBounds_toArray, List.set_cons_zero, List.set_cons_succ]
  repeat (first
    | go_big_quiet_skip
    | (go_big_quiet_want
       apply Exists.intro
       refine ⟨fun W' hW' => ?_, ?_⟩
       · have hw : Below w2.heap.size w2 W' := hW'
         obtain ⟨i0, i1, i2⟩ := HI.out W' (D2.out.trans (hw.mono D2.out.size))
         obtain ⟨c5, c6, c7⟩ := HK.out W' (B2.out.trans (hw.mono B2.out.size))
         go_simp
         first
           | done
           | rfl
       go_big_quiet_on
       try simp only [Act.put, List.setIfInBounds_toArray, List.set_cons_zero, List.set_cons_succ]))
  refine wpQuiet_nil ?_
  intro w3 hqw
  have B3 : Hid (Below w.heap.size w w3) := B2.out.trans (hqw.mono B2.out.size)
  clear hqw HI HK HE
  go_wp2
  refine bodyPost_ret (results_tmp2 rfl _ _ _) rfl ⟨?_, B3.out⟩
  go_simp
  try rfl
end Go.Proofs.YthdbnlpbidkojaaGreatDoor
/- Stored, Begin of a name of which nothing is kept; Begin of what are no nodes: walks. -/
namespace Go.Proofs.YthdbnlpbidkojaaGreatDoor
open Go.RowKit Go.ChangeMaps

set_option maxRecDepth 100000 in
set_option maxHeartbeats 1000000 in
theorem stored_none {base : Nat} {w : World} {s m : Nat} {E : List (ByteArray × Nat)} {X : Nat → Kp} (h : StV base w s m E X) (n : ByteArray) (hn : n.size ≤ 1000000) (hL : lkS E (fldB n) = none) (a b c N : Int) (hT : UT w) :
    Calls Tryz.prog 21 #[stP s, .string n, idV a b c, .int .i64 N] w fun e w' => e = .returned (.tuple #[.bool false, .int .i64 4]) ∧ Below w.heap.size w w' := by
  have HFi : Hid (∀ W, Below w.heap.size w W → Calls Tryz.prog 35 #[stP s, .string n] W fun e w' => e = .returned (.pointer none) ∧ Below W.heap.size W w') := fun W hb => by
    have := find_any (h.below hb) n hn (Utf8Tabs_below hT hb)
    rw [hL] at this
    exact this
  obtain ⟨w1, hw1⟩ : ∃ w1, w1 = w.alloc (.cells #[.int .i64 a, .int .i64 b, .int .i64 c] 33) := ⟨_, rfl⟩
  have B1 : Hid (Below w.heap.size w w1) := by show Below _ _ _; rw [hw1]; exact al_b _ _
  clear h hn hL hT
  go_enter Tryz.func21, Tryz.ntmps21
  go_wp2_with fail
  rw [← hw1]
  clear hw1
  refine (HFi.out _ B1.out).mono ?_
  rintro e w2 ⟨rfl, hb⟩
  have B2 : Hid (Below w.heap.size w w2) := B1.out.trans (hb.mono B1.out.size)
  clear hb HFi
  go_wp2_with fail
  refine wp_region_quiet (C := fun w' => Below w2.heap.size w2 w') (by kernel_rfl) (by kernel_rfl) ((Below.refl _ _).drew) ?_
  dsimp only
  repeat (first
    | go_big_quiet_skip
    | (go_big_quiet_want
       apply Exists.intro
       refine ⟨fun W' hW' => ?_, ?_⟩
       · go_simp
         first
           | done
           | rfl
       go_big_quiet_on
       try simp only [Act.put, List.setIfInBounds_toArray, List.set_cons_zero, List.set_cons_succ]))
  refine wpQuiet_nil ?_
  intro w3 hqw
  have B3 : Hid (Below w.heap.size w w3) := B2.out.trans (hqw.mono B2.out.size)
  clear hqw
  go_wp2
  refine bodyPost_ret (results_tmp2 rfl _ _ _) rfl ⟨?_, B3.out⟩
  go_simp
  try rfl
set_option maxRecDepth 100000 in
theorem begin_bad (w : World) (s : Nat) (n : ByteArray) (v : Value) (l : List Int) (hr : IsRow w 1 v l.length (iCells l)) (hl : l.length ≤ 1000000) (hP : ¬ NodesP l) :
    Calls Tryz.prog 20 #[stP s, .string n, v] w fun e w' => e = .returned (.tuple #[.bool false, .int .i64 1]) ∧ w' = w := by
  obtain ⟨a0, c0, rfl⟩ := hr.form
  have HN := nodes_any _ l w hr hl
  rw [nodesB_false hP] at HN
  clear hr hl hP
  go_enter Tryz.func20, Tryz.ntmps20
  go_wp2_with fail
  refine HN.mono ?_
  rintro e w1 ⟨rfl, rfl⟩
  go_wp2
  refine bodyPost_ret (results_tmp2 rfl _ _ _) rfl ⟨?_, rfl⟩
  go_simp
  try rfl
set_option maxRecDepth 100000 in
theorem begin_none {base : Nat} {w : World} {s m : Nat} {E : List (ByteArray × Nat)} {X : Nat → Kp} (h : StV base w s m E X) (n : ByteArray) (hn : n.size ≤ 1000000) (hL : lkS E (fldB n) = none) (v : Value) (l : List Int) (hr : IsRow w 1 v l.length (iCells l)) (hl : l.length ≤ 1000000) (hP : NodesP l) (hT : UT w) :
    Calls Tryz.prog 20 #[stP s, .string n, v] w fun e w' => e = .returned (.tuple #[.bool false, .int .i64 4]) ∧ Below w.heap.size w w' := by
  obtain ⟨a0, c0, rfl⟩ := hr.form
  have HN := nodes_any _ l w hr hl
  rw [nodesB_true hP] at HN
  have HFi := find_any h n hn hT
  rw [hL] at HFi
  have HFi : Calls Tryz.prog 35 #[stP s, .string n] w fun e w' => e = .returned (.pointer none) ∧ Below w.heap.size w w' := HFi
  clear h hn hL hT hr hl hP
  go_enter Tryz.func20, Tryz.ntmps20
  go_wp2_with fail
  refine HN.mono ?_
  rintro e w1 ⟨rfl, rfl⟩
  go_wp2_with fail
  refine HFi.mono ?_
  rintro e w2 ⟨rfl, hb⟩
  have B2 : Hid (Below w1.heap.size w1 w2) := hb
  clear hb
  go_wp2
  refine bodyPost_ret (results_tmp2 rfl _ _ _) rfl ⟨?_, B2.out⟩
  go_simp
  try rfl
end Go.Proofs.YthdbnlpbidkojaaGreatDoor
/- The reference's Nodes, Same, Has: walks. -/
namespace Go.Proofs.YthdbnlpbidkojaaGreatDoor
open Go.RowKit

set_option maxRecDepth 100000 in
set_option maxHeartbeats 2000000 in
theorem refNodes_any (v : Value) (l : List Int) (w : World) (hr : IsRow w 1 v l.length (iCells l)) (hl : l.length ≤ 1000000) :
    Calls Tryz.prog 64 #[v] w fun e w' => e = .returned (.bool (nodesB l)) ∧ Below w.heap.size w w' := by
  obtain ⟨a0, cap0, rfl⟩ := hr.form
  have HR : Hid (IsRow w 1 (.slice a0 l.length cap0) l.length (iCells l)) := hr
  clear hr
  go_enter Tryz.func64, Tryz.ntmps64
  go_wp2_with fail
  go_loopw [2, 3] (fun r i wr => r = .bool false ∧ ∃ k : Nat, k ≤ l.length ∧ i = .int .i64 (k : Int) ∧ Hid (∀ (j : Nat) (h : j < l.length), j < k → okAt l j h) ∧ Below w.heap.size w wr) (fun _ i _ => l.length - (intOf i).toNat)
  case atStart => exact ⟨rfl, 0, Nat.zero_le _, rfl, fun j h hj => absurd hj (Nat.not_lt_zero _), Below.refl _ _⟩
  case round =>
    obtain ⟨rfl, k, hk, rfl, HO, hB⟩ := hrel
    by_cases hlk : k < l.length
    · have dk : decide ((k : Int) < l.length) = true := by simp; omega
      obtain ⟨b, off, rfl, -, hlt, hcap, hc⟩ := iCells_at (HR.out.below hB) (by omega)
      have ck := hc k hlk
      by_cases hok : okAt l k hlk
      · have HO2 : Hid (∀ (j : Nat) (h : j < l.length), j < k + 1 → okAt l j h) := fun j h hj => by
          by_cases e : j = k
          · subst e; exact hok
          · exact HO.out j h (by omega)
        obtain ⟨o1, o2, o3⟩ := hok
        cases k with
        | zero =>
          simp only [Nat.add_zero] at ck
          generalize l[0]'hlk = x at *
          have d1 : decide (x < 1) = false := by simp; omega
          have d2 : decide (15 < x) = false := by simp; omega
          clear hc HO o3
          go_wp2_with fail
          go_region
          go_wp2
          go_roundw
          case rel => exact ⟨rfl, 0 + 1, by omega, by simp, HO2, hB.drew⟩
          case measure => simp [intOf]; omega
        | succ j =>
          have cj := hc j (by omega)
          have hlt2 := o3 j rfl
          generalize l[j + 1]'hlk = x at *
          generalize l[j]'(by omega) = y at *
          have d1 : decide (x < 1) = false := by simp; omega
          have d2 : decide (15 < x) = false := by simp; omega
          have d3 : decide (x ≤ y) = false := by simp; omega
          clear hc HO o3
          go_wp2_with fail
          go_region
          go_wp2
          go_roundw
          case rel => exact ⟨rfl, j + 1 + 1, by omega, by simp, HO2, hB.drew⟩
          case measure => simp [intOf]; omega
      · have HN : Hid (nodesB l = false) := nodesB_false fun h => hok (h k hlk)
        by_cases h1 : l[k] < 1
        · generalize l[k]'hlk = x at *
          have d1 : decide (x < 1) = true := by simp; omega
          clear hc HO hok
          go_wp2_with fail
          go_region
          go_wp2
          go_ret
          exact ⟨by rw [HN.out]; rfl, hB.drew⟩
        by_cases h2 : 15 < l[k]
        · generalize l[k]'hlk = x at *
          have d1 : decide (x < 1) = false := by simp; omega
          have d2 : decide (15 < x) = true := by simp; omega
          clear hc HO hok
          go_wp2_with fail
          go_region
          go_wp2
          go_ret
          exact ⟨by rw [HN.out]; rfl, hB.drew⟩
        cases k with
        | zero => exact absurd ⟨by omega, by omega, fun j e => absurd e (by omega)⟩ hok
        | succ j =>
          have cj := hc j (by omega)
          have hle : ¬ l[j]'(by omega) < l[j + 1]'hlk := fun hh => hok ⟨by omega, by omega, fun j' e => by
            have : j' = j := by omega
            subst this
            exact hh⟩
          generalize l[j + 1]'hlk = x at *
          generalize l[j]'(by omega) = y at *
          have d1 : decide (x < 1) = false := by simp; omega
          have d2 : decide (15 < x) = false := by simp; omega
          have d3 : decide (x ≤ y) = true := by simp; omega
          clear hok hc HO
          go_wp2_with fail
          go_region
          go_wp2
          go_ret
          exact ⟨by rw [HN.out]; rfl, hB.drew⟩
    · have dk : decide ((k : Int) < l.length) = false := by simp; omega
      have HY : Hid (nodesB l = true) := nodesB_true fun j h => HO.out j h (by omega)
      clear HO
      go_wp2
      go_ret
      exact ⟨by rw [HY.out]; rfl, hB⟩
set_option maxRecDepth 100000 in
theorem same_eq (v1 v2 : Value) (l : List Int) (w : World) (h1 : IsRow w 1 v1 l.length (iCells l)) (h2 : IsRow w 1 v2 l.length (iCells l)) (hl : l.length ≤ 1000000) :
    Calls Tryz.prog 34 #[v1, v2] w fun e w' => e = .returned (.bool true) ∧ Below w.heap.size w w' := by
  obtain ⟨a1, cap1, rfl⟩ := h1.form
  obtain ⟨a2, cap2, rfl⟩ := h2.form
  have H1 : Hid (IsRow w 1 (.slice a1 l.length cap1) l.length (iCells l)) := h1
  have H2 : Hid (IsRow w 1 (.slice a2 l.length cap2) l.length (iCells l)) := h2
  clear h1 h2
  go_enter Tryz.func34, Tryz.ntmps34
  go_wp2_with fail
  go_loopw [5] (fun i wr => ∃ k : Nat, k ≤ l.length ∧ i = .int .i64 (k : Int) ∧ Below w.heap.size w wr) (fun i _ => l.length - (intOf i).toNat)
  case atStart => exact ⟨0, Nat.zero_le _, rfl, Below.refl _ _⟩
  case round =>
    obtain ⟨k, hk, rfl, hB⟩ := hrel
    by_cases hlk : k < l.length
    · have dk : decide ((k : Int) < l.length) = true := by simp; omega
      obtain ⟨b1, off1, rfl, -, hlt1, hcap1, hc1⟩ := iCells_at (H1.out.below hB) (by omega)
      obtain ⟨b2, off2, rfl, -, hlt2, hcap2, hc2⟩ := iCells_at (H2.out.below hB) (by omega)
      have c1 := hc1 k hlk
      have c2 := hc2 k hlk
      generalize l[k]'hlk = x at *
      clear hc1 hc2
      go_wp2_with fail
      go_region
      go_wp2
      go_roundw
      case rel => exact ⟨k + 1, by omega, by simp, hB.drew⟩
      case measure => simp [intOf]; omega
    · have dk : decide ((k : Int) < l.length) = false := by simp; omega
      go_wp2
      go_ret
      exact ⟨rfl, hB⟩
set_option maxRecDepth 100000 in
theorem has_any (v : Value) (l : List Int) (x : Int) (w : World) (hr : IsRow w 1 v l.length (iCells l)) (hl : l.length ≤ 1000000) :
    Calls Tryz.prog 65 #[v, .int .i64 x] w fun e w' => e = .returned (.bool (decide (x ∈ l))) ∧ w' = w := by
  obtain ⟨a0, cap0, rfl⟩ := hr.form
  have HR : Hid (IsRow w 1 (.slice a0 l.length cap0) l.length (iCells l)) := hr
  clear hr
  go_enter Tryz.func65, Tryz.ntmps65
  go_wp2_with fail
  go_loopw [4, 5] (fun r i wr => r = .bool false ∧ ∃ k : Nat, k ≤ l.length ∧ i = .int .i64 (k : Int) ∧ Hid (∀ (j : Nat) (h : j < l.length), j < k → l[j] ≠ x) ∧ w = wr) (fun _ i _ => l.length - (intOf i).toNat)
  case atStart => exact ⟨rfl, 0, Nat.zero_le _, rfl, fun j h hj => absurd hj (Nat.not_lt_zero _), rfl⟩
  case round =>
    obtain ⟨rfl, k, hk, rfl, HO, rfl⟩ := hrel
    by_cases hlk : k < l.length
    · have dk : decide ((k : Int) < l.length) = true := by simp; omega
      obtain ⟨b, off, rfl, -, hlt, hcap, hc⟩ := iCells_at HR.out (by omega)
      have ck := hc k hlk
      by_cases he : l[k] = x
      · have HX : Hid (decide (x ∈ l) = true) := decide_eq_true (by rw [← he]; exact List.getElem_mem hlk)
        rw [he] at ck
        clear hc HO he
        go_wp2
        go_ret
        exact ⟨by rw [HX.out]; rfl, rfl⟩
      · have de : (l[k] == x) = false := by rw [beq_eq_false_iff_ne]; exact he
        have HO2 : Hid (∀ (j : Nat) (h : j < l.length), j < k + 1 → l[j] ≠ x) := fun j h hj => by
          by_cases e : j = k
          · subst e; exact he
          · exact HO.out j h (by omega)
        generalize l[k]'hlk = y at *
        clear hc HO he
        go_wp2
        go_roundw
        case rel => exact ⟨rfl, k + 1, by omega, by simp, HO2, trivial⟩
        case measure => simp [intOf]; omega
    · have dk : decide ((k : Int) < l.length) = false := by simp; omega
      have HX : Hid (decide (x ∈ l) = false) := decide_eq_false fun hm => by
        obtain ⟨j, hj, e⟩ := List.mem_iff_getElem.1 hm
        exact HO.out j hj (by omega) e
      clear HO
      go_wp2
      go_ret
      exact ⟨by rw [HX.out]; rfl, rfl⟩
end Go.Proofs.YthdbnlpbidkojaaGreatDoor
/- The reference's Letter, Small, Hash: walks. -/
namespace Go.Proofs.YthdbnlpbidkojaaGreatDoor
open Go.RowKit

set_option maxRecDepth 100000 in
set_option maxHeartbeats 2000000 in
theorem refLetter_any (c : Int) (w : World) :
    Calls Tryz.prog 126 #[.int .i64 c] w fun e w' => e = .returned (.bool (letterZ c)) ∧ w' = w := by
  go_enter Tryz.func126, Tryz.ntmps126
  go_wp2
  all_goals go_ret
  all_goals refine ⟨?_, rfl⟩
  all_goals refine congrArg (fun b => Ending.returned (Value.bool b)) ?_
  all_goals (rw [Bool.eq_iff_iff]; try simp only [decide_eq_true_eq, bne_iff_ne, ne_eq] at *)
  all_goals (simp only [letterZ, Bool.false_eq_true, Bool.or_eq_true, Bool.and_eq_true, bne_iff_ne, ne_eq, decide_eq_true_eq, true_iff, false_iff]; omega)

set_option maxRecDepth 100000 in
set_option maxHeartbeats 2000000 in
theorem refSmall_any (c : Int) (w : World) (h1 : -2147483648 ≤ c) (h2 : c ≤ 2147483647) :
    Calls Tryz.prog 82 #[.int .i64 c] w fun e w' => e = .returned (.int .i64 (smallZ c)) ∧ w' = w := by
  go_enter Tryz.func82, Tryz.ntmps82
  go_wp2
  all_goals go_ret
  all_goals refine ⟨?_, rfl⟩
  all_goals refine congrArg (fun b => Ending.returned (Value.int .i64 b)) ?_
  all_goals first | (simp only [smallZ, bigZ, decide_eq_true_eq, ne_eq] at *; split <;> omega) | rfl
end Go.Proofs.YthdbnlpbidkojaaGreatDoor
/- The reference's Bytes, Fold: walks. -/
namespace Go.Proofs.YthdbnlpbidkojaaGreatDoor
open Go.RowKit

theorem conv1 (w : World) (a : Int) : (convert 152 9 (.slice (some ⟨w.heap.size, 0, none⟩) 1 1)).run Tryz.prog (w.alloc (.cells #[.int .u8 a] 5)) = .ok (.string (strOfNums [a])) (w.alloc (.cells #[.int .u8 a] 5)) :=
  run_convert_bytes_arg (P := Tryz.prog) (w.alloc (.cells #[.int .u8 a] 5)) 152 5 Tryz.underlying152 Tryz.underlying5 w.heap.size 0 1 1 [a] rfl (fun i hi => by
    match i, hi with
    | 0, _ => simp) 9 Tryz.underlying9
theorem conv2 (w : World) (a b : Int) : (convert 152 9 (.slice (some ⟨w.heap.size, 0, none⟩) 2 2)).run Tryz.prog (w.alloc (.cells #[.int .u8 a, .int .u8 b] 5)) = .ok (.string (strOfNums [a, b])) (w.alloc (.cells #[.int .u8 a, .int .u8 b] 5)) :=
  run_convert_bytes_arg (P := Tryz.prog) (w.alloc (.cells #[.int .u8 a, .int .u8 b] 5)) 152 5 Tryz.underlying152 Tryz.underlying5 w.heap.size 0 2 2 [a, b] rfl (fun i hi => by
    match i, hi with
    | 0, _ => simp
    | 1, _ => simp) 9 Tryz.underlying9
theorem conv3 (w : World) (a b c : Int) : (convert 152 9 (.slice (some ⟨w.heap.size, 0, none⟩) 3 3)).run Tryz.prog (w.alloc (.cells #[.int .u8 a, .int .u8 b, .int .u8 c] 5)) = .ok (.string (strOfNums [a, b, c])) (w.alloc (.cells #[.int .u8 a, .int .u8 b, .int .u8 c] 5)) :=
  run_convert_bytes_arg (P := Tryz.prog) (w.alloc (.cells #[.int .u8 a, .int .u8 b, .int .u8 c] 5)) 152 5 Tryz.underlying152 Tryz.underlying5 w.heap.size 0 3 3 [a, b, c] rfl (fun i hi => by
    match i, hi with
    | 0, _ => simp
    | 1, _ => simp
    | 2, _ => simp) 9 Tryz.underlying9
theorem conv4 (w : World) (a b c d : Int) : (convert 152 9 (.slice (some ⟨w.heap.size, 0, none⟩) 4 4)).run Tryz.prog (w.alloc (.cells #[.int .u8 a, .int .u8 b, .int .u8 c, .int .u8 d] 5)) = .ok (.string (strOfNums [a, b, c, d])) (w.alloc (.cells #[.int .u8 a, .int .u8 b, .int .u8 c, .int .u8 d] 5)) :=
  run_convert_bytes_arg (P := Tryz.prog) (w.alloc (.cells #[.int .u8 a, .int .u8 b, .int .u8 c, .int .u8 d] 5)) 152 5 Tryz.underlying152 Tryz.underlying5 w.heap.size 0 4 4 [a, b, c, d] rfl (fun i hi => by
    match i, hi with
    | 0, _ => simp
    | 1, _ => simp
    | 2, _ => simp
    | 3, _ => simp) 9 Tryz.underlying9

theorem str_nums (l : List Nat) (xs : List Int) (h : xs = l.map fun (x : Nat) => (x : Int)) : strOfNums xs = str (l.map UInt8.ofNat) := by
  subst h
  unfold strOfNums str
  congr 2
  rw [List.map_map]
  rfl

set_option maxRecDepth 100000 in
set_option maxHeartbeats 2000000 in
theorem refBytes_any (c : Nat) (w : World) (h : scal c) :
    Calls Tryz.prog 81 #[.int .i64 (c : Int)] w fun e w' => e = .returned (.string (str (enc c))) ∧ Below w.heap.size w w' := by
  have hc : c ≤ 1114111 := by unfold scal at h; omega
  by_cases h1 : c < 128
  · have d1 : (c : Int) < 128 := by omega
    have HE : Hid (strOfNums [(c : Int)] = str (enc c)) := by
      show _ = _
      rw [enc1 h1]
      exact str_nums [c] _ rfl
    go_enter Tryz.func81, Tryz.ntmps81
    go_wp2
    rw [conv1]
    go_wp2
    go_ret
    exact ⟨by rw [← HE.out]; rfl, (Below.refl _ _).alloc (Nat.le_refl _) _⟩
  have d1 : decide ((c : Int) < 128) = false := by simp; omega
  by_cases h2 : c < 2048
  · have d2 : (c : Int) < 2048 := by omega
    have HE : Hid (strOfNums [192 + (c : Int) / 64, 128 + (c : Int) % 64] = str (enc c)) := by
      show _ = _
      rw [enc2 (by omega) h2]
      exact str_nums [192 + c / 64, 128 + c % 64] _ (by simp)
    go_enter Tryz.func81, Tryz.ntmps81
    go_wp2
    rw [conv2]
    go_wp2
    go_ret
    exact ⟨by rw [← HE.out]; rfl, (Below.refl _ _).alloc (Nat.le_refl _) _⟩
  have d2 : decide ((c : Int) < 2048) = false := by simp; omega
  by_cases h3 : c < 65536
  · have d3 : (c : Int) < 65536 := by omega
    have HE : Hid (strOfNums [224 + (c : Int) / 4096, 128 + (c : Int) / 64 % 64, 128 + (c : Int) % 64] = str (enc c)) := by
      show _ = _
      rw [enc3 (by omega) h3 h]
      exact str_nums [224 + c / 4096, 128 + c / 64 % 64, 128 + c % 64] _ (by simp)
    go_enter Tryz.func81, Tryz.ntmps81
    go_wp2
    rw [conv3]
    go_wp2
    go_ret
    exact ⟨by rw [← HE.out]; rfl, (Below.refl _ _).alloc (Nat.le_refl _) _⟩
  · have d3 : decide ((c : Int) < 65536) = false := by simp; omega
    have HE : Hid (strOfNums [240 + (c : Int) / 262144, 128 + (c : Int) / 4096 % 64, 128 + (c : Int) / 64 % 64, 128 + (c : Int) % 64] = str (enc c)) := by
      show _ = _
      rw [enc4 (by omega) h]
      exact str_nums [240 + c / 262144, 128 + c / 4096 % 64, 128 + c / 64 % 64, 128 + c % 64] _ (by simp)
    go_enter Tryz.func81, Tryz.ntmps81
    go_wp2
    rw [conv4]
    go_wp2
    go_ret
    exact ⟨by rw [← HE.out]; rfl, (Below.refl _ _).alloc (Nat.le_refl _) _⟩

theorem str_append (a b : List UInt8) : str a ++ str b = str (a ++ b) := ba_eq (by rw [ba_append, str_data, str_data, str_data])
theorem room {A B : ByteArray} (h1 : A.size ≤ 4000000) (h2 : B.size ≤ 4) : ¬ 9223372036854775807 < A.size + B.size := by omega
theorem ints_row {w : World} {v : Value} {l : List Nat} (h : IsRow w 1 v l.length (icells l)) (i : Nat) (hi : i < l.length) :
    ∃ b off cap, v = .slice (some ⟨b, off, none⟩) l.length cap ∧ b < w.heap.size ∧ w.cell? ⟨b, off + i, none⟩ = some (.int .i64 ((l[i]'hi : Nat) : Int)) := by
  obtain ⟨b, off, cap', hv, hlt, _, _, hc⟩ := h.open (by omega)
  exact ⟨b, off, cap', hv, hlt, hc i _ (by simp [icells, hi])⟩

set_option maxRecDepth 100000 in
set_option maxHeartbeats 2000000 in
theorem refFold_any (s : ByteArray) (w : World) (hs : s.size ≤ 1000000) :
    Calls Tryz.prog 50 #[.string s] w fun e w' => e = .returned (.string (str (foldL s.data.toList))) ∧ Below w.heap.size w w' := by
  by_cases hv : Lib.validD s.data.toList = true
  · have HF : Hid (str (((rns s.data.toList).map smallN).flatMap enc) = str (foldL s.data.toList)) := by show _ = _; rw [foldL, if_pos hv]
    have HL : Hid ((rns s.data.toList).length ≤ 1000000) := by
      have h3 := rns_len_le s.data.toList.length s.data.toList
      have e : s.data.toList.length = s.size := Array.length_toList
      have : (rns s.data.toList).length ≤ s.data.toList.length := h3
      show _ ≤ _
      omega
    have HS : Hid (∀ c ∈ rns s.data.toList, scal c) := rns_scal _
    go_enter Tryz.func50, Tryz.ntmps50
    go_wp2_with fail
    refine (refValid_any s _ (by omega)).mono ?_
    rintro e w1 ⟨rfl, hb1⟩
    rw [hv]
    go_wp2_with fail
    refine (refRunes_any s _ hs hv).mono ?_
    rintro e w2 ⟨v2, rfl, hv2, hb2'⟩
    have hb2 := hb1.trans (hb2'.mono hb1.size)
    clear hb1 hb2'
    generalize rns s.data.toList = l at *
    have hll := HL.out
    obtain ⟨a2, cap2, rfl⟩ := hv2.form
    have hs2 := hb2.size
    go_wp2_with fail
    go_loopw [4, 5] (fun o i wr => ∃ k : Nat, k ≤ l.length ∧ i = .int .i64 k ∧ o = .string (str (((l.take k).map smallN).flatMap enc)) ∧ Below w2.heap.size w2 wr) (fun _ i _ => l.length - (RowKit.intOf i).toNat)
    case atStart => exact ⟨0, Nat.zero_le _, rfl, rfl, Below.refl _ _⟩
    case round =>
      obtain ⟨k, hk, rfl, rfl, hb⟩ := hrel
      have hbs := hb.size
      by_cases hlt : k < l.length
      · obtain ⟨b, off, cap, hvv, hbl, c0⟩ := ints_row (hv2.below hb) k hlt
        simp only [Value.slice.injEq] at hvv
        obtain ⟨rfl, _, rfl⟩ := hvv
        have hi : (k : Int) < l.length := by omega
        have hsc : Hid (scal l[k]) := HS.out _ (List.getElem_mem hlt)
        have hcm : l[k] ≤ 1114111 := by have := hsc.out; unfold scal at this; omega
        have HN : Hid (str (((l.take k).map smallN).flatMap enc) ++ str (enc (smallN l[k])) = str (((l.take (k + 1)).map smallN).flatMap enc)) := by
          show _ = _
          rw [str_append, List.take_succ_eq_append_getElem hlt, List.map_append, List.flatMap_append]
          simp only [List.map_cons, List.map_nil, List.flatMap_cons, List.flatMap_nil, List.append_nil]
        have hz1 : (str (((l.take k).map smallN).flatMap enc)).size ≤ 4000000 := by
          rw [str_size]
          have h1 := flat_len ((l.take k).map smallN)
          rw [List.length_map, List.length_take] at h1
          omega
        have hz2 : (str (enc (smallN l[k]))).size ≤ 4 := by rw [str_size]; exact enc_len4 _
        have hz3 := room hz1 hz2
        clear hz1 hz2
        generalize hA : str (((l.take k).map smallN).flatMap enc) = A at *
        clear hA
        go_wp2_with fail
        refine (refSmall_any _ _ (by omega) (by omega)).mono ?_
        rintro e w' ⟨rfl, rfl⟩
        rw [smallZ_nat]
        go_wp2_with fail
        refine (refBytes_any _ _ (smallN_scal hsc.out)).mono ?_
        rintro e w3 ⟨rfl, hb3'⟩
        have hb3 : Hid (Below w2.heap.size w2 w3) := hb.trans (hb3'.mono hb.size)
        clear hb hb3' c0
        go_wp2
        go_roundw
        case rel => exact ⟨k + 1, by omega, by go_num, by rw [HN.out], hb3.out⟩
        case measure => simp [RowKit.intOf]; omega
      · have hk' : k = l.length := by omega
        subst hk'
        have HN : Hid (str (((l.take l.length).map smallN).flatMap enc) = str (foldL s.data.toList)) := by show _ = _; rw [← HF.out, List.take_of_length_le (Nat.le_refl _)]
        rw [HN.out]
        go_wp2
        go_ret
        exact ⟨rfl, hb2.trans (hb.mono hs2)⟩
  · have hv' : Lib.validD s.data.toList = false := by simpa using hv
    have HF : Hid (s = str (foldL s.data.toList)) := by show _ = _; rw [foldL, if_neg hv, str_of]
    go_enter Tryz.func50, Tryz.ntmps50
    go_wp2_with fail
    refine (refValid_any s _ (by omega)).mono ?_
    rintro e w1 ⟨rfl, hb1⟩
    rw [hv']
    go_wp2
    go_ret
    exact ⟨by rw [← HF.out]; rfl, hb1⟩
end Go.Proofs.YthdbnlpbidkojaaGreatDoor
