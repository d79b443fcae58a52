/- value.Show of any value: its walk. -/
import Derived.Test.YtjamkfkbajhefaaGreatDoorZk8
import Derived.Test.YtjamkfkbajhefaaGreatDoorZk5
import Derived.Deep.RegionHeld3
namespace Go.Proofs.YtjamkfkbajhefaaGreatDoor.V
open Go.RowKit

/-- The table that decimal numbers are written by. -/
def P10 (w : World) : Prop := Lib.TabIs Tryz.prog w "internal/strconv.uint64pow10" .u64 Lib.pow10Tab
theorem g10 : Tryz.prog.globalNamed "internal/strconv.uint64pow10" = some 3 := by kernel_rfl
theorem P10_below {w w' : World} (h : P10 w) (hb : Below w.heap.size w w') : P10 w' := by
  unfold P10 Lib.TabIs World.var? at *
  rw [g10] at *
  simp only [Option.bind_some] at *
  have hlt : 3 < w.heap.size := by
    apply Decidable.byContradiction
    intro hn
    rw [Array.getElem?_eq_none (by omega)] at h
    cases h
  rw [hb.block _ hlt]
  exact h
theorem grow_below {B : Nat} {a w : World} (os : Array Obj) (h : Below B a w) (hB : B ≤ w.heap.size) : Below B a (Sort.grow w os) :=
  ⟨h.os, h.tape, h.output, Nat.le_trans h.size (by show w.heap.size ≤ (w.heap ++ os).size; simp), fun k hk => by
    show (w.heap ++ os)[k]? = _
    rw [Array.getElem?_append_left (by omega)]
    exact h.block k hk⟩
theorem itoa_any (n : Int) (w : World) (h0 : -9007199254740991 ≤ n) (h1 : n ≤ 9007199254740991) (hP : P10 w) :
    Calls Tryz.prog 71 #[.int .i64 n] w fun e w' => e = .returned (.string (str (Lib.itoa n))) ∧ Below w.heap.size w w' := by
  refine (Tryz.strconv_Itoa n (by omega) (by omega) w hP).mono ?_
  rintro e w' ⟨he, k, os, rfl⟩
  exact ⟨he, grow_below os (below_dN (Below.refl _ _) k) (below_dN (Below.refl w.heap.size w) k).size⟩
theorem fmtBool_i (b : Bool) (w : World) : Calls Tryz.prog 102 #[.bool b] w fun e w' => e = .returned (.string (if b = true then ⟨#[116, 114, 117, 101]⟩ else ⟨#[102, 97, 108, 115, 101]⟩)) ∧ w' = w := by
  cases b
  all_goals
    go_enter Tryz.func102, Tryz.ntmps102
    go_wp2
    go_ret
    exact ⟨rfl, rfl⟩
theorem fmtBool_any (b : Bool) (w : World) : Calls Tryz.prog 72 #[.bool b] w fun e w' => e = .returned (.string (if b = true then ⟨#[116, 114, 117, 101]⟩ else ⟨#[102, 97, 108, 115, 101]⟩)) ∧ w' = w := by
  cases b
  all_goals
    go_enter Tryz.func72, Tryz.ntmps72
    go_wp2_with fail
    refine (fmtBool_i _ _).mono ?_
    rintro e w' ⟨rfl, rfl⟩
    go_wp2
    go_ret
    exact ⟨rfl, rfl⟩
/-- A value's literal. -/
def shwV (k n : Int) (s : ByteArray) : ByteArray :=
  if chkV k n s = true then
    if k = 1 then str (Lib.itoa n) else if k = 3 then (if (n == 1) = true then ⟨#[116, 114, 117, 101]⟩ else ⟨#[102, 97, 108, 115, 101]⟩)
    else if k = 4 then str (120 :: 39 :: hexs s.data.toList ++ [39]) else str (34 :: shws (rns s.data.toList) ++ [34])
  else ⟨#[]⟩
theorem chk_rng {k n : Int} {s : ByteArray} (h : chkV k n s = true) : 1 ≤ k ∧ k ≤ 4 ∧ -9007199254740991 ≤ n ∧ n ≤ 9007199254740991 ∧ s.size ≤ 200 := by
  unfold chkV at h
  split at h
  · simp only [Bool.and_eq_true, decide_eq_true_eq] at h; omega
  split at h
  · simp only [Bool.and_eq_true, decide_eq_true_eq] at h; omega
  split at h
  · simp only [Bool.and_eq_true, decide_eq_true_eq] at h; omega
  split at h
  · simp only [Bool.and_eq_true, decide_eq_true_eq] at h; omega
  · cases h

set_option maxRecDepth 100000 in
set_option maxHeartbeats 4000000 in
theorem show_any (k n : Int) (s : ByteArray) (w : World) (hs : s.size ≤ 140737488355328) (hU : UT w) (hT : T16 w) (hP : P10 w) :
    Calls Tryz.prog 41 #[vv k n s] w fun e w' => e = .returned (.string (shwV k n s)) ∧ Below w.heap.size w w' := by
  have hA : Below w.heap.size w (w.alloc (.cells #[.int .i64 k, .int .i64 n, .string s] 52)) := (Below.refl _ _).alloc (Nat.le_refl _) _
  by_cases hc : chkV k n s = true
  · obtain ⟨k1, k4, n1, n2, hz⟩ := chk_rng hc
    have HC : Hid (chkV k n s = true) := hc
    have HS : Hid (shwV k n s = if k = 1 then str (Lib.itoa n) else if k = 3 then (if (n == 1) = true then ⟨#[116, 114, 117, 101]⟩ else ⟨#[102, 97, 108, 115, 101]⟩) else if k = 4 then str (120 :: 39 :: hexs s.data.toList ++ [39]) else str (34 :: shws (rns s.data.toList) ++ [34])) := by
      show _ = _
      rw [shwV, if_pos hc]
    rw [HS.out]
    have HI : Hid (∀ w, P10 w → Calls Tryz.prog 71 #[.int .i64 n] w fun e w' => e = .returned (.string (str (Lib.itoa n))) ∧ Below w.heap.size w w') := fun w h => itoa_any n w n1 n2 h
    have HH : Hid (∀ w, Calls Tryz.prog 73 #[.string s] w fun e w' => e = .returned (.string (str (120 :: 39 :: hexs s.data.toList ++ [39]))) ∧ Below w.heap.size w w') := fun w => showBytes_any s w (by omega)
    have HX : Hid (∀ w, T16 w → Calls Tryz.prog 74 #[.string s] w fun e w' => e = .returned (.string (str (34 :: shws (rns s.data.toList) ++ [34]))) ∧ Below w.heap.size w w') := fun w h => showText_all s w (by omega) h
    generalize str (Lib.itoa n) = R1 at *
    generalize str (120 :: 39 :: hexs s.data.toList ++ [39]) = R2 at *
    generalize str (34 :: shws (rns s.data.toList) ++ [34]) = R3 at *
    clear hc HS
    go_enter Tryz.func41, Tryz.ntmps41
    go_wp2_with fail
    refine (check_any _ _ _ _ hs (Utf8Tabs_below hU hA)).mono ?_
    rintro e w1 ⟨rfl, hb1⟩
    rw [HC.out]
    have c0 : w1.cell? ⟨w.heap.size, 0, none⟩ = some (.int .i64 k) := (hb1.cell (p := ⟨w.heap.size, 0, none⟩) (by simp)).trans (by simp)
    have c1 : w1.cell? ⟨w.heap.size, 1, none⟩ = some (.int .i64 n) := (hb1.cell (p := ⟨w.heap.size, 1, none⟩) (by simp)).trans (by simp)
    have c2 : w1.cell? ⟨w.heap.size, 2, none⟩ = some (.string s) := (hb1.cell (p := ⟨w.heap.size, 2, none⟩) (by simp)).trans (by simp)
    have hB1 : Below w.heap.size w w1 := hA.trans (hb1.mono (by simp))
    have hT1 := T16_below hT hB1
    have HP1 : Hid (P10 w1) := P10_below hP hB1
    clear hb1 hA HC
    obtain rfl | rfl | rfl | rfl : k = 1 ∨ k = 2 ∨ k = 3 ∨ k = 4 := by omega
    all_goals go_wp2_with fail
    · refine (HI.out _ HP1.out).mono ?_
      rintro e w2 ⟨rfl, hb2⟩
      have hB2 := hB1.trans (hb2.mono hB1.size)
      clear hb2
      go_wp2
      go_ret
      exact ⟨rfl, hB2⟩
    · refine (HX.out _ hT1).mono ?_
      rintro e w2 ⟨rfl, hb2⟩
      have hB2 := hB1.trans (hb2.mono hB1.size)
      clear hb2
      go_wp2
      go_ret
      exact ⟨rfl, hB2⟩
    · by_cases hn : (n == 1) = true
      · obtain rfl : n = 1 := by simpa using hn
        refine (fmtBool_any _ _).mono ?_
        rintro e w2 ⟨rfl, rfl⟩
        go_wp2
        go_ret
        exact ⟨rfl, hB1⟩
      · have hn' : (n == 1) = false := by simpa using hn
        rw [hn']
        refine (fmtBool_any _ _).mono ?_
        rintro e w2 ⟨rfl, rfl⟩
        go_wp2
        go_ret
        exact ⟨rfl, hB1⟩
    · refine (HH.out _).mono ?_
      rintro e w2 ⟨rfl, hb2⟩
      have hB2 := hB1.trans (hb2.mono hB1.size)
      clear hb2
      go_wp2
      go_ret
      exact ⟨rfl, hB2⟩
  · have hc' : chkV k n s = false := by simpa using hc
    have HC : Hid (chkV k n s = false) := hc'
    rw [show shwV k n s = ⟨#[]⟩ by rw [shwV, if_neg hc]]
    clear hc hc'
    go_enter Tryz.func41, Tryz.ntmps41
    go_wp2_with fail
    refine (check_any _ _ _ _ hs (Utf8Tabs_below hU hA)).mono ?_
    rintro e w1 ⟨rfl, hb1⟩
    rw [HC.out]
    have hB1 : Below w.heap.size w w1 := hA.trans (hb1.mono (by simp))
    clear hb1 hA
    go_wp2
    go_ret
    exact ⟨rfl, hB1⟩
end Go.Proofs.YtjamkfkbajhefaaGreatDoor.V
/- asked: a walk. -/
namespace Go.Proofs.YtjamkfkbajhefaaGreatDoor.F
open Go.RowKit

/-- What stands in the variables that filters read. -/
structure FW (w : World) : Prop where
  u : UT w
  t : V.T16 w
  p : V.P10 w
theorem FW.below {w w' : World} (h : FW w) (hb : Below w.heap.size w w') : FW w' := ⟨Utf8Tabs_below h.u hb, V.T16_below h.t hb, V.P10_below h.p hb⟩
/-- The name that a piece is, or what is wrong. -/
def askR : Pc → ByteArray × Int × Int
  | .word p s => if ownW s then (⟨#[]⟩, p, 3) else (s, p, checkL s.data.toList)
  | .lit p k n s => if k = 3 then (V.shwV 3 n s, 0, 0) else (⟨#[]⟩, p, 3)
  | x => (⟨#[]⟩, x.at, 3)
set_option maxRecDepth 100000 in
set_option maxHeartbeats 4000000 in
theorem asked_any (x : Pc) (w : World) (hx : PcOk x) (hT : FW w) : Calls Tryz.prog 98 #[x.v] w fun e w' => e = .returned (.tuple #[.string (askR x).1, ftV (askR x).2.1 (askR x).2.2]) ∧ Below w.heap.size w w' := by
  obtain ⟨RR, HRR⟩ : ∃ RR, Hid (askR x = RR) := ⟨_, rfl⟩
  rw [HRR.out]
  have HW : Hid (∀ (c : Int) W, Calls Tryz.prog 97 #[x.v, .int .i64 c] W fun e w' => e = .returned (ftV x.at c) ∧ Below W.heap.size W w') := fun c W => wrong_any x c W
  have HFW : Hid (∀ W, Below w.heap.size w W → FW W) := fun W hb => hT.below hb
  clear hT
  cases x with
  | word p s =>
    have HWx : Hid (∀ W, Calls Tryz.prog 97 #[.iface 156 (.agg #[.int .i64 p, .string s]), .int .i64 3] W fun e w' => e = .returned (ftV p 3) ∧ Below W.heap.size W w') := fun W => HW.out 3 W
    have ha1 := ta_word_word p s
    have ha2 := ta_word_literal p s
    clear HW
    show Calls Tryz.prog 98 #[.iface 156 (.agg #[.int .i64 p, .string s])] w _
    obtain ⟨w1, hw1⟩ : ∃ w1, w1 = w.alloc (.cells #[.int .i64 0, .int .i64 0] 83) := ⟨_, rfl⟩
    have B1 : Hid (Below w.heap.size w w1) := by show Below _ _ _; rw [hw1]; exact al_b _ _
    have hn1 : w1.heap[w.heap.size]? = some (.cells #[.int .i64 0, .int .i64 0] 83 (0, 0)) := by rw [hw1]; exact new_at _ _
    have C1 : Hid (∀ W, Below w1.heap.size w1 W → W.heap[w.heap.size]? = some (.cells #[.int .i64 0, .int .i64 0] 83 (0, 0))) := fun W h => (h.block _ (Array.getElem?_eq_some_iff.1 hn1).1).trans hn1
    clear hn1
    obtain ⟨w2, hw2⟩ : ∃ w2, w2 = w1.alloc (.cells #[.int .i64 p, .string s] 156) := ⟨_, rfl⟩
    have B2 : Hid (Below w1.heap.size w1 w2) := by show Below _ _ _; rw [hw2]; exact al_b _ _
    have hn2 : w2.heap[(w.heap.size + 1)]? = some (.cells #[.int .i64 p, .string s] 156 (0, 0)) := by rw [hw2]; rw [show w.heap.size + 1 = w1.heap.size by (rw [hw1]; simp)]; exact new_at _ _
    have C2 : Hid (∀ W, Below w2.heap.size w2 W → W.heap[(w.heap.size + 1)]? = some (.cells #[.int .i64 p, .string s] 156 (0, 0))) := fun W h => (h.block _ (Array.getElem?_eq_some_iff.1 hn2).1).trans hn2
    clear hn2
    have hs : s.size ≤ 1000000 := hx
    have HO : Hid (∀ W, Below w.heap.size w W → Calls Tryz.prog 87 #[.string s] W fun e w' => e = .returned (.bool (ownW s)) ∧ Below W.heap.size W w') := fun W hb => ownWord_any s W hs (HFW.out W hb).u
    have HCk : Hid (∀ W, Calls Tryz.prog 33 #[.string s] W fun e w' => e = .returned (.int .i64 (checkL s.data.toList)) ∧ Below W.heap.size W w') := fun W => check_any s W (by omega)
    have HPl : Hid (∀ W, Calls Tryz.prog 124 #[.int .i64 p] W fun e w' => e = .returned (.int .i64 p) ∧ w' = W) := fun W => place_any p W
    have hRR : RR = if ownW s then (⟨#[]⟩, p, 3) else (s, p, checkL s.data.toList) := HRR.out.symm
    clear HRR HFW hx hs
    generalize ownW s = X at *
    generalize checkL s.data.toList = D at *
    go_enter Tryz.func98, Tryz.ntmps98
    go_wp2_with fail
    rw [← hw1, ← hw2]
    clear hw1 hw2
    refine (HO.out _ (bT B1.out B2.out)).mono ?_
    rintro e w3 ⟨rfl, hb⟩
    have B3 : Hid (Below w2.heap.size w2 w3) := hb
    clear hb 
    cases X
    · obtain rfl : RR = (s, p, D) := hRR
      go_wp2_with fail
      have HDk : Hid (Below w3.heap.size w3 w3.drew) := (Below.refl _ _).drew
      have HS : Hid (∀ W, Below w3.heap.size w3 W → (W.cell? ⟨w.heap.size + 1, 0, none⟩ = some (.int .i64 p) ∧ W.cell? ⟨w.heap.size + 1, 1, none⟩ = some (.string s))) := fun W hb => by
        have hk := C2.out W (B3.out.trans (hb.mono B3.out.size))
        exact ⟨by rw [Lib.cell_of_heap hk]; rfl, by rw [Lib.cell_of_heap hk]; rfl⟩
      have HCF : Hid (∀ W, Below w3.heap.size w3 W → W.heap[w.heap.size]? = some (.cells #[.int .i64 0, .int .i64 0] 83 (0, 0))) := fun W hb => C1.out W ((bT B2.out B3.out).trans (hb.mono (bT B2.out B3.out).size))
      have HBW : Hid (Below w.heap.size w w3) := (bT (bT B1.out B2.out) B3.out)
      have HSet : Hid (∀ W : World, (W.cell? ⟨w.heap.size + 1, 0, none⟩ = some (.int .i64 p) ∧ W.cell? ⟨w.heap.size + 1, 1, none⟩ = some (.string s)) → ∀ u0 u1, (((W.setCell ⟨w.heap.size, 0, none⟩ u0).setCell ⟨w.heap.size, 1, none⟩ u1).cell? ⟨w.heap.size + 1, 0, none⟩ = some (.int .i64 p) ∧ ((W.setCell ⟨w.heap.size, 0, none⟩ u0).setCell ⟨w.heap.size, 1, none⟩ u1).cell? ⟨w.heap.size + 1, 1, none⟩ = some (.string s))) := fun W h u0 u1 => by
        have c : ∀ j, ((W.setCell ⟨w.heap.size, 0, none⟩ u0).setCell ⟨w.heap.size, 1, none⟩ u1).cell? ⟨w.heap.size + 1, j, none⟩ = W.cell? ⟨w.heap.size + 1, j, none⟩ := fun j => by
          have h1 : ((W.setCell ⟨w.heap.size, 0, none⟩ u0).setCell ⟨w.heap.size, 1, none⟩ u1).heap[w.heap.size + 1]? = W.heap[w.heap.size + 1]? := (Below.heap_setCell _ _ _ _ (show w.heap.size + 1 ≠ w.heap.size by omega)).trans (Below.heap_setCell _ _ _ _ (show w.heap.size + 1 ≠ w.heap.size by omega))
          unfold World.cell?
          rw [h1]
        exact ⟨(c 0).trans h.1, (c 1).trans h.2⟩
      clear C1 C2 HO
      refine wp_region_held_drew (S := fun W' : World => W'.cell? ⟨w.heap.size + 1, 0, none⟩ = some (.int .i64 p) ∧ W'.cell? ⟨w.heap.size + 1, 1, none⟩ = some (.string s)) (by kernel_rfl) (HS.out _ HDk.out) (fun hHeld => ?_)
      refine wpAnyH_take (i := 0) (v := ?_) rfl (by kernel_rfl) (by kernel_rfl) (by kernel_rfl) (fun _ _ _ h => h) (Or.inl ⟨by rfl, ?_⟩) hHeld ?_
      rotate_left 1
      · intro w9 hSw; obtain ⟨s0, s1⟩ := hSw; go_simp; try with_reducible rfl
      change wpAnyH _ _ _ _ _ _ _ (Act.put _ (some 13) _) _
      simp only [Act.put, List.setIfInBounds_toArray, List.set_cons_zero, List.set_cons_succ]
      refine wpAnyH_take (i := 1) (v := ?_) rfl (by kernel_rfl) (by kernel_rfl) (by kernel_rfl) (fun _ _ _ h => h) (Or.inl ⟨by rfl, ?_⟩) hHeld ?_
      rotate_left 1
      · intro w9 hSw; obtain ⟨s0, s1⟩ := hSw; go_simp; try with_reducible rfl
      change wpAnyH _ _ _ _ _ _ _ (Act.put _ (some 14) _) _
      simp only [Act.put, List.setIfInBounds_toArray, List.set_cons_zero, List.set_cons_succ]
      refine wpAnyH_take (i := 2) (v := ?_) rfl (by kernel_rfl) (by kernel_rfl) (by kernel_rfl) (fun _ _ _ h => h) (Or.inl ⟨by rfl, ?_⟩) hHeld ?_
      rotate_left 1
      · intro w9 hSw; obtain ⟨s0, s1⟩ := hSw; go_simp; try with_reducible rfl
      change wpAnyH _ _ _ _ _ _ _ (Act.put _ (some 15) _) _
      simp only [Act.put, List.setIfInBounds_toArray, List.set_cons_zero, List.set_cons_succ]
      refine wpAnyH_take (i := 3) (v := ?_) rfl (by kernel_rfl) (by kernel_rfl) (by kernel_rfl) (fun _ _ _ h => h) (Or.inl ⟨by rfl, ?_⟩) hHeld ?_
      rotate_left 1
      · intro w9 hSw; obtain ⟨s0, s1⟩ := hSw; go_simp; try with_reducible rfl
      change wpAnyH _ _ _ _ _ _ _ (Act.put _ (some 16) _) _
      simp only [Act.put, List.setIfInBounds_toArray, List.set_cons_zero, List.set_cons_succ]
      refine wpAnyH_take (i := 5) (v := ?_) rfl (by kernel_rfl) (by kernel_rfl) (by kernel_rfl) (fun _ _ _ h => h) (Or.inl ⟨by rfl, ?_⟩) hHeld ?_
      rotate_left 1
      · intro w9 hSw; obtain ⟨s0, s1⟩ := hSw; go_simp; try with_reducible rfl
      change wpAnyH _ _ _ _ _ _ _ (Act.put _ (some 18) _) _
      simp only [Act.put, List.setIfInBounds_toArray, List.set_cons_zero, List.set_cons_succ]
      refine wpAnyH_take (i := 6) (v := ?_) rfl (by kernel_rfl) (by kernel_rfl) (by kernel_rfl) (fun _ _ _ h => h) (Or.inl ⟨by rfl, ?_⟩) hHeld ?_
      rotate_left 1
      · intro w9 hSw; obtain ⟨s0, s1⟩ := hSw; go_simp; try with_reducible rfl
      change wpAnyH _ _ _ _ _ _ _ (Act.put _ (some 19) _) _
      simp only [Act.put, List.setIfInBounds_toArray, List.set_cons_zero, List.set_cons_succ]
      refine wpAnyH_ready (rs := [4]) (by kernel_rfl) (by simp) ?_
      refine AllReadyH.cons rfl (fun K hK => ?_) AllReadyH.nil
      go_simp
      refine (HPl.out _).mono ?_
      rintro e wf ⟨rfl, hwf⟩
      have HBf : Hid (Below w3.heap.size w3 wf) := by show Below _ _ _; rw [hwf]; exact HDk.out
      clear hwf
      go_simp
      refine hK.out _ _ (HS.out _ HBf.out) (fun hHeld => ?_)
      clear hK K
      refine wpAnyH_ready (rs := [7]) (by kernel_rfl) (by simp) ?_
      refine AllReadyH.cons rfl (fun K hK => ?_) AllReadyH.nil
      go_simp
      refine (HCk.out _).mono ?_
      rintro e wg ⟨rfl, hbg⟩
      have HBg : Hid (Below w3.heap.size w3 wg) := HBf.out.trans (hbg.mono HBf.out.size)
      clear hbg
      go_simp
      refine hK.out _ _ (HS.out _ HBg.out) (fun hHeld => ?_)
      clear hK K
      refine wpAnyH_take (i := 8) (v := ?_) rfl (by kernel_rfl) (by kernel_rfl) (by kernel_rfl) (fun _ _ _ h => h) (Or.inl ⟨by rfl, ?_⟩) hHeld ?_
      rotate_left 1
      · intro w9 hSw; obtain ⟨s0, s1⟩ := hSw; go_simp; try with_reducible rfl
      change wpAnyH _ _ _ _ _ _ _ (Act.put _ (some 21) _) _
      simp only [Act.put, List.setIfInBounds_toArray, List.set_cons_zero, List.set_cons_succ]
      refine wpAnyH_take (i := 9) (v := ?_) rfl (by kernel_rfl) (by kernel_rfl) (by kernel_rfl) (fun _ _ _ h => h) (Or.inl ⟨by rfl, ?_⟩) hHeld ?_
      rotate_left 1
      · intro w9 hSw; obtain ⟨s0, s1⟩ := hSw; go_simp; try with_reducible rfl
      change wpAnyH _ _ _ _ _ _ _ (Act.put _ (some 2) _) _
      simp only [Act.put, List.setIfInBounds_toArray, List.set_cons_zero, List.set_cons_succ]
      have hq := HCF.out _ HBg.out
      have c0_ : wg.cell? ⟨w.heap.size, 0, none⟩ = some (.int .i64 0) := by rw [Lib.cell_of_heap hq]; rfl
      have c1_ : wg.cell? ⟨w.heap.size, 1, none⟩ = some (.int .i64 0) := by rw [Lib.cell_of_heap hq]; rfl
      have fz : ∀ j, wg.frozen? ⟨w.heap.size, j, none⟩ = false := fun j => Lib.frozen_of_heap hq j
      clear hq
      refine wpAnyH_ready (rs := [10]) (by kernel_rfl) (by simp) ?_
      refine AllReadyH.cons rfl (fun K hK => ?_) AllReadyH.nil
      go_simp
      refine hK.out _ _ (HSet.out _ (HS.out _ HBg.out) _ _) (fun hHeld => ?_)
      clear hK K
      refine wpAnyH_done (by kernel_rfl) ?_ _
      clear hHeld
      have HE : Hid (Below w.heap.size w wg) := HBW.out.trans (HBg.out.mono HBW.out.size)
      clear HS HSet HBg HBf HDk HCk HPl HCF
      go_wp2
      refine bodyPost_ret (v := .tuple #[.string s, ftV p D]) ?_ rfl ⟨rfl, (HE.out.setCell (p := ⟨w.heap.size, 0, none⟩) (Nat.le_refl _) _).setCell (p := ⟨w.heap.size, 1, none⟩) (Nat.le_refl _) _⟩
      rw [results_tc rfl]; go_simp
    · obtain rfl : RR = (⟨#[]⟩, p, 3) := hRR
      go_wp2_with fail
      refine (HWx.out w3).mono ?_
      rintro e w4 ⟨rfl, hb⟩
      have B4 : Hid (Below w3.heap.size w3 w4) := hb
      clear hb 
      have hk := C1.out w4 (bT (bT B2.out B3.out) B4.out)
      have c1_0 : w4.cell? ⟨w.heap.size, 0, none⟩ = some (.int .i64 0) := by rw [Lib.cell_of_heap hk]; rfl
      have c1_1 : w4.cell? ⟨w.heap.size, 1, none⟩ = some (.int .i64 0) := by rw [Lib.cell_of_heap hk]; rfl
      have fz1 : ∀ j, w4.frozen? ⟨w.heap.size, j, none⟩ = false := fun j => Lib.frozen_of_heap hk j
      clear hk
      go_wp2
      refine bodyPost_ret (v := .tuple #[.string ⟨#[]⟩, ftV p 3]) ?_ rfl ⟨rfl, ((bT (bT (bT B1.out B2.out) B3.out) B4.out).setCell (p := ⟨w.heap.size, 0, none⟩) (Nat.le_refl _) _).setCell (p := ⟨w.heap.size, 1, none⟩) (Nat.le_refl _) _⟩
      rw [results_tc rfl]; go_simp
  | mark p s =>
    have HWx : Hid (∀ W, Calls Tryz.prog 97 #[.iface 157 (.agg #[.int .i64 p, .string s]), .int .i64 3] W fun e w' => e = .returned (ftV p 3) ∧ Below W.heap.size W w') := fun W => HW.out 3 W
    have ha1 := ta_mark_word p s
    have ha2 := ta_mark_literal p s
    clear HW
    show Calls Tryz.prog 98 #[.iface 157 (.agg #[.int .i64 p, .string s])] w _
    obtain ⟨w1, hw1⟩ : ∃ w1, w1 = w.alloc (.cells #[.int .i64 0, .int .i64 0] 83) := ⟨_, rfl⟩
    have B1 : Hid (Below w.heap.size w w1) := by show Below _ _ _; rw [hw1]; exact al_b _ _
    have hn1 : w1.heap[w.heap.size]? = some (.cells #[.int .i64 0, .int .i64 0] 83 (0, 0)) := by rw [hw1]; exact new_at _ _
    have C1 : Hid (∀ W, Below w1.heap.size w1 W → W.heap[w.heap.size]? = some (.cells #[.int .i64 0, .int .i64 0] 83 (0, 0))) := fun W h => (h.block _ (Array.getElem?_eq_some_iff.1 hn1).1).trans hn1
    clear hn1
    obtain rfl : RR = (⟨#[]⟩, p, 3) := HRR.out.symm
    go_enter Tryz.func98, Tryz.ntmps98
    go_wp2_with fail
    rw [← hw1]
    clear hw1
    refine (HWx.out w1).mono ?_
    rintro e w2 ⟨rfl, hb⟩
    have B2 : Hid (Below w1.heap.size w1 w2) := hb
    clear hb 
    have hk := C1.out w2 B2.out
    have c1_0 : w2.cell? ⟨w.heap.size, 0, none⟩ = some (.int .i64 0) := by rw [Lib.cell_of_heap hk]; rfl
    have c1_1 : w2.cell? ⟨w.heap.size, 1, none⟩ = some (.int .i64 0) := by rw [Lib.cell_of_heap hk]; rfl
    have fz1 : ∀ j, w2.frozen? ⟨w.heap.size, j, none⟩ = false := fun j => Lib.frozen_of_heap hk j
    clear hk
    go_wp2
    refine bodyPost_ret (v := .tuple #[.string ⟨#[]⟩, ftV p 3]) ?_ rfl ⟨rfl, ((bT B1.out B2.out).setCell (p := ⟨w.heap.size, 0, none⟩) (Nat.le_refl _) _).setCell (p := ⟨w.heap.size, 1, none⟩) (Nat.le_refl _) _⟩
    rw [results_tc rfl]; go_simp
  | lit p k n s =>
    have HWx : Hid (∀ W, Calls Tryz.prog 97 #[.iface 159 (.agg #[.int .i64 p, .int .i64 k, .int .i64 n, .string s]), .int .i64 3] W fun e w' => e = .returned (ftV p 3) ∧ Below W.heap.size W w') := fun W => HW.out 3 W
    have ha1 := ta_literal_word p k n s
    have ha2 := ta_literal_literal p k n s
    clear HW
    show Calls Tryz.prog 98 #[.iface 159 (.agg #[.int .i64 p, .int .i64 k, .int .i64 n, .string s])] w _
    obtain ⟨w1, hw1⟩ : ∃ w1, w1 = w.alloc (.cells #[.int .i64 0, .int .i64 0] 83) := ⟨_, rfl⟩
    have B1 : Hid (Below w.heap.size w w1) := by show Below _ _ _; rw [hw1]; exact al_b _ _
    have hn1 : w1.heap[w.heap.size]? = some (.cells #[.int .i64 0, .int .i64 0] 83 (0, 0)) := by rw [hw1]; exact new_at _ _
    have C1 : Hid (∀ W, Below w1.heap.size w1 W → W.heap[w.heap.size]? = some (.cells #[.int .i64 0, .int .i64 0] 83 (0, 0))) := fun W h => (h.block _ (Array.getElem?_eq_some_iff.1 hn1).1).trans hn1
    clear hn1
    have hs : s.size ≤ 1000000 := hx
    by_cases hk : k = 3
    · subst hk
      have HSh : Hid (∀ W, Below w.heap.size w W → Calls Tryz.prog 41 #[vv 3 n s] W fun e w' => e = .returned (.string (V.shwV 3 n s)) ∧ Below W.heap.size W w') := fun W hb => V.show_any 3 n s W (by omega) (HFW.out W hb).u (HFW.out W hb).t (HFW.out W hb).p
      obtain rfl : RR = (V.shwV 3 n s, 0, 0) := HRR.out.symm
      clear HRR HFW hx hs
      generalize V.shwV 3 n s = D at *
      obtain ⟨w2, hw2⟩ : ∃ w2, w2 = w1.alloc (.cells #[.int .i64 p, .int .i64 3, .int .i64 n, .string s] 159) := ⟨_, rfl⟩
      have B2 : Hid (Below w1.heap.size w1 w2) := by show Below _ _ _; rw [hw2]; exact al_b _ _
      have hn2 : w2.heap[(w.heap.size + 1)]? = some (.cells #[.int .i64 p, .int .i64 3, .int .i64 n, .string s] 159 (0, 0)) := by rw [hw2]; rw [show w.heap.size + 1 = w1.heap.size by (rw [hw1]; simp)]; exact new_at _ _
      have C2 : Hid (∀ W, Below w2.heap.size w2 W → W.heap[(w.heap.size + 1)]? = some (.cells #[.int .i64 p, .int .i64 3, .int .i64 n, .string s] 159 (0, 0))) := fun W h => (h.block _ (Array.getElem?_eq_some_iff.1 hn2).1).trans hn2
      clear hn2
      go_enter Tryz.func98, Tryz.ntmps98
      go_wp2_with fail
      rw [← hw1, ← hw2]
      clear hw1 hw2
      refine (HSh.out _ (bT B1.out B2.out)).mono ?_
      rintro e w3 ⟨rfl, hb⟩
      have B3 : Hid (Below w2.heap.size w2 w3) := hb
      clear hb 
      have hk := C1.out w3 (bT B2.out B3.out)
      have c1_0 : w3.cell? ⟨w.heap.size, 0, none⟩ = some (.int .i64 0) := by rw [Lib.cell_of_heap hk]; rfl
      have c1_1 : w3.cell? ⟨w.heap.size, 1, none⟩ = some (.int .i64 0) := by rw [Lib.cell_of_heap hk]; rfl
      have fz1 : ∀ j, w3.frozen? ⟨w.heap.size, j, none⟩ = false := fun j => Lib.frozen_of_heap hk j
      clear hk
      go_wp2
      refine bodyPost_ret (v := .tuple #[.string D, ftV 0 0]) ?_ rfl ⟨rfl, ((bT (bT B1.out B2.out) B3.out).setCell (p := ⟨w.heap.size, 0, none⟩) (Nat.le_refl _) _).setCell (p := ⟨w.heap.size, 1, none⟩) (Nat.le_refl _) _⟩
      rw [results_tc rfl]; go_simp
    · have hRR : RR = (⟨#[]⟩, p, 3) := by rw [← HRR.out]; unfold askR; dsimp only; rw [if_neg hk]
      obtain rfl := hRR
      have hk2 : (k == 3) = false := by simp [hk]
      clear HRR HFW hx hs
      obtain ⟨w2, hw2⟩ : ∃ w2, w2 = w1.alloc (.cells #[.int .i64 p, .int .i64 k, .int .i64 n, .string s] 159) := ⟨_, rfl⟩
      have B2 : Hid (Below w1.heap.size w1 w2) := by show Below _ _ _; rw [hw2]; exact al_b _ _
      have hn2 : w2.heap[(w.heap.size + 1)]? = some (.cells #[.int .i64 p, .int .i64 k, .int .i64 n, .string s] 159 (0, 0)) := by rw [hw2]; rw [show w.heap.size + 1 = w1.heap.size by (rw [hw1]; simp)]; exact new_at _ _
      have C2 : Hid (∀ W, Below w2.heap.size w2 W → W.heap[(w.heap.size + 1)]? = some (.cells #[.int .i64 p, .int .i64 k, .int .i64 n, .string s] 159 (0, 0))) := fun W h => (h.block _ (Array.getElem?_eq_some_iff.1 hn2).1).trans hn2
      clear hn2
      go_enter Tryz.func98, Tryz.ntmps98
      go_wp2_with fail
      rw [← hw1, ← hw2]
      clear hw1 hw2
      refine (HWx.out w2).mono ?_
      rintro e w3 ⟨rfl, hb⟩
      have B3 : Hid (Below w2.heap.size w2 w3) := hb
      clear hb 
      have hk := C1.out w3 (bT B2.out B3.out)
      have c1_0 : w3.cell? ⟨w.heap.size, 0, none⟩ = some (.int .i64 0) := by rw [Lib.cell_of_heap hk]; rfl
      have c1_1 : w3.cell? ⟨w.heap.size, 1, none⟩ = some (.int .i64 0) := by rw [Lib.cell_of_heap hk]; rfl
      have fz1 : ∀ j, w3.frozen? ⟨w.heap.size, j, none⟩ = false := fun j => Lib.frozen_of_heap hk j
      clear hk
      go_wp2
      refine bodyPost_ret (v := .tuple #[.string ⟨#[]⟩, ftV p 3]) ?_ rfl ⟨rfl, ((bT (bT B1.out B2.out) B3.out).setCell (p := ⟨w.heap.size, 0, none⟩) (Nat.le_refl _) _).setCell (p := ⟨w.heap.size, 1, none⟩) (Nat.le_refl _) _⟩
      rw [results_tc rfl]; go_simp
  | fin p =>
    have HWx : Hid (∀ W, Calls Tryz.prog 97 #[.iface 154 (.agg #[.int .i64 p]), .int .i64 3] W fun e w' => e = .returned (ftV p 3) ∧ Below W.heap.size W w') := fun W => HW.out 3 W
    have ha1 := ta_end_word p
    have ha2 := ta_end_literal p
    clear HW
    show Calls Tryz.prog 98 #[.iface 154 (.agg #[.int .i64 p])] w _
    obtain ⟨w1, hw1⟩ : ∃ w1, w1 = w.alloc (.cells #[.int .i64 0, .int .i64 0] 83) := ⟨_, rfl⟩
    have B1 : Hid (Below w.heap.size w w1) := by show Below _ _ _; rw [hw1]; exact al_b _ _
    have hn1 : w1.heap[w.heap.size]? = some (.cells #[.int .i64 0, .int .i64 0] 83 (0, 0)) := by rw [hw1]; exact new_at _ _
    have C1 : Hid (∀ W, Below w1.heap.size w1 W → W.heap[w.heap.size]? = some (.cells #[.int .i64 0, .int .i64 0] 83 (0, 0))) := fun W h => (h.block _ (Array.getElem?_eq_some_iff.1 hn1).1).trans hn1
    clear hn1
    obtain rfl : RR = (⟨#[]⟩, p, 3) := HRR.out.symm
    go_enter Tryz.func98, Tryz.ntmps98
    go_wp2_with fail
    rw [← hw1]
    clear hw1
    refine (HWx.out w1).mono ?_
    rintro e w2 ⟨rfl, hb⟩
    have B2 : Hid (Below w1.heap.size w1 w2) := hb
    clear hb 
    have hk := C1.out w2 B2.out
    have c1_0 : w2.cell? ⟨w.heap.size, 0, none⟩ = some (.int .i64 0) := by rw [Lib.cell_of_heap hk]; rfl
    have c1_1 : w2.cell? ⟨w.heap.size, 1, none⟩ = some (.int .i64 0) := by rw [Lib.cell_of_heap hk]; rfl
    have fz1 : ∀ j, w2.frozen? ⟨w.heap.size, j, none⟩ = false := fun j => Lib.frozen_of_heap hk j
    clear hk
    go_wp2
    refine bodyPost_ret (v := .tuple #[.string ⟨#[]⟩, ftV p 3]) ?_ rfl ⟨rfl, ((bT B1.out B2.out).setCell (p := ⟨w.heap.size, 0, none⟩) (Nat.le_refl _) _).setCell (p := ⟨w.heap.size, 1, none⟩) (Nat.le_refl _) _⟩
    rw [results_tc rfl]; go_simp
end Go.Proofs.YtjamkfkbajhefaaGreatDoor.F
/- set, of two texts: a walk. -/
namespace Go.Proofs.YtjamkfkbajhefaaGreatDoor.F
open Go.RowKit

theorem own_sr {R : Nat} {w w1 : World} {base : Nat} {e : TypeId} {sz : Nat} {v : Value} {n : Nat} {xs : List Value} (h : w.ownsRow base e sz v n xs) (hb : Sr R w w1) (hR : R < base) : w1.ownsRow base e sz v n xs :=
  h.kept (row := some R) ⟨hb.os, hb.tape, hb.output, hb.size, fun k hk hn => hb.block k hk (fun e => hn (by rw [e]))⟩ (by
    cases hv : v.ownBlock with
    | none => simp
    | some g =>
      have := (h.lt g hv).1
      refine .inr fun he => ?_
      simp only [Option.some.injEq] at he
      omega)
theorem Sr.app {R : Nat} {a b c : World} (h : Sr R a b) (hb : Below a.heap.size b c) : Sr R a c :=
  ⟨hb.os.trans h.os, hb.tape.trans h.tape, hb.output.trans h.output, Nat.le_trans h.size hb.size, fun k hk hn => (hb.block k hk).trans (h.block k hk hn)⟩
end Go.Proofs.YtjamkfkbajhefaaGreatDoor.F
/- behindName: walks. -/
namespace Go.Proofs.YtjamkfkbajhefaaGreatDoor.F
open Go.RowKit

theorem results_ttc {fn : Func} {p q r : Tmp} {ty : TypeId} (h : fn.results = #[.tmp q, .tmp r, .cell p ty]) (tmps : Array Value) (P : Program) (w : World) :
    (results fn tmps).run P w = ((asAddr (tmps.getD p undef)).run P w).andThen fun a w₁ => ((loadVar ty a).run P w₁).andThen fun v w₂ => .ok (.tuple #[tmps.getD q undef, tmps.getD r undef, v]) w₂ := by
  simp only [results, h]
  simp [Sem.run_bind, Result.andThen]
/-- A fault's box. -/
abbrev F2 (g : Nat) (x y : Int) (W : World) : Prop := W.cell? ⟨g, 0, none⟩ = some (.int .i64 x) ∧ W.cell? ⟨g, 1, none⟩ = some (.int .i64 y) ∧ (∀ j, W.frozen? ⟨g, j, none⟩ = false) ∧ W.heap[g]? = some (.cells #[.int .i64 x, .int .i64 y] 83 (0, 0))
theorem F2.of {g : Nat} {x y : Int} {W : World} (h : W.heap[g]? = some (.cells #[.int .i64 x, .int .i64 y] 83 (0, 0))) : F2 g x y W :=
  ⟨by rw [Lib.cell_of_heap h]; rfl, by rw [Lib.cell_of_heap h]; rfl, fun j => Lib.frozen_of_heap h j, h⟩
theorem F2.set {g : Nat} {x y : Int} {W : World} (h : F2 g x y W) (x' y' : Int) : F2 g x' y' ((W.setCell ⟨g, 0, none⟩ (.int .i64 x')).setCell ⟨g, 1, none⟩ (.int .i64 y')) := F2.of (heap_set (heap_set h.2.2.2 0 _) 1 _)
theorem F2.drew {g : Nat} {x y : Int} {W : World} (h : F2 g x y W) : F2 g x y W.drew := h
def BnQ (w0 : World) (R : Nat) (T : List Ft) (z o : Int) (r : List It × Int × Int) (w : World) (e : Ending) (w' : World) : Prop := ∃ a c, e = .returned (.tuple #[.int .i64 o, .slice a r.1.length c, ftV r.2.1 r.2.2]) ∧ IsRow w' 3 (.slice a r.1.length c) r.1.length (itCells r.1) ∧ FrA w.heap.size a ∧ Sr R w w' ∧ Rd w0 R T z w'
set_option maxRecDepth 100000 in
set_option maxHeartbeats 4000000 in
theorem behind_mark (w0 : World) (R : Nat) (l : List Ft) (z : Int) (o : Int) (w : World) (h0 : Sr R w0 w) (h : Rd w0 R l z w) (hR : R < w0.heap.size) (hl : l.length ≤ 1000000) (p : Int) (s : ByteArray) (hp : pcF l z = .mark p s) (ho : opF s = o) (h00 : o ≠ 0) :
    Calls Tryz.prog 99 #[.pointer (some ⟨R, 0, none⟩)] w fun e w' => BnQ w0 R l.tail.tail z o (oneR o (pcF l.tail z)) w e w' := by
  have HRl : Hid (R < w.heap.size) := Nat.lt_of_lt_of_le hR h0.size
  have HR0' : Hid (R < w0.heap.size) := hR
  have tl : l.tail.length ≤ l.length := by simp
  have HNx : Hid (∀ W, Sr R w0 W → Rd w0 R l z W → Calls Tryz.prog 66 #[.pointer (some ⟨R, 0, none⟩)] W fun e w' => e = .returned (.iface 157 (.agg #[.int .i64 p, .string s])) ∧ Sr R W w' ∧ Rd w0 R l.tail z w') := fun W a b => by
    have := next_any w0 R l z W a b hl
    unfold NxP at this
    rw [hp] at this
    exact this
  have HOn : Hid (∀ W, Sr R w0 W → Rd w0 R l.tail z W → Calls Tryz.prog 127 #[.pointer (some ⟨R, 0, none⟩), .int .i64 o] W fun e w' => OneQ w0 R l.tail.tail z (oneR o (pcF l.tail z)) W e w') := fun W a b => one_any w0 R l.tail z o W a b HR0'.out (by omega)
  have do0 : decide (o = 0) = false := decide_eq_false h00
  have do1 : (o == 0) = false := by simp [h00]
  have HOp : Hid (∀ W, Calls Tryz.prog 126 #[.string s] W fun e w' => e = .returned (.int .i64 o) ∧ w' = W) := fun W => by
    have := opOf_any s W
    rw [ho] at this
    exact this
  have ha := ta_mark_word p s
  have hb2 := ta_mark_mark p s
  have H0 : Hid (Sr R w0 w) := h0
  have HR0 : Hid (Rd w0 R l z w) := h
  clear h0 h hl hR tl hp ho h00
  generalize oneR o (pcF l.tail z) = RR at *
  generalize l.tail.tail = T2 at *
  generalize l.tail = T at *
  obtain ⟨w1, hw1⟩ : ∃ w1, w1 = w.alloc (.cells #[.int .i64 0, .int .i64 0] 83) := ⟨_, rfl⟩
  have B1 : Hid (Sr R w w1) := by show Sr _ _ _; rw [hw1]; exact Sr.of (al_f _ _)
  have hn1 : w1.heap[w.heap.size]? = some (.cells #[.int .i64 0, .int .i64 0] 83 (0, 0)) := by rw [hw1]; exact nw_at _ _
  have N1 : Hid (R < w.heap.size) := HRl.out
  have C1 : Hid (∀ W, Sr R w1 W → W.heap[w.heap.size]? = some (.cells #[.int .i64 0, .int .i64 0] 83 (0, 0))) := fun W h => h.box hn1 (Nat.ne_of_gt N1.out)
  clear hn1
  have HR1 : Hid (Rd w0 R l z w1) := by show Rd _ _ _ _ _; rw [hw1]; exact HR0.out.al _
  have hx1 : Hid (w1.heap.size = w.heap.size + 1) := by show _ = _; rw [hw1]; simp
  go_enter Tryz.func99, Tryz.ntmps99
  go_wp2_with fail
  rw [← hw1]
  clear hw1
  refine (HNx.out _ (H0.out.trans B1.out) HR1.out).mono ?_
  rintro e w2 ⟨rfl, hb, hrd⟩
  have B2 : Hid (Sr R w1 w2) := hb
  clear hb 
  have HRd2 : Hid (Rd w0 R T z w2) := hrd
  clear hrd HNx
  obtain ⟨w3, hw3⟩ : ∃ w3, w3 = w2.alloc (.cells #[.int .i64 p, .string s] 157) := ⟨_, rfl⟩
  have B3 : Hid (Sr R w2 w3) := by show Sr _ _ _; rw [hw3]; exact Sr.of (al_f _ _)
  have hn3 : w3.heap[w2.heap.size]? = some (.cells #[.int .i64 p, .string s] 157 (0, 0)) := by rw [hw3]; exact nw_at _ _
  have N3 : Hid (R < w2.heap.size) := (Nat.lt_of_lt_of_le HRl.out (B1.out.trans B2.out).size)
  have C3 : Hid (∀ W, Sr R w3 W → W.heap[w2.heap.size]? = some (.cells #[.int .i64 p, .string s] 157 (0, 0))) := fun W h => h.box hn3 (Nat.ne_of_gt N3.out)
  clear hn3
  have HRd3 : Hid (Rd w0 R T z w3) := by show Rd _ _ _ _ _; rw [hw3]; exact HRd2.out.al _
  have hk := C3.out w3 (Sr.refl _ _)
  have c3_0 : w3.cell? ⟨w2.heap.size, 0, none⟩ = some (.int .i64 p) := by rw [Lib.cell_of_heap hk]; rfl
  have c3_1 : w3.cell? ⟨w2.heap.size, 1, none⟩ = some (.string s) := by rw [Lib.cell_of_heap hk]; rfl
  clear hk
  rw [hw3] at c3_0 c3_1
  go_wp2_with fail
  rw [← hw3]
  clear hw3 c3_0 c3_1
  refine (HOp.out _).mono ?_
  rintro e wx ⟨rfl, hwx⟩
  obtain rfl := hwx.symm
  go_wp2_with fail
  refine (HOn.out _ (H0.out.trans ((B1.out.trans B2.out).trans B3.out)) HRd3.out).mono ?_
  rintro e w4 ⟨aa, ca, rfl, hr, hfa, hb, hrd⟩
  have HRw : Hid (IsRow w4 3 (.slice aa RR.1.length ca) RR.1.length (itCells RR.1)) := hr
  have HFa : Hid (∀ d, aa = some d → w.heap.size < d.block) := fun d hd => by
    have h1 := hfa d hd
    have h2 := (B2.out.trans B3.out).size
    have h3 := hx1.out
    omega
  have HRd4 : Hid (Rd w0 R T2 z w4) := hrd
  have B4 : Hid (Sr R w3 w4) := hb
  clear hb hrd hr hfa
  obtain ⟨LL, at_, er⟩ := RR
  dsimp only at *
  have HF2 : Hid (F2 w.heap.size 0 0 w4) := F2.of (C1.out w4 ((B2.out.trans B3.out).trans B4.out))
  obtain ⟨f0, f1, ff, -⟩ := HF2.out
  go_wp2_with fail
  obtain ⟨wz, hwz⟩ : ∃ wz, wz = ((w4.setCell ⟨w.heap.size, 0, none⟩ (.int .i64 at_)).setCell ⟨w.heap.size, 1, none⟩ (.int .i64 er)) := ⟨_, rfl⟩
  have HFz : Hid (F2 w.heap.size at_ er wz) := by show F2 _ _ _ _; rw [hwz]; exact HF2.out.set _ _
  have hne : ∀ d, aa = some d → d.block ≠ w.heap.size := fun d hd => Nat.ne_of_gt (HFa.out d hd)
  have HRwz : Hid (IsRow wz 3 (.slice aa LL.length ca) LL.length (itCells LL)) := by show IsRow _ _ _ _ _; rw [hwz]; exact row_set (row_set HRw.out hne 0 _) hne 1 _
  have HRdz : Hid (Rd w0 R T2 z wz) := by show Rd _ _ _ _ _; rw [hwz]; exact (HRd4.out.set HRl.out 0 _).set HRl.out 1 _
  have HSz : Hid (Sr R w wz) := by show Sr _ _ _; rw [hwz]; exact ((((B1.out.trans B2.out).trans B3.out).trans B4.out).set (.inr (Nat.le_refl _)) 0 _).set (.inr (Nat.le_refl _)) 1 _
  have HE : Hid (∀ wd : World, wd = wz.drew → BnQ w0 R T2 z o (LL, at_, er) w (.returned (.tuple #[.int .i64 o, .slice aa LL.length ca, ftV at_ er])) ((wd.setCell ⟨w.heap.size, 0, none⟩ (.int .i64 at_)).setCell ⟨w.heap.size, 1, none⟩ (.int .i64 er))) := fun wd hd0 => by
    subst hd0
    exact ⟨aa, ca, rfl, row_set (row_set (show IsRow wz.drew _ _ _ _ from HRwz.out) hne 0 _) hne 1 _, fun d hd => Nat.le_of_lt (HFa.out d hd), (HSz.out.drew.set (.inr (Nat.le_refl _)) 0 _).set (.inr (Nat.le_refl _)) 1 _, ((show Rd w0 R T2 z wz.drew from HRdz.out).set HRl.out 0 _).set HRl.out 1 _⟩
  rw [← hwz]
  clear hwz hne f0 f1 ff
  obtain ⟨wd, hwd⟩ : ∃ wd, wd = wz.drew := ⟨_, rfl⟩
  have HFd : Hid (F2 w.heap.size at_ er wd) := by show F2 _ _ _ _; rw [hwd]; exact HFz.out
  have HE2 := HE.out wd hwd
  have HE3 : Hid _ := HE2
  clear HE HE2
  refine wp_region_held_drew (S := fun W' : World => F2 w.heap.size at_ er W') (by kernel_rfl) (by rw [← hwd]; exact HFd.out) (fun hHeld => ?_)
  rw [← hwd]
  rw [← hwd] at hHeld
  clear hwd
  refine wpAnyH_take (i := 0) (v := ?_) rfl (by kernel_rfl) (by kernel_rfl) (by kernel_rfl) (fun _ _ _ h => h) (Or.inl ⟨by rfl, ?_⟩) hHeld ?_
  rotate_left 1
  · intro w9 hSw; obtain ⟨s0, s1, s2, s3⟩ := hSw; go_simp; try with_reducible rfl
  change wpAnyH _ _ _ _ _ _ _ (Act.put _ (some 44) _) _
  simp only [Act.put, List.setIfInBounds_toArray, List.set_cons_zero, List.set_cons_succ]
  refine wpAnyH_take (i := 1) (v := ?_) rfl (by kernel_rfl) (by kernel_rfl) (by kernel_rfl) (fun _ _ _ h => h) (Or.inl ⟨by rfl, ?_⟩) hHeld ?_
  rotate_left 1
  · intro w9 hSw; obtain ⟨s0, s1, s2, s3⟩ := hSw; go_simp; try with_reducible rfl
  change wpAnyH _ _ _ _ _ _ _ (Act.put _ (some 45) _) _
  simp only [Act.put, List.setIfInBounds_toArray, List.set_cons_zero, List.set_cons_succ]
  refine wpAnyH_take (i := 2) (v := ?_) rfl (by kernel_rfl) (by kernel_rfl) (by kernel_rfl) (fun _ _ _ h => h) (Or.inl ⟨by rfl, ?_⟩) hHeld ?_
  rotate_left 1
  · intro w9 hSw; obtain ⟨s0, s1, s2, s3⟩ := hSw; go_simp; try with_reducible rfl
  change wpAnyH _ _ _ _ _ _ _ (Act.put _ (some 46) _) _
  simp only [Act.put, List.setIfInBounds_toArray, List.set_cons_zero, List.set_cons_succ]
  refine wpAnyH_take (i := 3) (v := ?_) rfl (by kernel_rfl) (by kernel_rfl) (by kernel_rfl) (fun _ _ _ h => h) (Or.inl ⟨by rfl, ?_⟩) hHeld ?_
  rotate_left 1
  · intro w9 hSw; obtain ⟨s0, s1, s2, s3⟩ := hSw; go_simp; try with_reducible rfl
  change wpAnyH _ _ _ _ _ _ _ (Act.put _ (some 2) _) _
  simp only [Act.put, List.setIfInBounds_toArray, List.set_cons_zero, List.set_cons_succ]
  refine wpAnyH_take (i := 4) (v := ?_) rfl (by kernel_rfl) (by kernel_rfl) (by kernel_rfl) (fun _ _ _ h => h) (Or.inl ⟨by rfl, ?_⟩) hHeld ?_
  rotate_left 1
  · intro w9 hSw; obtain ⟨s0, s1, s2, s3⟩ := hSw; go_simp; try with_reducible rfl
  change wpAnyH _ _ _ _ _ _ _ (Act.put _ (some 3) _) _
  simp only [Act.put, List.setIfInBounds_toArray, List.set_cons_zero, List.set_cons_succ]
  obtain ⟨f0, f1, ff, -⟩ := HFd.out
  refine wpAnyH_ready (rs := [5]) (by kernel_rfl) (by simp) ?_
  refine AllReadyH.cons rfl (fun K hK => ?_) AllReadyH.nil
  go_simp
  refine hK.out _ _ (F2.set HFd.out _ _) (fun hHeld => ?_)
  clear hK K
  refine wpAnyH_done (by kernel_rfl) ?_ _
  clear hHeld f0 f1 ff
  have HF3 : Hid (F2 w.heap.size at_ er ((wd.setCell ⟨w.heap.size, 0, none⟩ (.int .i64 at_)).setCell ⟨w.heap.size, 1, none⟩ (.int .i64 er))) := F2.set HFd.out _ _
  generalize ((wd.setCell ⟨w.heap.size, 0, none⟩ (.int .i64 at_)).setCell ⟨w.heap.size, 1, none⟩ (.int .i64 er)) = we at *
  obtain ⟨f0, f1, -, -⟩ := HF3.out
  go_wp2
  refine bodyPost_ret (v := .tuple #[.int .i64 o, .slice aa LL.length ca, ftV at_ er]) ?_ rfl HE3.out
  rw [results_ttc rfl]; go_simp
end Go.Proofs.YtjamkfkbajhefaaGreatDoor.F
