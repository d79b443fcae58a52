/- event.ShowID at any identity: its walk. -/
import Derived.Test.YtjamkfkbajhefaaGreatDoorZk28
import Derived.Test.YtjamkfkbajhefaaGreatDoorZk9
import Derived.Lib.ItoaLen
import Derived.Deep.RegionHeld3
import Derived.Test.YtjamkfkbajhefaaGreatDoorZk17
import Derived.Test.YtjamkfkbajhefaaGreatDoorZk21
import Derived.Test.YtjamkfkbajhefaaGreatDoorZk25
import Derived.Test.YtjamkfkbajhefaaGreatDoorZk0
import Derived.Test.YtjamkfkbajhefaaGreatDoorChecked
import Derived.ProofKit
import Derived.OpenShut
import Derived.ShutString
import Derived.ChangeOld
import Derived.Below
import Derived.Stop.Joined
import Derived.Deep.Slices
import Derived.Deep.Strs
import Derived.SizedLaws
import Derived.Lib.SmallJoins
namespace Go.Proofs.YtjamkfkbajhefaaGreatDoor
open Go.RowKit Go.ChangeMaps

/-- An identity's text plainly. -/
def idT (a b c : Int) : ByteArray := V.str (Lib.itoa a) ++ ⟨#[46]⟩ ++ V.str (Lib.itoa b) ++ ⟨#[46]⟩ ++ V.str (Lib.itoa c)
theorem idB_le {a b c : Int} (h : idB a b c = true) : (1 ≤ a ∧ a ≤ 15) ∧ (1 ≤ b ∧ b ≤ 1099511627775) ∧ 1 ≤ c ∧ c ≤ 1099511627775 := by
  simp only [idB, cntI, Bool.and_eq_true, decide_eq_true_eq] at h
  omega
set_option maxRecDepth 100000 in
set_option maxHeartbeats 4000000 in
theorem showID_any (a b c : Int) (w : World) (hi : idB a b c = true) (hP : V.P10 w) :
    Calls Tryz.prog 40 #[idV a b c] w fun e w' => e = .returned (.string (idT a b c)) ∧ Below w.heap.size w w' := by
  obtain ⟨⟨a1, a2⟩, ⟨b1, b2⟩, c1, c2⟩ := idB_le hi
  obtain ⟨W0, hW0⟩ : ∃ W0, W0 = w.alloc (.cells #[.int .i64 a, .int .i64 b, .int .i64 c] 25) := ⟨_, rfl⟩
  have hB : Below w.heap.size w W0 := by rw [hW0]; exact al_b w _
  have hz : w.heap.size < W0.heap.size := by rw [hW0]; simp
  have hn0 : W0.heap[w.heap.size]? = some (.cells #[.int .i64 a, .int .i64 b, .int .i64 c] 25 (0, 0)) := by
    rw [hW0]
    show (w.heap.push _)[w.heap.size]? = _
    rw [Array.getElem?_push, if_pos rfl]
  have HX : Hid (∀ W, Below W0.heap.size W0 W → W.cell? ⟨w.heap.size, 0, none⟩ = some (.int .i64 a) ∧ W.cell? ⟨w.heap.size, 1, none⟩ = some (.int .i64 b) ∧ W.cell? ⟨w.heap.size, 2, none⟩ = some (.int .i64 c)) := fun W h => by
    have e : ∀ j, W.cell? ⟨w.heap.size, j, none⟩ = (#[.int .i64 a, .int .i64 b, .int .i64 c] : Array Value)[j]? := fun j => by rw [Lib.cell_of_heap ((h.block _ hz).trans hn0)]
    exact ⟨e 0, e 1, e 2⟩
  have HBw : Hid (∀ W, Below W0.heap.size W0 W → Below w.heap.size w W) := fun W h => hB.trans (h.mono hB.size)
  have HI : Hid (∀ W, Calls Tryz.prog 34 #[.agg #[.int .i64 a, .int .i64 b, .int .i64 c]] W fun e w' => e = .returned (.bool true) ∧ Below W.heap.size W w') := fun W => hi ▸ isID_any a b c W
  have HT : Hid (∀ n : Int, -9007199254740991 ≤ n → n ≤ 9007199254740991 → ∀ W, Below w.heap.size w W → Calls Tryz.prog 71 #[.int .i64 n] W fun e w' => e = .returned (.string (V.str (Lib.itoa n))) ∧ Below W.heap.size W w') := fun n h1 h2 W h => V.itoa_any n W h1 h2 (V.P10_below hP h)
  have HTa : Hid (∀ W, Below w.heap.size w W → Calls Tryz.prog 71 #[.int .i64 a] W fun e w' => e = .returned (.string (V.str (Lib.itoa a))) ∧ Below W.heap.size W w') := HT.out a (by omega) (by omega)
  have HTb : Hid (∀ W, Below w.heap.size w W → Calls Tryz.prog 71 #[.int .i64 b] W fun e w' => e = .returned (.string (V.str (Lib.itoa b))) ∧ Below W.heap.size W w') := HT.out b (by omega) (by omega)
  have HTc : Hid (∀ W, Below w.heap.size w W → Calls Tryz.prog 71 #[.int .i64 c] W fun e w' => e = .returned (.string (V.str (Lib.itoa c))) ∧ Below W.heap.size W w') := HT.out c (by omega) (by omega)
  have sz : ∀ n : Int, -9007199254740991 ≤ n → n ≤ 9007199254740991 → (V.str (Lib.itoa n)).size ≤ 21 := fun n h1 h2 => by rw [V.str_size]; exact Lib.itoa_length_le n (by omega) (by omega)
  have sa := sz a (by omega) (by omega)
  have sb := sz b (by omega) (by omega)
  have sc := sz c (by omega) (by omega)
  have HE : Hid (idT a b c = V.str (Lib.itoa a) ++ ⟨#[46]⟩ ++ V.str (Lib.itoa b) ++ ⟨#[46]⟩ ++ V.str (Lib.itoa c)) := rfl
  generalize idT a b c = R at *
  generalize V.str (Lib.itoa a) = A at *
  generalize V.str (Lib.itoa b) = B at *
  generalize V.str (Lib.itoa c) = C at *
  have one : (⟨#[46]⟩ : ByteArray).size = 1 := rfl
  clear sz HT hB hz hn0 hP hi a1 a2 b1 b2 c1 c2
  obtain ⟨p0, p1, p2⟩ := HX.out W0 (Below.refl _ _)
  rw [hW0] at p0 p1 p2
  go_enter Tryz.func40, Tryz.ntmps40
  go_wp2_with fail
  rw [← hW0]
  clear hW0 p0 p1 p2
  refine (HI.out _).mono ?_
  rintro e w1 ⟨rfl, hb⟩
  have Hw1 : Hid (Below W0.heap.size W0 w1) := hb
  clear hb
  go_wp2_with fail
  refine wp_region_quiet (C := fun w' => Below W0.heap.size W0 w') (by kernel_rfl) (by kernel_rfl) (Hw1.out.drew) ?_
  dsimp only
  repeat (first
    | go_big_quiet_skip
    | (go_big_quiet_want
       apply Exists.intro
       refine ⟨fun W' hW' => ?_, ?_⟩
       · have hw : Below W0.heap.size W0 W' := hW'
         obtain ⟨g0, g1, g2⟩ := HX.out W' hw
         go_simp
         first
           | done
           | rfl
           | (rw [if_neg (by (try simp only [ByteArray.size_append, one]); omega)]; exact ⟨rfl, rfl⟩)
           | (go_at_call 71; (first | (with_reducible refine Calls.mono (HTa.out W' (HBw.out W' hw)) ?_) | (with_reducible refine Calls.mono (HTb.out W' (HBw.out W' hw)) ?_) | (with_reducible refine Calls.mono (HTc.out W' (HBw.out W' hw)) ?_)); rintro e w'' ⟨rfl, hb⟩; exact ⟨rfl, hw.trans (hb.mono hw.size)⟩)
       go_big_quiet_on
       try simp only [Act.put, List.setIfInBounds_toArray, List.set_cons_zero, List.set_cons_succ]))
  refine wpQuiet_nil ?_
  intro w2 hqw2
  have HBz : Hid (Below w.heap.size w w2) := HBw.out _ hqw2
  clear hqw2
  go_wp2
  go_ret
  exact ⟨by rw [HE.out]; rfl, HBz.out⟩
end Go.Proofs.YtjamkfkbajhefaaGreatDoor
/- event.Show at any event that may be: its walk. -/
namespace Go.Proofs.YtjamkfkbajhefaaGreatDoor
open Go.RowKit Go.ChangeMaps

/-- An attribute's text behind its blank, plainly. -/
def atT (x : At) : ByteArray := ⟨#[32]⟩ ++ x.n ++ ⟨#[61]⟩ ++ V.shwV x.k x.v x.s
theorem idT_size {a b c : Int} (h : idB a b c = true) : (idT a b c).size ≤ 65 := by
  obtain ⟨⟨a1, a2⟩, ⟨b1, b2⟩, c1, c2⟩ := idB_le h
  have sz : ∀ n : Int, -9007199254740991 ≤ n → n ≤ 9007199254740991 → (V.str (Lib.itoa n)).size ≤ 21 := fun n h1 h2 => by rw [V.str_size]; exact Lib.itoa_length_le n (by omega) (by omega)
  have sa := sz a (by omega) (by omega)
  have sb := sz b (by omega) (by omega)
  have sc := sz c (by omega) (by omega)
  have one : (⟨#[46]⟩ : ByteArray).size = 1 := rfl
  unfold idT
  simp only [ByteArray.size_append, one]
  omega
set_option maxRecDepth 100000 in
set_option maxHeartbeats 4000000 in
theorem evShow_any (a b c : Int) (k : ByteArray) (u : Value) (l : List At) (w : World) (hr : IsRow w 4 u l.length (aCells l)) (hl : l.length ≤ 1000000) (hn : NmA l) (hk : k.size ≤ 1000000) (hsv : ∀ x ∈ l, (atT x).size ≤ 10000000) (hT : UT w) (hM : ML w) (h16 : V.T16 w) (hP : V.P10 w) (hc : chkE a b c k l = true) :
    Calls Tryz.prog 17 #[.agg (evA a b c k u)] w fun e w' => e = .returned (.string (l.foldl (fun s x => s ++ atT x) (idT a b c ++ ⟨#[32]⟩ ++ k))) ∧ Below w.heap.size w w' := by
  obtain ⟨au, cu, rfl⟩ := hr.form
  have hi : idB a b c = true := by simp only [chkE, Bool.and_eq_true] at hc; exact hc.1.1
  obtain ⟨W0, hW0⟩ : ∃ W0, W0 = w.alloc (.cells (evA a b c k (.slice au l.length cu)) 28) := ⟨_, rfl⟩
  have hB : Below w.heap.size w W0 := by rw [hW0]; exact al_b w _
  have hz : w.heap.size < W0.heap.size := by rw [hW0]; simp
  have hn0 : W0.heap[w.heap.size]? = some (.cells (evA a b c k (.slice au l.length cu)) 28 (0, 0)) := by
    rw [hW0]
    show (w.heap.push _)[w.heap.size]? = _
    rw [Array.getElem?_push, if_pos rfl]
  have HX : Hid (∀ W, Below W0.heap.size W0 W → BxV w.heap.size a b c k (.slice au l.length cu) W) := fun W h => BxV.of ((h.block _ hz).trans hn0)
  have HBw : Hid (∀ W, Below W0.heap.size W0 W → Below w.heap.size w W) := fun W h => hB.trans (h.mono hB.size)
  have HQ : Hid (∀ W, Below W0.heap.size W0 W → IsRow W 4 (.slice au l.length cu) l.length (aCells l)) := fun W h => hr.below (HBw.out W h)
  have HC : Hid (∀ W, Below w.heap.size w W → Calls Tryz.prog 38 #[.agg (evA a b c k (.slice au l.length cu))] W fun e w' => e = .returned (.bool true) ∧ Below W.heap.size W w') := fun W h => hc ▸ evCheck_any a b c k _ l W (hr.below h) hl hn hk (Utf8Tabs_below hT h) (ML_below hM h)
  have HI : Hid (∀ W, Below w.heap.size w W → Calls Tryz.prog 40 #[.agg #[.int .i64 a, .int .i64 b, .int .i64 c]] W fun e w' => e = .returned (.string (idT a b c)) ∧ Below W.heap.size W w') := fun W h => showID_any a b c W hi (V.P10_below hP h)
  have hid := idT_size hi
  generalize idT a b c = I at *
  have s32 : (⟨#[32]⟩ : ByteArray).size = 1 := rfl
  clear hc hi hB hz hn0
  obtain ⟨⟨p0, p1, p2⟩, p3, p4⟩ := HX.out W0 (Below.refl _ _)
  rw [hW0] at p0 p1 p2 p3 p4
  go_enter Tryz.func17, Tryz.ntmps17
  go_wp2_with fail
  rw [← hW0]
  refine (HC.out _ (HBw.out _ (Below.refl _ _))).mono ?_
  clear hW0 p0 p1 p2 p3 p4
  rintro e w1 ⟨rfl, hb⟩
  have Hw1 : Hid (Below W0.heap.size W0 w1) := hb
  clear hb
  obtain ⟨W2, hW2⟩ : ∃ W2, W2 = w1.alloc (.cells #[.pointer none, .slice none 0 0] 89) := ⟨_, rfl⟩
  have hz2 : W2.heap.size = w1.heap.size + 1 := by rw [hW2]; simp
  have HI2 : Hid (V.IsB w1.heap.size w1.heap.size [] W2) := by rw [hW2]; exact Lib.IsBuilderF.of (Lib.fresh_isBuilder _ _ w1)
  have H2 : Hid (Below W0.heap.size W0 W2) := by rw [hW2]; exact Hw1.out.trans ((al_b _ _).mono Hw1.out.size)
  have Hd : Hid (Below W2.heap.size W2 W2.drew) := (Below.refl _ _).drew
  have H2d : Hid (Below W0.heap.size W0 W2.drew) := H2.out.drew
  obtain ⟨⟨p0, p1, p2⟩, p3, p4⟩ := HX.out w1 Hw1.out
  go_wp2_with fail
  rw [← hW2]
  clear hW2 p0 p1 p2 p3 p4
  refine wp_region_held_drew (S := fun w' => BxV w.heap.size a b c k (.slice au l.length cu) w') (by kernel_rfl) (HX.out _ H2d.out) (fun hHeld => ?_)
  refine wpAnyH_take (i := 0) (v := ?_) rfl (by kernel_rfl) (by kernel_rfl) (by kernel_rfl) (fun _ _ _ h => h) (Or.inl ⟨by rfl, ?_⟩) hHeld ?_
  rotate_left 1
  · intro w9 hSw; obtain ⟨⟨g0, g1, g2⟩, g3, g4⟩ := hSw; go_simp; try with_reducible rfl
  change wpAnyH _ _ _ _ _ _ _ (Act.put _ (some 9) _) _
  simp only [Act.put, List.setIfInBounds_toArray, List.set_cons_zero, List.set_cons_succ]
  refine wpAnyH_take (i := 1) (v := ?_) rfl (by kernel_rfl) (by kernel_rfl) (by kernel_rfl) (fun _ _ _ h => h) (Or.inl ⟨by rfl, ?_⟩) hHeld ?_
  rotate_left 1
  · intro w9 hSw; obtain ⟨⟨g0, g1, g2⟩, g3, g4⟩ := hSw; go_simp; try with_reducible rfl
  change wpAnyH _ _ _ _ _ _ _ (Act.put _ (some 10) _) _
  simp only [Act.put, List.setIfInBounds_toArray, List.set_cons_zero, List.set_cons_succ]
  refine wpAnyH_take (i := 4) (v := ?_) rfl (by kernel_rfl) (by kernel_rfl) (by kernel_rfl) (fun _ _ _ h => h) (Or.inl ⟨by rfl, ?_⟩) hHeld ?_
  rotate_left 1
  · intro w9 hSw; obtain ⟨⟨g0, g1, g2⟩, g3, g4⟩ := hSw; go_simp; try with_reducible rfl
  change wpAnyH _ _ _ _ _ _ _ (Act.put _ (some 13) _) _
  simp only [Act.put, List.setIfInBounds_toArray, List.set_cons_zero, List.set_cons_succ]
  refine wpAnyH_take (i := 5) (v := ?_) rfl (by kernel_rfl) (by kernel_rfl) (by kernel_rfl) (fun _ _ _ h => h) (Or.inl ⟨by rfl, ?_⟩) hHeld ?_
  rotate_left 1
  · intro w9 hSw; obtain ⟨⟨g0, g1, g2⟩, g3, g4⟩ := hSw; go_simp; try with_reducible rfl
  change wpAnyH _ _ _ _ _ _ _ (Act.put _ (some 14) _) _
  simp only [Act.put, List.setIfInBounds_toArray, List.set_cons_zero, List.set_cons_succ]
  refine wpAnyH_ready (rs := [2]) (by kernel_rfl) (by simp) ?_
  refine AllReadyH.cons rfl (fun K hK => ?_) AllReadyH.nil
  go_simp
  refine (HI.out _ (HBw.out _ H2d.out)).mono ?_
  rintro e w3 ⟨rfl, hb3⟩
  have H3 : Hid (Below W0.heap.size W0 w3) := H2d.out.trans (hb3.mono H2d.out.size)
  have H3b : Hid (Below W2.heap.size W2 w3) := Hd.out.trans (hb3.mono Hd.out.size)
  clear hb3
  go_simp
  refine hK.out _ _ (HX.out _ H3.out) (fun hHeld => ?_)
  clear hK K
  refine wpAnyH_take (i := 3) (v := ?_) rfl (by kernel_rfl) (by kernel_rfl) (by kernel_rfl) (fun _ _ _ h => h) (Or.inl ⟨by rfl, ?_⟩) hHeld ?_
  rotate_left 1
  · intro w9 hSw; go_simp; rw [if_neg (by (try simp only [ByteArray.size_append, s32]); omega)]
  change wpAnyH _ _ _ _ _ _ _ (Act.put _ (some 12) _) _
  simp only [Act.put, List.setIfInBounds_toArray, List.set_cons_zero, List.set_cons_succ]
  refine wpAnyH_take (i := 6) (v := ?_) rfl (by kernel_rfl) (by kernel_rfl) (by kernel_rfl) (fun _ _ _ h => h) (Or.inl ⟨by rfl, ?_⟩) hHeld ?_
  rotate_left 1
  · intro w9 hSw; go_simp; rw [if_neg (by (try simp only [ByteArray.size_append, s32]); omega)]
  change wpAnyH _ _ _ _ _ _ _ (Act.put _ (some 15) _) _
  simp only [Act.put, List.setIfInBounds_toArray, List.set_cons_zero, List.set_cons_succ]
  refine wpAnyH_ready (rs := [7]) (by kernel_rfl) (by simp) ?_
  refine AllReadyH.cons rfl (fun K hK => ?_) AllReadyH.nil
  go_simp
  refine (V.writeString_k w1.heap.size w1.heap.size [] _ w3 (V.IsB_below HI2.out H3b.out) (by simp only [List.length_nil, ByteArray.size_append, s32]; omega) (Nat.le_trans (by omega) H3b.out.size)).mono ?_
  rintro e w4 ⟨rfl, hI4, hb4, ok4⟩
  have H4 : Hid (Below W0.heap.size W0 w4) := H3.out.trans (hb4.mono Hw1.out.size)
  have HI4 : Hid (V.IsB w1.heap.size w1.heap.size (Lib.strCells (I ++ ⟨#[32]⟩ ++ k)) w4) := hI4
  have hz4 : w1.heap.size < w4.heap.size := Nat.lt_of_lt_of_le (Nat.lt_of_lt_of_le (by omega) H3b.out.size) hb4.size
  clear hb4 hI4 ok4
  go_simp
  refine hK.out _ _ (HX.out _ H4.out) (fun hHeld => ?_)
  clear hK K
  refine wpAnyH_done (by kernel_rfl) ?_ _
  clear hHeld HI HC HI2 H2 Hd H2d H3 H3b
  obtain ⟨-, -, p4⟩ := HX.out w4 H4.out
  go_wp2_with fail
  clear p4
  generalize hF0 : I ++ ⟨#[32]⟩ ++ k = F0 at *
  have hF0s : F0.size ≤ 1000100 := by rw [← hF0]; simp only [ByteArray.size_append, s32]; omega
  have HPs : Hid (∀ j, j ≤ l.length → ((l.take j).foldl (fun s x => s ++ atT x) F0).size ≤ 1000100 + j * 10000000) := fun j => by
    induction j with
    | zero => intro _; simp; omega
    | succ j ih =>
      intro h
      rw [List.take_succ_eq_append_getElem h, List.foldl_append]
      have := ih (by omega)
      have h2 := hsv _ (List.getElem_mem (l := l) (n := j) h)
      simp only [List.foldl_cons, List.foldl_nil, ByteArray.size_append]
      omega
  have HPn : Hid (∀ (j : Nat) (hj : j < l.length), (l.take (j + 1)).foldl (fun s x => s ++ atT x) F0 = (l.take j).foldl (fun s x => s ++ atT x) F0 ++ atT l[j]) := fun j hj => by
    show _ = _
    rw [List.take_succ_eq_append_getElem hj, List.foldl_append]
    rfl
  have HPe : Hid ((l.take l.length).foldl (fun s x => s ++ atT x) F0 = l.foldl (fun s x => s ++ atT x) F0) := by show _ = _; rw [List.take_length]
  have HI4' : Hid (V.IsB w1.heap.size w1.heap.size (Lib.strCells ((l.take 0).foldl (fun s x => s ++ atT x) F0)) w4) := HI4.out
  have HV : Hid (∀ (j : Nat) (hj : j < l.length) W, Below w.heap.size w W → Calls Tryz.prog 41 #[.agg #[.int .i64 l[j].k, .int .i64 l[j].v, .string l[j].s]] W fun e w' => e = .returned (.string (V.shwV l[j].k l[j].v l[j].s)) ∧ Below W.heap.size W w') := fun j hj W h => V.show_any _ _ _ W (hn _ (List.getElem_mem hj)).2 (Utf8Tabs_below hT h) (V.T16_below h16 h) (V.P10_below hP h)
  have HS : Hid (∀ (j : Nat) (hj : j < l.length), (atT l[j]).size ≤ 10000000) := fun j hj => hsv _ (List.getElem_mem hj)
  have HF0 : Hid (I ++ ⟨#[32]⟩ ++ k = F0) := hF0
  clear HI4 hsv hn hT h16 hP hM hr hF0 hk hid
  go_loopw [5, 20] (fun _ i wr => ∃ j : Nat, j ≤ l.length ∧ i = .int .i64 (j : Int) ∧ Hid (V.IsB w1.heap.size w1.heap.size (Lib.strCells ((l.take j).foldl (fun s x => s ++ atT x) F0)) wr) ∧ Hid (Below W0.heap.size W0 wr) ∧ w1.heap.size < wr.heap.size) (fun _ i _ => l.length - (intOf i).toNat)
  case atStart => exact ⟨0, Nat.zero_le _, rfl, HI4', H4, hz4⟩
  case round =>
    obtain ⟨j, hj, rfl, HO, HB, hzr⟩ := hrel
    have hsz := HB.out.size
    have hps := HPs.out j hj
    by_cases hlk : j < l.length
    · have dk : decide ((j : Int) < (l.length : Int)) = true := by simp; omega
      obtain ⟨bb, off, rfl, hlt, hcap, hc⟩ := a_at (HQ.out wr HB.out) (by omega)
      obtain ⟨y0, y1, y2, y3⟩ := hc j hlk
      obtain ⟨W3, hW3⟩ : ∃ W3, W3 = wr.alloc (.cells #[.string l[j].n, .int .i64 l[j].k, .int .i64 l[j].v, .string l[j].s] 54) := ⟨_, rfl⟩
      have hb1 : Below wr.heap.size wr W3 := by rw [hW3]; exact al_b _ _
      have hn2 : W3.heap[wr.heap.size]? = some (.cells #[.string l[j].n, .int .i64 l[j].k, .int .i64 l[j].v, .string l[j].s] 54 (0, 0)) := by rw [hW3]; exact new_at _ _
      have H3 : Hid (Below W0.heap.size W0 W3) := HB.out.trans (hb1.mono hsz)
      have H3b : Hid (Below wr.heap.size wr W3.drew) := hb1.drew
      have H3d : Hid (Below W0.heap.size W0 W3.drew) := H3.out.drew
      have hz3 : wr.heap.size < W3.heap.size := (Array.getElem?_eq_some_iff.1 hn2).1
      have HVj : Hid (Calls Tryz.prog 41 #[.agg #[.int .i64 l[j].k, .int .i64 l[j].v, .string l[j].s]] W3.drew fun e w' => e = .returned (.string (V.shwV l[j].k l[j].v l[j].s)) ∧ Below W3.drew.heap.size W3.drew w') := HV.out j hlk _ (HBw.out _ H3d.out)
      have HCe : Hid (∀ W, Below W3.heap.size W3 W → W.cell? ⟨wr.heap.size, 0, none⟩ = some (.string l[j].n) ∧ W.cell? ⟨wr.heap.size, 1, none⟩ = some (.int .i64 l[j].k) ∧ W.cell? ⟨wr.heap.size, 2, none⟩ = some (.int .i64 l[j].v) ∧ W.cell? ⟨wr.heap.size, 3, none⟩ = some (.string l[j].s)) := fun W h => by
        have e : ∀ i, W.cell? ⟨wr.heap.size, i, none⟩ = (#[.string l[j].n, .int .i64 l[j].k, .int .i64 l[j].v, .string l[j].s] : Array Value)[i]? := fun i => by rw [Lib.cell_of_heap ((h.block _ (Array.getElem?_eq_some_iff.1 hn2).1).trans hn2)]
        exact ⟨e 0, e 1, e 2, e 3⟩
      have HN2 : Hid (∀ W, Below W3.heap.size W3 W → W.heap[wr.heap.size]? = some (.cells #[.string l[j].n, .int .i64 l[j].k, .int .i64 l[j].v, .string l[j].s] 54 (0, 0))) := fun W h => (h.block _ (Array.getElem?_eq_some_iff.1 hn2).1).trans hn2
      have HCd : Hid (Below W3.heap.size W3 W3.drew) := (Below.refl _ _).drew
      have HKj : Hid ((l.take (j + 1)).foldl (fun s x => s ++ atT x) F0 = (l.take j).foldl (fun s x => s ++ atT x) F0 ++ atT l[j]) := HPn.out j hlk
      have hsj := HS.out j hlk
      obtain ⟨P', HPx⟩ : ∃ P', Hid (P' = (l.take (j + 1)).foldl (fun s x => s ++ atT x) F0) := ⟨_, rfl⟩
      rw [← HPx.out] at HKj
      have HPx' : Hid (∀ W, V.IsB w1.heap.size w1.heap.size (Lib.strCells P') W → V.IsB w1.heap.size w1.heap.size (Lib.strCells ((l.take (j + 1)).foldl (fun s x => s ++ atT x) F0)) W) := fun W h => by rw [← HPx.out]; exact h
      clear HPx
      generalize (l.take j).foldl (fun s x => s ++ atT x) F0 = P at *
      generalize l[j]'hlk = x at *
      obtain ⟨xn, xk, xv, xs⟩ := x
      dsimp only at *
      have hat : atT ⟨xn, xk, xv, xs⟩ = ⟨#[32]⟩ ++ xn ++ ⟨#[61]⟩ ++ V.shwV xk xv xs := rfl
      rw [hat] at hsj HKj
      generalize V.shwV xk xv xs = Y at *
      have s61 : (⟨#[61]⟩ : ByteArray).size = 1 := rfl
      simp only [ByteArray.size_append, s32, s61] at hsj
      clear hat hc HV HPs HPn HPe HS HQ hb1 hn2
      go_wp2_with fail
      rw [← hW3]
      clear hW3 y0 y1 y2 y3
      refine wp_region_held_drew (S := fun w' => w'.cell? ⟨wr.heap.size, 0, none⟩ = some (.string xn) ∧ w'.cell? ⟨wr.heap.size, 1, none⟩ = some (.int .i64 xk) ∧ w'.cell? ⟨wr.heap.size, 2, none⟩ = some (.int .i64 xv) ∧ w'.cell? ⟨wr.heap.size, 3, none⟩ = some (.string xs)) (by kernel_rfl) (HCe.out _ HCd.out) (fun hHeld => ?_)
      refine wpAnyH_take (i := 0) (v := ?_) rfl (by kernel_rfl) (by kernel_rfl) (by kernel_rfl) (fun _ _ _ h => h) (Or.inl ⟨by rfl, ?_⟩) hHeld ?_
      rotate_left 1
      · intro w9 hSw; obtain ⟨g0, g1, g2, g3⟩ := hSw; go_simp; try with_reducible rfl
      change wpAnyH _ _ _ _ _ _ _ (Act.put _ (some 24) _) _
      simp only [Act.put, List.setIfInBounds_toArray, List.set_cons_zero, List.set_cons_succ]
      refine wpAnyH_take (i := 1) (v := ?_) rfl (by kernel_rfl) (by kernel_rfl) (by kernel_rfl) (fun _ _ _ h => h) (Or.inl ⟨by rfl, ?_⟩) hHeld ?_
      rotate_left 1
      · intro w9 hSw; obtain ⟨g0, g1, g2, g3⟩ := hSw; go_simp; try with_reducible rfl
      change wpAnyH _ _ _ _ _ _ _ (Act.put _ (some 25) _) _
      simp only [Act.put, List.setIfInBounds_toArray, List.set_cons_zero, List.set_cons_succ]
      refine wpAnyH_take (i := 2) (v := ?_) rfl (by kernel_rfl) (by kernel_rfl) (by kernel_rfl) (fun _ _ _ h => h) (Or.inl ⟨by rfl, ?_⟩) hHeld ?_
      rotate_left 1
      · intro w9 hSw; go_simp; rw [if_neg (by (try simp only [ByteArray.size_append, s32, s61]); omega)]
      change wpAnyH _ _ _ _ _ _ _ (Act.put _ (some 26) _) _
      simp only [Act.put, List.setIfInBounds_toArray, List.set_cons_zero, List.set_cons_succ]
      refine wpAnyH_take (i := 3) (v := ?_) rfl (by kernel_rfl) (by kernel_rfl) (by kernel_rfl) (fun _ _ _ h => h) (Or.inl ⟨by rfl, ?_⟩) hHeld ?_
      rotate_left 1
      · intro w9 hSw; go_simp; rw [if_neg (by (try simp only [ByteArray.size_append, s32, s61]); omega)]
      change wpAnyH _ _ _ _ _ _ _ (Act.put _ (some 27) _) _
      simp only [Act.put, List.setIfInBounds_toArray, List.set_cons_zero, List.set_cons_succ]
      refine wpAnyH_take (i := 4) (v := ?_) rfl (by kernel_rfl) (by kernel_rfl) (by kernel_rfl) (fun _ _ _ h => h) (Or.inl ⟨by rfl, ?_⟩) hHeld ?_
      rotate_left 1
      · intro w9 hSw; obtain ⟨g0, g1, g2, g3⟩ := hSw; go_simp; try with_reducible rfl
      change wpAnyH _ _ _ _ _ _ _ (Act.put _ (some 28) _) _
      simp only [Act.put, List.setIfInBounds_toArray, List.set_cons_zero, List.set_cons_succ]
      refine wpAnyH_take (i := 5) (v := ?_) rfl (by kernel_rfl) (by kernel_rfl) (by kernel_rfl) (fun _ _ _ h => h) (Or.inl ⟨by rfl, ?_⟩) hHeld ?_
      rotate_left 1
      · intro w9 hSw; obtain ⟨g0, g1, g2, g3⟩ := hSw; go_simp; try with_reducible rfl
      change wpAnyH _ _ _ _ _ _ _ (Act.put _ (some 29) _) _
      simp only [Act.put, List.setIfInBounds_toArray, List.set_cons_zero, List.set_cons_succ]
      refine wpAnyH_ready (rs := [6]) (by kernel_rfl) (by simp) ?_
      refine AllReadyH.cons rfl (fun K hK => ?_) AllReadyH.nil
      go_simp
      refine (HVj.out).mono ?_
      rintro e w5 ⟨rfl, hb5⟩
      have H5 : Hid (Below W0.heap.size W0 w5) := H3d.out.trans (hb5.mono H3d.out.size)
      have H5b : Hid (Below wr.heap.size wr w5) := H3b.out.trans (hb5.mono H3b.out.size)
      have H5c : Hid (Below W3.heap.size W3 w5) := HCd.out.trans (hb5.mono HCd.out.size)
      clear hb5
      go_simp
      refine hK.out _ _ (HCe.out _ H5c.out) (fun hHeld => ?_)
      clear hK K
      refine wpAnyH_take (i := 7) (v := ?_) rfl (by kernel_rfl) (by kernel_rfl) (by kernel_rfl) (fun _ _ _ h => h) (Or.inl ⟨by rfl, ?_⟩) hHeld ?_
      rotate_left 1
      · intro w9 hSw; go_simp; rw [if_neg (by (try simp only [ByteArray.size_append, s32, s61]); omega)]
      change wpAnyH _ _ _ _ _ _ _ (Act.put _ (some 31) _) _
      simp only [Act.put, List.setIfInBounds_toArray, List.set_cons_zero, List.set_cons_succ]
      refine wpAnyH_ready (rs := [8]) (by kernel_rfl) (by simp) ?_
      refine AllReadyH.cons rfl (fun K hK => ?_) AllReadyH.nil
      go_simp
      refine (V.writeString_k w1.heap.size w1.heap.size _ _ w5 (V.IsB_below HO.out H5b.out) (by rw [Lib.strCells_eq, Lib.byteCells_length, Array.length_toList]; have e : P.data.size = P.size := rfl; simp only [ByteArray.size_append, s32, s61]; omega) (Nat.le_trans (by omega) H5b.out.size)).mono ?_
      rintro e w6 ⟨rfl, hI6, hb6, ok6⟩
      have H6 : Hid (Below W0.heap.size W0 w6) := H5.out.trans (hb6.mono Hw1.out.size)
      have HI6 : Hid (V.IsB w1.heap.size w1.heap.size (Lib.strCells P') w6) := by
        show V.IsB _ _ _ _
        have e : Lib.strCells P' = Lib.strCells P ++ Lib.strCells (⟨#[32]⟩ ++ xn ++ ⟨#[61]⟩ ++ Y) := by
          rw [HKj.out, Lib.strCells_eq, Lib.strCells_eq, Lib.strCells_eq, ← Lib.byteCells_append]
          congr 1
          first | done | rw [ByteArray.data_append, Array.toList_append]
        rw [e]
        exact hI6
      have hz6 : w1.heap.size < w6.heap.size := Nat.lt_of_lt_of_le (Nat.lt_of_lt_of_le hzr H5b.out.size) hb6.size
      have HC6 : Hid (w6.cell? ⟨wr.heap.size, 0, none⟩ = some (.string xn) ∧ w6.cell? ⟨wr.heap.size, 1, none⟩ = some (.int .i64 xk) ∧ w6.cell? ⟨wr.heap.size, 2, none⟩ = some (.int .i64 xv) ∧ w6.cell? ⟨wr.heap.size, 3, none⟩ = some (.string xs)) := by
        have h6 := ok6 _ _ (HN2.out w5 H5c.out) (by intro h; injection h with h; omega) (by intro c fz h; simp at h)
        have e : ∀ i, w6.cell? ⟨wr.heap.size, i, none⟩ = (#[.string xn, .int .i64 xk, .int .i64 xv, .string xs] : Array Value)[i]? := fun i => by rw [Lib.cell_of_heap h6]
        exact ⟨e 0, e 1, e 2, e 3⟩
      clear hb6 hI6 ok6
      go_simp
      refine hK.out _ _ (HC6.out) (fun hHeld => ?_)
      clear hK K
      refine wpAnyH_done (by kernel_rfl) ?_ _
      clear hHeld
      go_wp2
      go_roundw
      case rel => exact ⟨j + 1, by omega, by simp, HPx'.out _ HI6.out, H6, hz6⟩
      case measure => simp [intOf]; omega
    · have hj' : j = l.length := by omega
      have dk : decide ((j : Int) < (l.length : Int)) = false := by simp; omega
      subst hj'
      have hO := HO.out
      rw [HPe.out, Lib.strCells_eq] at hO
      have HBz : Hid (∀ w', Below w1.heap.size wr w' → Below w.heap.size w w') := fun w' h => HBw.out _ (HB.out.trans (h.mono Hw1.out.size))
      clear HV HPs HPn HPe HS HQ HO HB
      go_wp2_with fail
      refine (Tryz.Builder_String_any_k w1.heap.size w1.heap.size _ _ hO (by omega)).mono ?_
      rintro e w5 ⟨rfl, hI5, hb5, ok5⟩
      have HBy : Hid (Below w.heap.size w w5) := HBz.out _ hb5
      clear hI5 hb5 ok5 hO
      go_wp2
      go_ret
      exact ⟨by rw [HF0.out]; rfl, HBy.out⟩
end Go.Proofs.YtjamkfkbajhefaaGreatDoor
/- fine: its walk. -/
namespace Go.Proofs.YtjamkfkbajhefaaGreatDoor.F
open Go.RowKit Go.ChangeMaps

/-- What the law wants of the world. -/
structure WT (w : World) : Prop where
  v : V.VE w
  p : V.P10 w
theorem WT.below {w w' : World} (h : WT w) (hb : Below w.heap.size w w') : WT w' := ⟨h.v.below hb, V.P10_below h.p hb⟩
theorem WT.u {w : World} (h : WT w) : UT w := h.v.u
theorem WT.m {w : World} (h : WT w) : ML w := h.v.m
theorem WT.t {w : World} (h : WT w) : V.T16 w := h.v.t
theorem rowT {w : World} {g : Nat} {C : Array Value} {ty : TypeId} {z : Nat × Nat} {sz n : Nat} {xs : List Value} (h : w.heap[g]? = some (.cells C ty z)) (hx : xs.length = n * sz) (hc : n ≤ maxLen) (hC : ∀ (j : Nat) u, xs[j]? = some u → C[j]? = some u) : IsRow w sz (.slice (some ⟨g, 0, none⟩) n n) n xs := by
  refine ⟨hx, .inr ⟨g, 0, n, rfl, (Array.getElem?_eq_some_iff.1 h).1, Nat.le_refl _, hc, fun j u hu => ?_⟩⟩
  rw [Nat.zero_add, Lib.cell_of_heap h]
  exact hC j u hu
theorem rowT_fd {w : World} {g : Nat} {ty : TypeId} {z : Nat × Nat} {x : Fd} (h : w.heap[g]? = some (.cells #[.string x.n, .int .i64 x.k, .bool x.m] ty z)) : IsRow w 3 (.slice (some ⟨g, 0, none⟩) 1 1) [x].length (fCells [x]) :=
  rowT h rfl (by decide) fun j u hj => by rw [List.getElem?_toArray]; exact hj
theorem rowT_at {w : World} {g : Nat} {ty : TypeId} {z : Nat × Nat} {x : At} (h : w.heap[g]? = some (.cells #[.string x.n, .int .i64 x.k, .int .i64 x.v, .string x.s] ty z)) : IsRow w 4 (.slice (some ⟨g, 0, none⟩) 1 1) 1 (aCells [x]) :=
  rowT h rfl (by decide) fun j u hj => by rw [List.getElem?_toArray]; exact hj
abbrev tyF : Ty := ⟨⟨#[78, 101, 119, 115]⟩, ⟨#[]⟩, [⟨⟨#[97]⟩, 1, false⟩], [⟨⟨#[97]⟩, 1, false⟩], [⟨#[78, 101, 119, 115]⟩], 1, 1, 1⟩
abbrev atF : At := ⟨⟨#[97]⟩, 1, 4, ⟨#[]⟩⟩
theorem rootF : rootR ⟨#[78, 101, 119, 115]⟩ [⟨⟨#[97]⟩, 1, false⟩] 1 1 1 = (tyF, 0) := by kernel_rfl
theorem fits4 : fitsX tyF.all d4 = 0 := by kernel_rfl
theorem lets4 : letsB d4 [atF] = true := by kernel_rfl
theorem chkF4 : chkE 1 1 1 ⟨#[78, 101, 119, 115]⟩ [atF] = true := by kernel_rfl
theorem shwF4 : ([atF].foldl (fun s x => s ++ atT x) (idT 1 1 1 ++ ⟨#[32]⟩ ++ ⟨#[78, 101, 119, 115]⟩)) = ⟨#[49, 46, 49, 46, 49, 32, 78, 101, 119, 115, 32, 97, 61, 52]⟩ := by kernel_rfl
theorem nm4 : ∀ y ∈ d4, NmP y := fun y hy => by
  simp only [List.mem_cons, List.not_mem_nil, or_false] at hy
  rcases hy with rfl | rfl
  · exact ⟨by decide, by decide, fun x hx => by rw [List.mem_singleton.1 hx]; decide⟩
  · exact ⟨by decide, by decide, fun x hx => by cases hx⟩
theorem nmF4 : NmA [atF] := fun x hx => by rw [List.mem_singleton] at hx; subst hx; decide
theorem szF4 : ∀ x ∈ [atF], (atT x).size ≤ 10000000 := fun x hx => by
  rw [List.mem_singleton] at hx
  subst hx
  have e : (atT atF).size = 4 := by kernel_rfl
  rw [e]
  decide
set_option maxRecDepth 100000 in
set_option maxHeartbeats 8000000 in
theorem fine_any (w : World) (hW : WT w) : Calls Tryz.prog 4 #[] w fun e w' => e = .returned (.bool true) ∧ Below w.heap.size w w' := by
  obtain ⟨w1, hw1⟩ : ∃ w1, w1 = w.alloc (.cells #[.string ⟨#[97]⟩, .int .i64 1, .bool false] 48) := ⟨_, rfl⟩
  have B1 : Hid (Below w.heap.size w w1) := by show Below _ _ _; rw [hw1]; exact al_b _ _
  have hn1 : w1.heap[w.heap.size]? = some (.cells #[.string ⟨#[97]⟩, .int .i64 1, .bool false] 48 (0, 0)) := by rw [hw1]; exact new_at _ _
  have C1 : Hid (∀ W, Below w1.heap.size w1 W → W.heap[w.heap.size]? = some (.cells #[.string ⟨#[97]⟩, .int .i64 1, .bool false] 48 (0, 0))) := fun W h => (h.block _ (Array.getElem?_eq_some_iff.1 hn1).1).trans hn1
  clear hn1
  have HRt : Hid (Calls Tryz.prog 15 #[.string ⟨#[78, 101, 119, 115]⟩, .slice (some ⟨w.heap.size, 0, none⟩) 1 1, idV 1 1 1] w1 fun e w' => MkP (tyF, 0) w1 e w') := by
    have := root_any ⟨#[78, 101, 119, 115]⟩ (.slice (some ⟨w.heap.size, 0, none⟩) 1 1) [⟨⟨#[97]⟩, 1, false⟩] 1 1 1 w1 (by decide) (rowT_fd (C1.out w1 (Below.refl _ _))) (by decide) (fun y hy => by rw [List.mem_singleton] at hy; subst hy; decide) (hW.below B1.out).u (hW.below B1.out).m
    rw [rootF] at this
    exact this
  have HPa : Hid (∀ W, Below w.heap.size w W → Calls Tryz.prog 16 #[.string tx4] W fun e w' => PaQ d4 15 0 W e w') := fun W h => parse4 W (hW.below h).v (hW.below h).p
  have HFi : Hid (∀ (y : LT) (a : Option Addr) (c : Nat) (F : List PR) W, Below w.heap.size w W → y.t = tyF → IsTy W y.t y.vo y.va y.vc → F.map (·.y) = d4 → IsFl W (.slice a F.length c) F → Calls Tryz.prog 9 #[y.va, .slice a F.length c] W fun e w' => e = .returned (.int .i64 0) ∧ Below W.heap.size W w') := fun y a c F W h hy hI hD hF => by
    have := fitsP_any y.va y.t.all _ F d4 W hI.2.1 (by rw [hy]; decide) hF hD (by rw [← List.length_map (f := (·.y)), hD]; decide) nm4 (by rw [hy]; exact fun z hz => by rw [List.mem_singleton.1 hz]; decide) (hW.below h).u (hW.below h).m
    rw [hy, fits4] at this
    exact this
  have HLe : Hid (∀ (a : Option Addr) (c : Nat) (F : List PR) (u : Value) W, Below w.heap.size w W → F.map (·.y) = d4 → IsFl W (.slice a F.length c) F → IsRow W 4 u 1 (aCells [atF]) → Calls Tryz.prog 14 #[.slice a F.length c, u] W fun e w' => e = .returned (.bool true) ∧ Below W.heap.size W w') := fun a c F u W h hD hF hr => by
    have := lets_any _ F d4 u [atF] W hF hD (by rw [← List.length_map (f := (·.y)), hD]; decide) nm4 hr (by decide) nmF4 (hW.below h).u (hW.below h).m
    rw [lets4] at this
    exact this
  have HSh : Hid (∀ (u : Value) W, Below w.heap.size w W → IsRow W 4 u 1 (aCells [atF]) → Calls Tryz.prog 17 #[.agg (evA 1 1 1 ⟨#[78, 101, 119, 115]⟩ u)] W fun e w' => e = .returned (.string ⟨#[49, 46, 49, 46, 49, 32, 78, 101, 119, 115, 32, 97, 61, 52]⟩) ∧ Below W.heap.size W w') := fun u W h hr => by
    have hw := hW.below h
    have := evShow_any 1 1 1 ⟨#[78, 101, 119, 115]⟩ u [atF] W hr (by decide) nmF4 (by decide) szF4 hw.u hw.m hw.t hw.p chkF4
    rw [shwF4] at this
    exact this
  clear hW
  go_enter Tryz.func4, Tryz.ntmps4
  go_wp2_with fail
  rw [← hw1]
  clear hw1
  refine (HRt.out).mono ?_
  rintro e w2 ⟨y, rfl, hyt, hyI, -, hb⟩
  have B2 : Hid (Below w1.heap.size w1 w2) := hb
  clear hb HRt C1
  obtain ⟨w3, hw3⟩ : ∃ w3, w3 = w2.alloc (.cells (tyA y.t y.vo y.va y.vc) 38) := ⟨_, rfl⟩
  have B3 : Hid (Below w2.heap.size w2 w3) := by show Below _ _ _; rw [hw3]; exact al_b _ _
  have hn3 : w3.heap[w2.heap.size]? = some (.cells (tyA y.t y.vo y.va y.vc) 38 (0, 0)) := by rw [hw3]; exact new_at _ _
  have C3 : Hid (∀ W, Below w3.heap.size w3 W → W.heap[w2.heap.size]? = some (.cells (tyA y.t y.vo y.va y.vc) 38 (0, 0))) := fun W h => (h.block _ (Array.getElem?_eq_some_iff.1 hn3).1).trans hn3
  clear hn3
  have HyI : Hid (∀ W, Below w3.heap.size w3 W → IsTy W y.t y.vo y.va y.vc) := fun W h => hyI.below (bT B3.out h)
  have HX : Hid (∀ W, Below w3.heap.size w3 W → W.cell? ⟨w2.heap.size, 3, none⟩ = some y.va ∧ W.cell? ⟨w2.heap.size, 5, none⟩ = some (.int .i64 1) ∧ W.cell? ⟨w2.heap.size, 6, none⟩ = some (.int .i64 1) ∧ W.cell? ⟨w2.heap.size, 7, none⟩ = some (.int .i64 1)) := fun W h => by
    obtain ⟨⟨-, -, -, e3⟩, -, e5, e6, e7⟩ := BxT.of (C3.out W h)
    rw [hyt] at e5 e6 e7
    exact ⟨e3, e5, e6, e7⟩
  have HFy := fun a c F W h hI hD hF => HFi.out y a c F W h hyt hI hD hF
  have HFy2 : Hid (∀ (a : Option Addr) (c : Nat) (F : List PR) W, Below w.heap.size w W → IsTy W y.t y.vo y.va y.vc → F.map (·.y) = d4 → IsFl W (.slice a F.length c) F → Calls Tryz.prog 9 #[y.va, .slice a F.length c] W fun e w' => e = .returned (.int .i64 0) ∧ Below W.heap.size W w') := HFy
  clear HFi HFy hyt hyI C3
  go_wp2_with fail
  rw [← hw3]
  clear hw3
  refine (HPa.out _ (bT (bT B1.out B2.out) B3.out)).mono ?_
  rintro e w4 ⟨a, c, F, rfl, hF, hD, hb⟩
  have B4 : Hid (Below w3.heap.size w3 w4) := hb
  have HF : Hid (∀ W, Below w4.heap.size w4 W → IsFl W (.slice a F.length c) F) := fun W h => hF.below h
  have HD : Hid (F.map (·.y) = d4) := hD
  clear hb hF hD HPa
  obtain ⟨w5, hw5⟩ : ∃ w5, w5 = w4.alloc (.cells #[.string ⟨#[97]⟩, .int .i64 1, .int .i64 4, .string ⟨#[]⟩] 54) := ⟨_, rfl⟩
  have B5 : Hid (Below w4.heap.size w4 w5) := by show Below _ _ _; rw [hw5]; exact al_b _ _
  have hn5 : w5.heap[w4.heap.size]? = some (.cells #[.string ⟨#[97]⟩, .int .i64 1, .int .i64 4, .string ⟨#[]⟩] 54 (0, 0)) := by rw [hw5]; exact new_at _ _
  have C5 : Hid (∀ W, Below w5.heap.size w5 W → W.heap[w4.heap.size]? = some (.cells #[.string ⟨#[97]⟩, .int .i64 1, .int .i64 4, .string ⟨#[]⟩] 54 (0, 0))) := fun W h => (h.block _ (Array.getElem?_eq_some_iff.1 hn5).1).trans hn5
  clear hn5
  have HR5 : Hid (∀ W, Below w5.heap.size w5 W → IsRow W 4 (.slice (some ⟨w4.heap.size, 0, none⟩) 1 1) 1 (aCells [atF])) := fun W h => rowT_at (C5.out W h)
  have HX5 := HX.out w5 (bT B4.out B5.out)
  obtain ⟨e3, e5, e6, e7⟩ := HX5
  rw [hw5] at e3 e5 e6 e7
  clear C5
  go_wp2_with fail
  rw [← hw5]
  clear hw5 e3 e5 e6 e7
  refine (HFy2.out _ _ F _ (bT (bT (bT (bT B1.out B2.out) B3.out) B4.out) B5.out) (HyI.out _ (bT B4.out B5.out)) HD.out (HF.out _ B5.out)).mono ?_
  rintro e w6 ⟨rfl, hb⟩
  have B6 : Hid (Below w5.heap.size w5 w6) := hb
  clear hb HFy2 HyI
  go_wp2_with fail
  refine (HLe.out _ _ F _ _ (bT (bT (bT (bT (bT B1.out B2.out) B3.out) B4.out) B5.out) B6.out) HD.out (HF.out _ (bT B5.out B6.out)) (HR5.out _ B6.out)).mono ?_
  rintro e w7 ⟨rfl, hb⟩
  have B7 : Hid (Below w6.heap.size w6 w7) := hb
  clear hb HLe HF HD
  obtain ⟨e3, e5, e6, e7⟩ := HX.out w7 (bT (bT (bT B4.out B5.out) B6.out) B7.out)
  go_wp2_with fail
  clear e3 e5 e6 e7
  refine (HSh.out _ _ (bT (bT (bT (bT (bT (bT B1.out B2.out) B3.out) B4.out) B5.out) B6.out) B7.out) (HR5.out _ (bT B6.out B7.out))).mono ?_
  rintro e w8 ⟨rfl, hb⟩
  have B8 : Hid (Below w7.heap.size w7 w8) := hb
  clear hb
  have BZ : Hid (Below w.heap.size w w8) := (bT (bT (bT (bT (bT (bT (bT B1.out B2.out) B3.out) B4.out) B5.out) B6.out) B7.out) B8.out)
  go_wp2
  go_ret
  exact ⟨by first | rfl | simp, BZ.out⟩
end Go.Proofs.YtjamkfkbajhefaaGreatDoor.F
/- Slices of structs that came in, as rows. -/
namespace Go.Proofs.YtjamkfkbajhefaaGreatDoor
open Go.ChangeShapes Go.WideShapes Go.ChangeAt Go.WideMaps Go.WideElems Go.RowKit Go.Deep

theorem flatG_len {α : Type} (en : α → List Value) (sz : Nat) (hen : ∀ y, (en y).length = sz) (l : List α) : (l.flatMap en).length = l.length * sz := by
  induction l with
  | nil => simp
  | cons d D ih => rw [List.flatMap_cons, List.length_append, List.length_cons, ih, hen, Nat.succ_mul, Nat.add_comm]
theorem flatG_get {α : Type} (en : α → List Value) (sz : Nat) (hen : ∀ y, (en y).length = sz) : ∀ (l : List α) (k : Nat) (h : k < l.length) (i : Nat), i < sz → (l.flatMap en)[k * sz + i]? = (en l[k])[i]?
  | [], k, h, _, _ => absurd h (by simp)
  | d :: D, 0, _, i, hi => by
    rw [List.flatMap_cons, Nat.zero_mul, Nat.zero_add, List.getElem?_append_left (by rw [hen]; exact hi)]
    rfl
  | d :: D, k + 1, h, i, hi => by
    rw [List.flatMap_cons, List.getElem?_append_right (by rw [hen, Nat.succ_mul]; omega), hen, show (k + 1) * sz + i - sz = k * sz + i by rw [Nat.succ_mul]; omega, flatG_get en sz hen D k (by simpa using h) i hi]
    rfl
theorem addS_lit (b off j : Nat) : (⟨b, off, none⟩ : Addr).add j = ⟨b, off + j, none⟩ := by unfold Addr.add; split <;> simp_all
/-- A slice of structs of 'sz' cells each: read as a row. -/
theorem open_rows {α : Type} [Inhabited α] {H : Type} {enc : TypeId × Value → H} {w : World} {fuel : Nat} {v : Value} {x : DataW H × List MemPlace} (en : α → List Value) (sz bytes : Nat) {tS tE : TypeId}
    (hS : Tryz.prog.underlying tS = some (.slice tE)) (hC : Tryz.prog.cellsOf tE = sz) (hB : Tryz.prog.bytesOf tE = bytes) (hen : ∀ y, (en y).length = sz) (hsz : 0 < sz) (hby : 8 ≤ bytes)
    (op : ∀ (fuel : Nat) (cs : List Value) (y : DataW H × List MemPlace), DataW.trod enc Tryz.prog w 0 (fun _ => true) true fuel tE cs = some y → ∃ z : α, cs = en z)
    (h : DataW.trod enc Tryz.prog w 0 (fun _ => true) true fuel tS [v] = some x) (hz : ∀ n ∈ x.1.weights Tryz.prog tS, n ≤ reachBytes) :
    ∃ l : List α, IsRow w sz v l.length (l.flatMap en) ∧ l.length ≤ 140737488355328 := by
  rcases open_slice hS h with ⟨hv, _⟩ | ⟨a, len, cap, m, n, D, Pl, hv, hb, hl, hm, hmm, rfl, hx⟩
  · simp at hv
    subst hv
    exact ⟨[], ⟨by simp, .inl ⟨rfl, _, _, rfl⟩⟩, by simp⟩
  simp at hv
  subst hv
  simp at hmm
  subst hmm
  have key : ∀ i, i < len → ∃ y : α, w.cells? 0 (a.add (i * sz)) sz = some (en y) := by
    intro i hi
    obtain ⟨cs, hc, ht⟩ := hx i (by omega)
    rw [hC] at hc
    obtain ⟨y, rfl⟩ := op _ _ _ ht
    exact ⟨y, hc⟩
  obtain ⟨X, hX⟩ := choose_lt key
  have hlen : len * bytes ≤ reachBytes := by
    have := hz ((len + (m - len)) * bytes) (by simp only [DataW.weights, hS, hB]; simp)
    exact Nat.le_trans (Nat.mul_le_mul_right _ (by omega)) this
  have hlen8 : len * 8 ≤ reachBytes := Nat.le_trans (Nat.mul_le_mul_left _ hby) hlen
  refine ⟨(List.range len).map X, ⟨flatG_len en sz hen _, ?_⟩, ?_⟩
  · simp only [List.length_map, List.length_range]
    by_cases h0 : len = 0
    · subst h0
      exact .inl ⟨rfl, _, _, rfl⟩
    · right
      obtain ⟨b, off, spot⟩ := a
      have hspot : spot = none := by
        have := (World.cells?_some (hX 0 (by omega))).2.2 0 (by omega)
        obtain ⟨u, hu⟩ : ∃ u, (en (X 0))[0]? = some u := ⟨_, List.getElem?_eq_getElem (by rw [hen]; exact hsz)⟩
        rw [hu, Nat.zero_mul] at this
        simpa [Addr.add] using World.cell?_spot this
      subst hspot
      have hcell : ∀ i (hi : i < len) r, r < sz → w.cell? ⟨b, off + (i * sz + r), none⟩ = (en (X i))[r]? := by
        intro i hi r hr
        have := (World.cells?_some (hX i hi)).2.2 r hr
        rw [addS_lit, addS_lit] at this
        rw [← Nat.add_assoc]
        exact this
      refine ⟨b, off, m, rfl, ?_, hl, hm, ?_⟩
      · have := hcell 0 (by omega) 0 hsz
        obtain ⟨u, hu⟩ : ∃ u, (en (X 0))[0]? = some u := ⟨_, List.getElem?_eq_getElem (by rw [hen]; exact hsz)⟩
        rw [hu] at this
        exact block_lt_of_cell this
      · intro j u hu
        have hj : j < len * sz := by
          have := (List.getElem?_eq_some_iff.1 hu).1
          rw [flatG_len en sz hen] at this
          simpa using this
        have hq : j / sz < len := (Nat.div_lt_iff_lt_mul hsz).2 hj
        have hr : j % sz < sz := Nat.mod_lt _ hsz
        have hjj : j = j / sz * sz + j % sz := by rw [Nat.mul_comm]; exact (Nat.div_add_mod j sz).symm
        have hat := flatG_get en sz hen ((List.range len).map X) (j / sz) (by simpa using hq) (j % sz) hr
        simp only [List.getElem_map, List.getElem_range] at hat
        rw [← hjj] at hat
        rw [hat] at hu
        have := hcell (j / sz) hq (j % sz) hr
        rw [← hjj] at this
        rw [this]; exact hu
  · simp; unfold reachBytes at hlen8; omega
end Go.Proofs.YtjamkfkbajhefaaGreatDoor
