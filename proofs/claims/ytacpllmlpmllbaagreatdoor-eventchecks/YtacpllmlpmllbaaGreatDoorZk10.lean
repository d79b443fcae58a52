/- event.ShowID at any identity: its walk. -/
import Derived.Test.YtacpllmlpmllbaaGreatDoorZk7
import Derived.Test.YtacpllmlpmllbaaGreatDoorZk9
import Derived.Lib.ItoaLen
import Derived.Deep.RegionHeld3
import Derived.Shelf.Small.Strs
import Derived.Shelf.Strconv.Atoi
import Derived.Test.YtacpllmlpmllbaaGreatDoorProg
import Derived.Lib.SmallJoins
namespace Go.Proofs.YtacpllmlpmllbaaGreatDoor
open Go.RowKit Go.ChangeMaps

/-- An identity's text plainly. -/
def idT (a b c : Int) : ByteArray := V.str (Lib.itoa a) ++ ⟨#[46]⟩ ++ V.str (Lib.itoa b) ++ ⟨#[46]⟩ ++ V.str (Lib.itoa c)
theorem idB_le {a b c : Int} (h : idB a b c = true) : (1 ≤ a ∧ a ≤ 15) ∧ (1 ≤ b ∧ b ≤ 1099511627775) ∧ 1 ≤ c ∧ c ≤ 1099511627775 := by
  simp only [idB, cntI, Bool.and_eq_true, decide_eq_true_eq] at h
  omega
set_option maxRecDepth 100000 in
set_option maxHeartbeats 4000000 in
theorem showID_any (a b c : Int) (w : World) (hi : idB a b c = true) (hP : V.P10 w) :
    Calls Tryz.prog 21 #[idV a b c] w fun e w' => e = .returned (.string (idT a b c)) ∧ Below w.heap.size w w' := by
  obtain ⟨⟨a1, a2⟩, ⟨b1, b2⟩, c1, c2⟩ := idB_le hi
  obtain ⟨W0, hW0⟩ : ∃ W0, W0 = w.alloc (.cells #[.int .i64 a, .int .i64 b, .int .i64 c] 23) := ⟨_, rfl⟩
  have hB : Below w.heap.size w W0 := by rw [hW0]; exact al_b w _
  have hz : w.heap.size < W0.heap.size := by rw [hW0]; simp
  have hn0 : W0.heap[w.heap.size]? = some (.cells #[.int .i64 a, .int .i64 b, .int .i64 c] 23 (0, 0)) := by
    rw [hW0]
    show (w.heap.push _)[w.heap.size]? = _
    rw [Array.getElem?_push, if_pos rfl]
  have HX : Hid (∀ W, Below W0.heap.size W0 W → W.cell? ⟨w.heap.size, 0, none⟩ = some (.int .i64 a) ∧ W.cell? ⟨w.heap.size, 1, none⟩ = some (.int .i64 b) ∧ W.cell? ⟨w.heap.size, 2, none⟩ = some (.int .i64 c)) := fun W h => by
    have e : ∀ j, W.cell? ⟨w.heap.size, j, none⟩ = (#[.int .i64 a, .int .i64 b, .int .i64 c] : Array Value)[j]? := fun j => by rw [Lib.cell_of_heap ((h.block _ hz).trans hn0)]
    exact ⟨e 0, e 1, e 2⟩
  have HBw : Hid (∀ W, Below W0.heap.size W0 W → Below w.heap.size w W) := fun W h => hB.trans (h.mono hB.size)
  have HI : Hid (∀ W, Calls Tryz.prog 41 #[.agg #[.int .i64 a, .int .i64 b, .int .i64 c]] W fun e w' => e = .returned (.bool true) ∧ Below W.heap.size W w') := fun W => hi ▸ isID_any a b c W
  have HT : Hid (∀ n : Int, -9007199254740991 ≤ n → n ≤ 9007199254740991 → ∀ W, Below w.heap.size w W → Calls Tryz.prog 60 #[.int .i64 n] W fun e w' => e = .returned (.string (V.str (Lib.itoa n))) ∧ Below W.heap.size W w') := fun n h1 h2 W h => V.itoa_any n W h1 h2 (V.P10_below hP h)
  have HTa : Hid (∀ W, Below w.heap.size w W → Calls Tryz.prog 60 #[.int .i64 a] W fun e w' => e = .returned (.string (V.str (Lib.itoa a))) ∧ Below W.heap.size W w') := HT.out a (by omega) (by omega)
  have HTb : Hid (∀ W, Below w.heap.size w W → Calls Tryz.prog 60 #[.int .i64 b] W fun e w' => e = .returned (.string (V.str (Lib.itoa b))) ∧ Below W.heap.size W w') := HT.out b (by omega) (by omega)
  have HTc : Hid (∀ W, Below w.heap.size w W → Calls Tryz.prog 60 #[.int .i64 c] W fun e w' => e = .returned (.string (V.str (Lib.itoa c))) ∧ Below W.heap.size W w') := HT.out c (by omega) (by omega)
  have sz : ∀ n : Int, -9007199254740991 ≤ n → n ≤ 9007199254740991 → (V.str (Lib.itoa n)).size ≤ 21 := fun n h1 h2 => by rw [V.str_size]; exact Lib.itoa_length_le n (by omega) (by omega)
  have sa := sz a (by omega) (by omega)
  have sb := sz b (by omega) (by omega)
  have sc := sz c (by omega) (by omega)
  have HE : Hid (idT a b c = V.str (Lib.itoa a) ++ ⟨#[46]⟩ ++ V.str (Lib.itoa b) ++ ⟨#[46]⟩ ++ V.str (Lib.itoa c)) := rfl
  generalize idT a b c = R at *
  generalize V.str (Lib.itoa a) = A at *
  generalize V.str (Lib.itoa b) = B at *
  generalize V.str (Lib.itoa c) = C at *
  have one : (⟨#[46]⟩ : ByteArray).size = 1 := rfl
  clear sz HT hB hz hn0 hP hi a1 a2 b1 b2 c1 c2
  obtain ⟨p0, p1, p2⟩ := HX.out W0 (Below.refl _ _)
  rw [hW0] at p0 p1 p2
  go_enter Tryz.func21, Tryz.ntmps21
  go_wp2_with fail
  rw [← hW0]
  clear hW0 p0 p1 p2
  refine (HI.out _).mono ?_
  rintro e w1 ⟨rfl, hb⟩
  have Hw1 : Hid (Below W0.heap.size W0 w1) := hb
  clear hb
  go_wp2_with fail
  refine wp_region_quiet (C := fun w' => Below W0.heap.size W0 w') (by kernel_rfl) (by kernel_rfl) (Hw1.out.drew) ?_
  dsimp only
  repeat (first
    | go_big_quiet_skip
    | (go_big_quiet_want
       apply Exists.intro
       refine ⟨fun W' hW' => ?_, ?_⟩
       · have hw : Below W0.heap.size W0 W' := hW'
         obtain ⟨g0, g1, g2⟩ := HX.out W' hw
         go_simp
         first
           | done
           | rfl
           | (rw [if_neg (by (try simp only [ByteArray.size_append, one]); omega)]; exact ⟨rfl, rfl⟩)
           | (go_at_call 60; (first | (with_reducible refine Calls.mono (HTa.out W' (HBw.out W' hw)) ?_) | (with_reducible refine Calls.mono (HTb.out W' (HBw.out W' hw)) ?_) | (with_reducible refine Calls.mono (HTc.out W' (HBw.out W' hw)) ?_)); rintro e w'' ⟨rfl, hb⟩; exact ⟨rfl, hw.trans (hb.mono hw.size)⟩)
       go_big_quiet_on
       try simp only [Act.put, List.setIfInBounds_toArray, List.set_cons_zero, List.set_cons_succ]))
  refine wpQuiet_nil ?_
  intro w2 hqw2
  have HBz : Hid (Below w.heap.size w w2) := HBw.out _ hqw2
  clear hqw2
  go_wp2
  go_ret
  exact ⟨by rw [HE.out]; rfl, HBz.out⟩
end Go.Proofs.YtacpllmlpmllbaaGreatDoor
/- event.Show at any event that may be: its walk. -/
namespace Go.Proofs.YtacpllmlpmllbaaGreatDoor
open Go.RowKit Go.ChangeMaps

/-- An attribute's text behind its blank, plainly. -/
def atT (x : At) : ByteArray := ⟨#[32]⟩ ++ x.n ++ ⟨#[61]⟩ ++ V.shwV x.k x.v x.s
theorem idT_size {a b c : Int} (h : idB a b c = true) : (idT a b c).size ≤ 65 := by
  obtain ⟨⟨a1, a2⟩, ⟨b1, b2⟩, c1, c2⟩ := idB_le h
  have sz : ∀ n : Int, -9007199254740991 ≤ n → n ≤ 9007199254740991 → (V.str (Lib.itoa n)).size ≤ 21 := fun n h1 h2 => by rw [V.str_size]; exact Lib.itoa_length_le n (by omega) (by omega)
  have sa := sz a (by omega) (by omega)
  have sb := sz b (by omega) (by omega)
  have sc := sz c (by omega) (by omega)
  have one : (⟨#[46]⟩ : ByteArray).size = 1 := rfl
  unfold idT
  simp only [ByteArray.size_append, one]
  omega
set_option maxRecDepth 100000 in
set_option maxHeartbeats 4000000 in
theorem evShow_any (a b c : Int) (k : ByteArray) (u : Value) (l : List At) (w : World) (hr : IsRow w 4 u l.length (aCells l)) (hl : l.length ≤ 1000000) (hn : NmA l) (hk : k.size ≤ 1000000) (hsv : ∀ x ∈ l, (atT x).size ≤ 10000000) (hT : UT w) (hM : ML w) (h16 : V.T16 w) (hP : V.P10 w) (hc : chkE a b c k l = true) :
    Calls Tryz.prog 17 #[.agg (evA a b c k u)] w fun e w' => e = .returned (.string (l.foldl (fun s x => s ++ atT x) (idT a b c ++ ⟨#[32]⟩ ++ k))) ∧ Below w.heap.size w w' := by
  obtain ⟨au, cu, rfl⟩ := hr.form
  have hi : idB a b c = true := by simp only [chkE, Bool.and_eq_true] at hc; exact hc.1.1
  obtain ⟨W0, hW0⟩ : ∃ W0, W0 = w.alloc (.cells (evA a b c k (.slice au l.length cu)) 26) := ⟨_, rfl⟩
  have hB : Below w.heap.size w W0 := by rw [hW0]; exact al_b w _
  have hz : w.heap.size < W0.heap.size := by rw [hW0]; simp
  have hn0 : W0.heap[w.heap.size]? = some (.cells (evA a b c k (.slice au l.length cu)) 26 (0, 0)) := by
    rw [hW0]
    show (w.heap.push _)[w.heap.size]? = _
    rw [Array.getElem?_push, if_pos rfl]
  have HX : Hid (∀ W, Below W0.heap.size W0 W → BxV w.heap.size a b c k (.slice au l.length cu) W) := fun W h => BxV.of ((h.block _ hz).trans hn0)
  have HBw : Hid (∀ W, Below W0.heap.size W0 W → Below w.heap.size w W) := fun W h => hB.trans (h.mono hB.size)
  have HQ : Hid (∀ W, Below W0.heap.size W0 W → IsRow W 4 (.slice au l.length cu) l.length (aCells l)) := fun W h => hr.below (HBw.out W h)
  have HC : Hid (∀ W, Below w.heap.size w W → Calls Tryz.prog 11 #[.agg (evA a b c k (.slice au l.length cu))] W fun e w' => e = .returned (.bool true) ∧ Below W.heap.size W w') := fun W h => hc ▸ evCheck_any a b c k _ l W (hr.below h) hl hn hk (Utf8Tabs_below hT h) (ML_below hM h)
  have HI : Hid (∀ W, Below w.heap.size w W → Calls Tryz.prog 21 #[.agg #[.int .i64 a, .int .i64 b, .int .i64 c]] W fun e w' => e = .returned (.string (idT a b c)) ∧ Below W.heap.size W w') := fun W h => showID_any a b c W hi (V.P10_below hP h)
  have hid := idT_size hi
  generalize idT a b c = I at *
  have s32 : (⟨#[32]⟩ : ByteArray).size = 1 := rfl
  clear hc hi hB hz hn0
  obtain ⟨⟨p0, p1, p2⟩, p3, p4⟩ := HX.out W0 (Below.refl _ _)
  rw [hW0] at p0 p1 p2 p3 p4
  go_enter Tryz.func17, Tryz.ntmps17
  go_wp2_with fail
  rw [← hW0]
  refine (HC.out _ (HBw.out _ (Below.refl _ _))).mono ?_
  clear hW0 p0 p1 p2 p3 p4
  rintro e w1 ⟨rfl, hb⟩
  have Hw1 : Hid (Below W0.heap.size W0 w1) := hb
  clear hb
  obtain ⟨W2, hW2⟩ : ∃ W2, W2 = w1.alloc (.cells #[.pointer none, .slice none 0 0] 94) := ⟨_, rfl⟩
  have hz2 : W2.heap.size = w1.heap.size + 1 := by rw [hW2]; simp
  have HI2 : Hid (V.IsB w1.heap.size w1.heap.size [] W2) := by rw [hW2]; exact Lib.IsBuilderF.of (Lib.fresh_isBuilder _ _ w1)
  have H2 : Hid (Below W0.heap.size W0 W2) := by rw [hW2]; exact Hw1.out.trans ((al_b _ _).mono Hw1.out.size)
  have Hd : Hid (Below W2.heap.size W2 W2.drew) := (Below.refl _ _).drew
  have H2d : Hid (Below W0.heap.size W0 W2.drew) := H2.out.drew
  obtain ⟨⟨p0, p1, p2⟩, p3, p4⟩ := HX.out w1 Hw1.out
  go_wp2_with fail
  rw [← hW2]
  clear hW2 p0 p1 p2 p3 p4
  refine wp_region_held_drew (S := fun w' => BxV w.heap.size a b c k (.slice au l.length cu) w') (by kernel_rfl) (HX.out _ H2d.out) (fun hHeld => ?_)
  refine wpAnyH_take (i := 0) (v := ?_) rfl (by kernel_rfl) (by kernel_rfl) (by kernel_rfl) (fun _ _ _ h => h) (Or.inl ⟨by rfl, ?_⟩) hHeld ?_
  rotate_left 1
  · intro w9 hSw; obtain ⟨⟨g0, g1, g2⟩, g3, g4⟩ := hSw; go_simp; try with_reducible rfl
  change wpAnyH _ _ _ _ _ _ _ (Act.put _ (some 9) _) _
  simp only [Act.put, List.setIfInBounds_toArray, List.set_cons_zero, List.set_cons_succ]
  refine wpAnyH_take (i := 1) (v := ?_) rfl (by kernel_rfl) (by kernel_rfl) (by kernel_rfl) (fun _ _ _ h => h) (Or.inl ⟨by rfl, ?_⟩) hHeld ?_
  rotate_left 1
  · intro w9 hSw; obtain ⟨⟨g0, g1, g2⟩, g3, g4⟩ := hSw; go_simp; try with_reducible rfl
  change wpAnyH _ _ _ _ _ _ _ (Act.put _ (some 10) _) _
  simp only [Act.put, List.setIfInBounds_toArray, List.set_cons_zero, List.set_cons_succ]
  refine wpAnyH_take (i := 4) (v := ?_) rfl (by kernel_rfl) (by kernel_rfl) (by kernel_rfl) (fun _ _ _ h => h) (Or.inl ⟨by rfl, ?_⟩) hHeld ?_
  rotate_left 1
  · intro w9 hSw; obtain ⟨⟨g0, g1, g2⟩, g3, g4⟩ := hSw; go_simp; try with_reducible rfl
  change wpAnyH _ _ _ _ _ _ _ (Act.put _ (some 13) _) _
  simp only [Act.put, List.setIfInBounds_toArray, List.set_cons_zero, List.set_cons_succ]
  refine wpAnyH_take (i := 5) (v := ?_) rfl (by kernel_rfl) (by kernel_rfl) (by kernel_rfl) (fun _ _ _ h => h) (Or.inl ⟨by rfl, ?_⟩) hHeld ?_
  rotate_left 1
  · intro w9 hSw; obtain ⟨⟨g0, g1, g2⟩, g3, g4⟩ := hSw; go_simp; try with_reducible rfl
  change wpAnyH _ _ _ _ _ _ _ (Act.put _ (some 14) _) _
  simp only [Act.put, List.setIfInBounds_toArray, List.set_cons_zero, List.set_cons_succ]
  refine wpAnyH_ready (rs := [2]) (by kernel_rfl) (by simp) ?_
  refine AllReadyH.cons rfl (fun K hK => ?_) AllReadyH.nil
  go_simp
  refine (HI.out _ (HBw.out _ H2d.out)).mono ?_
  rintro e w3 ⟨rfl, hb3⟩
  have H3 : Hid (Below W0.heap.size W0 w3) := H2d.out.trans (hb3.mono H2d.out.size)
  have H3b : Hid (Below W2.heap.size W2 w3) := Hd.out.trans (hb3.mono Hd.out.size)
  clear hb3
  go_simp
  refine hK.out _ _ (HX.out _ H3.out) (fun hHeld => ?_)
  clear hK K
  refine wpAnyH_take (i := 3) (v := ?_) rfl (by kernel_rfl) (by kernel_rfl) (by kernel_rfl) (fun _ _ _ h => h) (Or.inl ⟨by rfl, ?_⟩) hHeld ?_
  rotate_left 1
  · intro w9 hSw; go_simp; rw [if_neg (by (try simp only [ByteArray.size_append, s32]); omega)]
  change wpAnyH _ _ _ _ _ _ _ (Act.put _ (some 12) _) _
  simp only [Act.put, List.setIfInBounds_toArray, List.set_cons_zero, List.set_cons_succ]
  refine wpAnyH_take (i := 6) (v := ?_) rfl (by kernel_rfl) (by kernel_rfl) (by kernel_rfl) (fun _ _ _ h => h) (Or.inl ⟨by rfl, ?_⟩) hHeld ?_
  rotate_left 1
  · intro w9 hSw; go_simp; rw [if_neg (by (try simp only [ByteArray.size_append, s32]); omega)]
  change wpAnyH _ _ _ _ _ _ _ (Act.put _ (some 15) _) _
  simp only [Act.put, List.setIfInBounds_toArray, List.set_cons_zero, List.set_cons_succ]
  refine wpAnyH_ready (rs := [7]) (by kernel_rfl) (by simp) ?_
  refine AllReadyH.cons rfl (fun K hK => ?_) AllReadyH.nil
  go_simp
  refine (V.writeString_k w1.heap.size w1.heap.size [] _ w3 (V.IsB_below HI2.out H3b.out) (by simp only [List.length_nil, ByteArray.size_append, s32]; omega) (Nat.le_trans (by omega) H3b.out.size)).mono ?_
  rintro e w4 ⟨rfl, hI4, hb4, ok4⟩
  have H4 : Hid (Below W0.heap.size W0 w4) := H3.out.trans (hb4.mono Hw1.out.size)
  have HI4 : Hid (V.IsB w1.heap.size w1.heap.size (Lib.strCells (I ++ ⟨#[32]⟩ ++ k)) w4) := hI4
  have hz4 : w1.heap.size < w4.heap.size := Nat.lt_of_lt_of_le (Nat.lt_of_lt_of_le (by omega) H3b.out.size) hb4.size
  clear hb4 hI4 ok4
  go_simp
  refine hK.out _ _ (HX.out _ H4.out) (fun hHeld => ?_)
  clear hK K
  refine wpAnyH_done (by kernel_rfl) ?_ _
  clear hHeld HI HC HI2 H2 Hd H2d H3 H3b
  obtain ⟨-, -, p4⟩ := HX.out w4 H4.out
  go_wp2_with fail
  clear p4
  generalize hF0 : I ++ ⟨#[32]⟩ ++ k = F0 at *
  have hF0s : F0.size ≤ 1000100 := by rw [← hF0]; simp only [ByteArray.size_append, s32]; omega
  have HPs : Hid (∀ j, j ≤ l.length → ((l.take j).foldl (fun s x => s ++ atT x) F0).size ≤ 1000100 + j * 10000000) := fun j => by
    induction j with
    | zero => intro _; simp; omega
    | succ j ih =>
      intro h
      rw [List.take_succ_eq_append_getElem h, List.foldl_append]
      have := ih (by omega)
      have h2 := hsv _ (List.getElem_mem (l := l) (n := j) h)
      simp only [List.foldl_cons, List.foldl_nil, ByteArray.size_append]
      omega
  have HPn : Hid (∀ (j : Nat) (hj : j < l.length), (l.take (j + 1)).foldl (fun s x => s ++ atT x) F0 = (l.take j).foldl (fun s x => s ++ atT x) F0 ++ atT l[j]) := fun j hj => by
    show _ = _
    rw [List.take_succ_eq_append_getElem hj, List.foldl_append]
    rfl
  have HPe : Hid ((l.take l.length).foldl (fun s x => s ++ atT x) F0 = l.foldl (fun s x => s ++ atT x) F0) := by show _ = _; rw [List.take_length]
  have HI4' : Hid (V.IsB w1.heap.size w1.heap.size (Lib.strCells ((l.take 0).foldl (fun s x => s ++ atT x) F0)) w4) := HI4.out
  have HV : Hid (∀ (j : Nat) (hj : j < l.length) W, Below w.heap.size w W → Calls Tryz.prog 53 #[.agg #[.int .i64 l[j].k, .int .i64 l[j].v, .string l[j].s]] W fun e w' => e = .returned (.string (V.shwV l[j].k l[j].v l[j].s)) ∧ Below W.heap.size W w') := fun j hj W h => V.show_any _ _ _ W (hn _ (List.getElem_mem hj)).2 (Utf8Tabs_below hT h) (V.T16_below h16 h) (V.P10_below hP h)
  have HS : Hid (∀ (j : Nat) (hj : j < l.length), (atT l[j]).size ≤ 10000000) := fun j hj => hsv _ (List.getElem_mem hj)
  have HF0 : Hid (I ++ ⟨#[32]⟩ ++ k = F0) := hF0
  clear HI4 hsv hn hT h16 hP hM hr hF0 hk hid
  go_loopw [5, 20] (fun _ i wr => ∃ j : Nat, j ≤ l.length ∧ i = .int .i64 (j : Int) ∧ Hid (V.IsB w1.heap.size w1.heap.size (Lib.strCells ((l.take j).foldl (fun s x => s ++ atT x) F0)) wr) ∧ Hid (Below W0.heap.size W0 wr) ∧ w1.heap.size < wr.heap.size) (fun _ i _ => l.length - (intOf i).toNat)
  case atStart => exact ⟨0, Nat.zero_le _, rfl, HI4', H4, hz4⟩
  case round =>
    obtain ⟨j, hj, rfl, HO, HB, hzr⟩ := hrel
    have hsz := HB.out.size
    have hps := HPs.out j hj
    by_cases hlk : j < l.length
    · have dk : decide ((j : Int) < (l.length : Int)) = true := by simp; omega
      obtain ⟨bb, off, rfl, hlt, hcap, hc⟩ := a_at (HQ.out wr HB.out) (by omega)
      obtain ⟨y0, y1, y2, y3⟩ := hc j hlk
      obtain ⟨W3, hW3⟩ : ∃ W3, W3 = wr.alloc (.cells #[.string l[j].n, .int .i64 l[j].k, .int .i64 l[j].v, .string l[j].s] 78) := ⟨_, rfl⟩
      have hb1 : Below wr.heap.size wr W3 := by rw [hW3]; exact al_b _ _
      have hn2 : W3.heap[wr.heap.size]? = some (.cells #[.string l[j].n, .int .i64 l[j].k, .int .i64 l[j].v, .string l[j].s] 78 (0, 0)) := by rw [hW3]; exact new_at _ _
      have H3 : Hid (Below W0.heap.size W0 W3) := HB.out.trans (hb1.mono hsz)
      have H3b : Hid (Below wr.heap.size wr W3.drew) := hb1.drew
      have H3d : Hid (Below W0.heap.size W0 W3.drew) := H3.out.drew
      have hz3 : wr.heap.size < W3.heap.size := (Array.getElem?_eq_some_iff.1 hn2).1
      have HVj : Hid (Calls Tryz.prog 53 #[.agg #[.int .i64 l[j].k, .int .i64 l[j].v, .string l[j].s]] W3.drew fun e w' => e = .returned (.string (V.shwV l[j].k l[j].v l[j].s)) ∧ Below W3.drew.heap.size W3.drew w') := HV.out j hlk _ (HBw.out _ H3d.out)
      have HCe : Hid (∀ W, Below W3.heap.size W3 W → W.cell? ⟨wr.heap.size, 0, none⟩ = some (.string l[j].n) ∧ W.cell? ⟨wr.heap.size, 1, none⟩ = some (.int .i64 l[j].k) ∧ W.cell? ⟨wr.heap.size, 2, none⟩ = some (.int .i64 l[j].v) ∧ W.cell? ⟨wr.heap.size, 3, none⟩ = some (.string l[j].s)) := fun W h => by
        have e : ∀ i, W.cell? ⟨wr.heap.size, i, none⟩ = (#[.string l[j].n, .int .i64 l[j].k, .int .i64 l[j].v, .string l[j].s] : Array Value)[i]? := fun i => by rw [Lib.cell_of_heap ((h.block _ (Array.getElem?_eq_some_iff.1 hn2).1).trans hn2)]
        exact ⟨e 0, e 1, e 2, e 3⟩
      have HN2 : Hid (∀ W, Below W3.heap.size W3 W → W.heap[wr.heap.size]? = some (.cells #[.string l[j].n, .int .i64 l[j].k, .int .i64 l[j].v, .string l[j].s] 78 (0, 0))) := fun W h => (h.block _ (Array.getElem?_eq_some_iff.1 hn2).1).trans hn2
      have HCd : Hid (Below W3.heap.size W3 W3.drew) := (Below.refl _ _).drew
      have HKj : Hid ((l.take (j + 1)).foldl (fun s x => s ++ atT x) F0 = (l.take j).foldl (fun s x => s ++ atT x) F0 ++ atT l[j]) := HPn.out j hlk
      have hsj := HS.out j hlk
      obtain ⟨P', HPx⟩ : ∃ P', Hid (P' = (l.take (j + 1)).foldl (fun s x => s ++ atT x) F0) := ⟨_, rfl⟩
      rw [← HPx.out] at HKj
      have HPx' : Hid (∀ W, V.IsB w1.heap.size w1.heap.size (Lib.strCells P') W → V.IsB w1.heap.size w1.heap.size (Lib.strCells ((l.take (j + 1)).foldl (fun s x => s ++ atT x) F0)) W) := fun W h => by rw [← HPx.out]; exact h
      clear HPx
      generalize (l.take j).foldl (fun s x => s ++ atT x) F0 = P at *
      generalize l[j]'hlk = x at *
      obtain ⟨xn, xk, xv, xs⟩ := x
      dsimp only at *
      have hat : atT ⟨xn, xk, xv, xs⟩ = ⟨#[32]⟩ ++ xn ++ ⟨#[61]⟩ ++ V.shwV xk xv xs := rfl
      rw [hat] at hsj HKj
      generalize V.shwV xk xv xs = Y at *
      have s61 : (⟨#[61]⟩ : ByteArray).size = 1 := rfl
      simp only [ByteArray.size_append, s32, s61] at hsj
      clear hat hc HV HPs HPn HPe HS HQ hb1 hn2
      go_wp2_with fail
      rw [← hW3]
      clear hW3 y0 y1 y2 y3
      refine wp_region_held_drew (S := fun w' => w'.cell? ⟨wr.heap.size, 0, none⟩ = some (.string xn) ∧ w'.cell? ⟨wr.heap.size, 1, none⟩ = some (.int .i64 xk) ∧ w'.cell? ⟨wr.heap.size, 2, none⟩ = some (.int .i64 xv) ∧ w'.cell? ⟨wr.heap.size, 3, none⟩ = some (.string xs)) (by kernel_rfl) (HCe.out _ HCd.out) (fun hHeld => ?_)
      refine wpAnyH_take (i := 0) (v := ?_) rfl (by kernel_rfl) (by kernel_rfl) (by kernel_rfl) (fun _ _ _ h => h) (Or.inl ⟨by rfl, ?_⟩) hHeld ?_
      rotate_left 1
      · intro w9 hSw; obtain ⟨g0, g1, g2, g3⟩ := hSw; go_simp; try with_reducible rfl
      change wpAnyH _ _ _ _ _ _ _ (Act.put _ (some 24) _) _
      simp only [Act.put, List.setIfInBounds_toArray, List.set_cons_zero, List.set_cons_succ]
      refine wpAnyH_take (i := 1) (v := ?_) rfl (by kernel_rfl) (by kernel_rfl) (by kernel_rfl) (fun _ _ _ h => h) (Or.inl ⟨by rfl, ?_⟩) hHeld ?_
      rotate_left 1
      · intro w9 hSw; obtain ⟨g0, g1, g2, g3⟩ := hSw; go_simp; try with_reducible rfl
      change wpAnyH _ _ _ _ _ _ _ (Act.put _ (some 25) _) _
      simp only [Act.put, List.setIfInBounds_toArray, List.set_cons_zero, List.set_cons_succ]
      refine wpAnyH_take (i := 2) (v := ?_) rfl (by kernel_rfl) (by kernel_rfl) (by kernel_rfl) (fun _ _ _ h => h) (Or.inl ⟨by rfl, ?_⟩) hHeld ?_
      rotate_left 1
      · intro w9 hSw; go_simp; rw [if_neg (by (try simp only [ByteArray.size_append, s32, s61]); omega)]
      change wpAnyH _ _ _ _ _ _ _ (Act.put _ (some 26) _) _
      simp only [Act.put, List.setIfInBounds_toArray, List.set_cons_zero, List.set_cons_succ]
      refine wpAnyH_take (i := 3) (v := ?_) rfl (by kernel_rfl) (by kernel_rfl) (by kernel_rfl) (fun _ _ _ h => h) (Or.inl ⟨by rfl, ?_⟩) hHeld ?_
      rotate_left 1
      · intro w9 hSw; go_simp; rw [if_neg (by (try simp only [ByteArray.size_append, s32, s61]); omega)]
      change wpAnyH _ _ _ _ _ _ _ (Act.put _ (some 27) _) _
      simp only [Act.put, List.setIfInBounds_toArray, List.set_cons_zero, List.set_cons_succ]
      refine wpAnyH_take (i := 4) (v := ?_) rfl (by kernel_rfl) (by kernel_rfl) (by kernel_rfl) (fun _ _ _ h => h) (Or.inl ⟨by rfl, ?_⟩) hHeld ?_
      rotate_left 1
      · intro w9 hSw; obtain ⟨g0, g1, g2, g3⟩ := hSw; go_simp; try with_reducible rfl
      change wpAnyH _ _ _ _ _ _ _ (Act.put _ (some 28) _) _
      simp only [Act.put, List.setIfInBounds_toArray, List.set_cons_zero, List.set_cons_succ]
      refine wpAnyH_take (i := 5) (v := ?_) rfl (by kernel_rfl) (by kernel_rfl) (by kernel_rfl) (fun _ _ _ h => h) (Or.inl ⟨by rfl, ?_⟩) hHeld ?_
      rotate_left 1
      · intro w9 hSw; obtain ⟨g0, g1, g2, g3⟩ := hSw; go_simp; try with_reducible rfl
      change wpAnyH _ _ _ _ _ _ _ (Act.put _ (some 29) _) _
      simp only [Act.put, List.setIfInBounds_toArray, List.set_cons_zero, List.set_cons_succ]
      refine wpAnyH_ready (rs := [6]) (by kernel_rfl) (by simp) ?_
      refine AllReadyH.cons rfl (fun K hK => ?_) AllReadyH.nil
      go_simp
      refine (HVj.out).mono ?_
      rintro e w5 ⟨rfl, hb5⟩
      have H5 : Hid (Below W0.heap.size W0 w5) := H3d.out.trans (hb5.mono H3d.out.size)
      have H5b : Hid (Below wr.heap.size wr w5) := H3b.out.trans (hb5.mono H3b.out.size)
      have H5c : Hid (Below W3.heap.size W3 w5) := HCd.out.trans (hb5.mono HCd.out.size)
      clear hb5
      go_simp
      refine hK.out _ _ (HCe.out _ H5c.out) (fun hHeld => ?_)
      clear hK K
      refine wpAnyH_take (i := 7) (v := ?_) rfl (by kernel_rfl) (by kernel_rfl) (by kernel_rfl) (fun _ _ _ h => h) (Or.inl ⟨by rfl, ?_⟩) hHeld ?_
      rotate_left 1
      · intro w9 hSw; go_simp; rw [if_neg (by (try simp only [ByteArray.size_append, s32, s61]); omega)]
      change wpAnyH _ _ _ _ _ _ _ (Act.put _ (some 31) _) _
      simp only [Act.put, List.setIfInBounds_toArray, List.set_cons_zero, List.set_cons_succ]
      refine wpAnyH_ready (rs := [8]) (by kernel_rfl) (by simp) ?_
      refine AllReadyH.cons rfl (fun K hK => ?_) AllReadyH.nil
      go_simp
      refine (V.writeString_k w1.heap.size w1.heap.size _ _ w5 (V.IsB_below HO.out H5b.out) (by rw [Lib.strCells_eq, Lib.byteCells_length, Array.length_toList]; have e : P.data.size = P.size := rfl; simp only [ByteArray.size_append, s32, s61]; omega) (Nat.le_trans (by omega) H5b.out.size)).mono ?_
      rintro e w6 ⟨rfl, hI6, hb6, ok6⟩
      have H6 : Hid (Below W0.heap.size W0 w6) := H5.out.trans (hb6.mono Hw1.out.size)
      have HI6 : Hid (V.IsB w1.heap.size w1.heap.size (Lib.strCells P') w6) := by
        show V.IsB _ _ _ _
        have e : Lib.strCells P' = Lib.strCells P ++ Lib.strCells (⟨#[32]⟩ ++ xn ++ ⟨#[61]⟩ ++ Y) := by
          rw [HKj.out, Lib.strCells_eq, Lib.strCells_eq, Lib.strCells_eq, ← Lib.byteCells_append]
          congr 1
          first | done | rw [ByteArray.data_append, Array.toList_append]
        rw [e]
        exact hI6
      have hz6 : w1.heap.size < w6.heap.size := Nat.lt_of_lt_of_le (Nat.lt_of_lt_of_le hzr H5b.out.size) hb6.size
      have HC6 : Hid (w6.cell? ⟨wr.heap.size, 0, none⟩ = some (.string xn) ∧ w6.cell? ⟨wr.heap.size, 1, none⟩ = some (.int .i64 xk) ∧ w6.cell? ⟨wr.heap.size, 2, none⟩ = some (.int .i64 xv) ∧ w6.cell? ⟨wr.heap.size, 3, none⟩ = some (.string xs)) := by
        have h6 := ok6 _ _ (HN2.out w5 H5c.out) (by intro h; injection h with h; omega) (by intro c fz h; simp at h)
        have e : ∀ i, w6.cell? ⟨wr.heap.size, i, none⟩ = (#[.string xn, .int .i64 xk, .int .i64 xv, .string xs] : Array Value)[i]? := fun i => by rw [Lib.cell_of_heap h6]
        exact ⟨e 0, e 1, e 2, e 3⟩
      clear hb6 hI6 ok6
      go_simp
      refine hK.out _ _ (HC6.out) (fun hHeld => ?_)
      clear hK K
      refine wpAnyH_done (by kernel_rfl) ?_ _
      clear hHeld
      go_wp2
      go_roundw
      case rel => exact ⟨j + 1, by omega, by simp, HPx'.out _ HI6.out, H6, hz6⟩
      case measure => simp [intOf]; omega
    · have hj' : j = l.length := by omega
      have dk : decide ((j : Int) < (l.length : Int)) = false := by simp; omega
      subst hj'
      have hO := HO.out
      rw [HPe.out, Lib.strCells_eq] at hO
      have HBz : Hid (∀ w', Below w1.heap.size wr w' → Below w.heap.size w w') := fun w' h => HBw.out _ (HB.out.trans (h.mono Hw1.out.size))
      clear HV HPs HPn HPe HS HQ HO HB
      go_wp2_with fail
      refine (Tryz.Builder_String_any_k w1.heap.size w1.heap.size _ _ hO (by omega)).mono ?_
      rintro e w5 ⟨rfl, hI5, hb5, ok5⟩
      have HBy : Hid (Below w.heap.size w w5) := HBz.out _ hb5
      clear hI5 hb5 ok5 hO
      go_wp2
      go_ret
      exact ⟨by rw [HF0.out]; rfl, HBy.out⟩
end Go.Proofs.YtacpllmlpmllbaaGreatDoor
/- The shelf's contract of strconv.Atoi, at this program, laid by the shelf's tool in plain words. -/
namespace Go.Proofs
open Go.Shelf
def Tryz.lays172_ren : Go.Shelf.Ren := ⟨fun | 172 => 124 | 244 => 183 | 245 => 184 | 247 => 222 | 279 => 223 | 280 => 224 | 281 => 225 | 282 => 226 | 287 => 243 | 316 => 244 | 171 => 60 | 205 => 245 | 321 => 252 | 322 => 253 | 243 => 108 | 246 => 154 | 283 => 198 | 284 => 199 | 285 => 200 | 286 => 201 | 129 => 164 | 317 => 230 | 318 => 231 | 319 => 232 | 320 => 151 | 337 => 195 | 338 => 196 | n => n, fun | 9 => 9 | 3 => 3 | 75 => 96 | 76 => 97 | 4 => 4 | 5 => 5 | 167 => 236 | 37 => 92 | 0 => 0 | 85 => 237 | 2 => 2 | 168 => 239 | 53 => 152 | 175 => 264 | 46 => 153 | 210 => 267 | 127 => 148 | 145 => 276 | 143 => 274 | 21 => 21 | 171 => 221 | 173 => 223 | 212 => 249 | 51 => 193 | 20 => 20 | 213 => 250 | 232 => 246 | 233 => 247 | 80 => 100 | n => n, fun | 15 => 6 | 16 => 7 | 17 => 5 | 18 => 3 | 19 => 4 | n => n⟩
theorem Tryz.lays172 : Go.Proofs.Lays.n172 Tryz.prog Tryz.lays172_ren := {
  mixed := by kernel_rfl
  f129 := Tryz.func164.trans (congrArg some (by kernel_rfl))
  f171 := Tryz.func60.trans (congrArg some (by kernel_rfl))
  f172 := Tryz.func124.trans (congrArg some (by kernel_rfl))
  f205 := Tryz.func245.trans (congrArg some (by kernel_rfl))
  f243 := Tryz.func108.trans (congrArg some (by kernel_rfl))
  f244 := Tryz.func183.trans (congrArg some (by kernel_rfl))
  f245 := Tryz.func184.trans (congrArg some (by kernel_rfl))
  f246 := Tryz.func154.trans (congrArg some (by kernel_rfl))
  f247 := Tryz.func222.trans (congrArg some (by kernel_rfl))
  f279 := Tryz.func223.trans (congrArg some (by kernel_rfl))
  f280 := Tryz.func224.trans (congrArg some (by kernel_rfl))
  f281 := Tryz.func225.trans (congrArg some (by kernel_rfl))
  f282 := Tryz.func226.trans (congrArg some (by kernel_rfl))
  f283 := Tryz.func198.trans (congrArg some (by kernel_rfl))
  f284 := Tryz.func199.trans (congrArg some (by kernel_rfl))
  f285 := Tryz.func200.trans (congrArg some (by kernel_rfl))
  f286 := Tryz.func201.trans (congrArg some (by kernel_rfl))
  f287 := Tryz.func243.trans (congrArg some (by kernel_rfl))
  f316 := Tryz.func244.trans (congrArg some (by kernel_rfl))
  f317 := Tryz.func230.trans (congrArg some (by kernel_rfl))
  f318 := Tryz.func231.trans (congrArg some (by kernel_rfl))
  f319 := Tryz.func232.trans (congrArg some (by kernel_rfl))
  f320 := Tryz.func151.trans (congrArg some (by kernel_rfl))
  f321 := Tryz.func252.trans (congrArg some (by kernel_rfl))
  f322 := Tryz.func253.trans (congrArg some (by kernel_rfl))
  f337 := Tryz.func195.trans (congrArg some (by kernel_rfl))
  f338 := Tryz.func196.trans (congrArg some (by kernel_rfl))
  t0 := Tryz.underlying0
  a0 := Tryz.isAgg0
  z0 := Tryz.sizeOf0
  v0 := Tryz.zeroValue0
  t2 := Tryz.underlying2
  a2 := Tryz.isAgg2
  z2 := Tryz.sizeOf2
  v2 := Tryz.zeroValue2
  t3 := Tryz.underlying3
  a3 := Tryz.isAgg3
  z3 := Tryz.sizeOf3
  v3 := Tryz.zeroValue3
  t4 := Tryz.underlying4
  a4 := Tryz.isAgg4
  z4 := Tryz.sizeOf4
  v4 := Tryz.zeroValue4
  t5 := Tryz.underlying5
  a5 := Tryz.isAgg5
  z5 := Tryz.sizeOf5
  v5 := Tryz.zeroValue5
  t9 := Tryz.underlying9
  a9 := Tryz.isAgg9
  z9 := Tryz.sizeOf9
  v9 := Tryz.zeroValue9
  t20 := Tryz.underlying20
  a20 := Tryz.isAgg20
  z20 := Tryz.sizeOf20
  v20 := Tryz.zeroValue20
  t21 := Tryz.underlying21
  a21 := Tryz.isAgg21
  z21 := Tryz.sizeOf21
  v21 := Tryz.zeroValue21
  t37 := Tryz.underlying92
  a37 := Tryz.isAgg92
  z37 := Tryz.sizeOf92
  v37 := Tryz.zeroValue92
  t46 := Tryz.underlying153
  a46 := Tryz.isAgg153
  z46 := Tryz.sizeOf153
  v46 := Tryz.zeroValue153
  t51 := Tryz.underlying193
  a51 := Tryz.isAgg193
  z51 := Tryz.sizeOf193
  v51 := Tryz.zeroValue193
  t53 := Tryz.underlying152
  a53 := Tryz.isAgg152
  z53 := Tryz.sizeOf152
  v53 := Tryz.zeroValue152
  t75 := Tryz.underlying96
  a75 := Tryz.isAgg96
  z75 := Tryz.sizeOf96
  v75 := Tryz.zeroValue96
  t76 := Tryz.underlying97
  a76 := Tryz.isAgg97
  z76 := Tryz.sizeOf97
  v76 := Tryz.zeroValue97
  t85 := Tryz.underlying237
  a85 := Tryz.isAgg237
  z85 := Tryz.sizeOf237
  v85 := Tryz.zeroValue237
  t127 := Tryz.underlying148
  a127 := Tryz.isAgg148
  z127 := Tryz.sizeOf148
  v127 := Tryz.zeroValue148
  t143 := Tryz.underlying274
  a143 := Tryz.isAgg274
  z143 := Tryz.sizeOf274
  v143 := Tryz.zeroValue274
  t145 := Tryz.underlying276
  a145 := Tryz.isAgg276
  z145 := Tryz.sizeOf276
  v145 := Tryz.zeroValue276
  t167 := Tryz.underlying236
  a167 := Tryz.isAgg236
  z167 := Tryz.sizeOf236
  v167 := Tryz.zeroValue236
  t168 := Tryz.underlying239
  a168 := Tryz.isAgg239
  z168 := Tryz.sizeOf239
  v168 := Tryz.zeroValue239
  t171 := Tryz.underlying221
  a171 := Tryz.isAgg221
  z171 := Tryz.sizeOf221
  v171 := Tryz.zeroValue221
  t173 := Tryz.underlying223
  a173 := Tryz.isAgg223
  z173 := Tryz.sizeOf223
  v173 := Tryz.zeroValue223
  t175 := Tryz.underlying264
  a175 := Tryz.isAgg264
  z175 := Tryz.sizeOf264
  v175 := Tryz.zeroValue264
  t210 := Tryz.underlying267
  a210 := Tryz.isAgg267
  z210 := Tryz.sizeOf267
  v210 := Tryz.zeroValue267
  t212 := Tryz.underlying249
  a212 := Tryz.isAgg249
  z212 := Tryz.sizeOf249
  v212 := Tryz.zeroValue249
  t213 := Tryz.underlying250
  a213 := Tryz.isAgg250
  z213 := Tryz.sizeOf250
  t232 := Tryz.underlying246
  a232 := Tryz.isAgg246
  z232 := Tryz.sizeOf246
  v232 := Tryz.zeroValue246
  t233 := Tryz.underlying247
  a233 := Tryz.isAgg247
  z233 := Tryz.sizeOf247
  v233 := Tryz.zeroValue247
  g15 := by kernel_rfl
  g16 := by kernel_rfl
  g17 := by kernel_rfl
  g18 := by kernel_rfl
  g19 := by kernel_rfl }
open Go.RowKit in
theorem Tryz.strconv_Atoi (s : ByteArray) (n : Int) (hl : s.size ≤ 18) (h : Lib.atoi s.data.toList = some n) (w : World) :
    Calls Tryz.prog 124 #[.string s] w fun e w' => e = .returned (.tuple #[.int .i64 n, .nilIface]) ∧ ∃ t, w' = Lib.bytesWorld w 5 t := Any.strconv_Atoi Tryz.lays172 s n hl h w
end Go.Proofs
/- event.number and event.ParseID at the example: walks. -/
namespace Go.Proofs.YtacpllmlpmllbaaGreatDoor
open Go.RowKit Go.ChangeMaps

set_option maxRecDepth 100000 in
theorem number_ok (s : ByteArray) (n : Int) (w : World) (hl : s.size ≤ 18) (h : Lib.atoi s.data.toList = some n) :
    Calls Tryz.prog 75 #[.string s] w fun e w' => e = .returned (.int .i64 n) ∧ Below w.heap.size w w' := by
  have HA := Tryz.strconv_Atoi s n hl h w
  have HA' : Hid (Calls Tryz.prog 124 #[.string s] w fun e w' => e = .returned (.tuple #[.int .i64 n, .nilIface]) ∧ Below w.heap.size w w') := HA.mono (by
    rintro e w' ⟨rfl, t, rfl⟩
    exact ⟨rfl, Go.Joins.below_bytesWorld _ w _ t (Nat.le_refl _)⟩)
  clear HA hl h
  go_enter Tryz.func75, Tryz.ntmps75
  go_wp2_with fail
  refine HA'.out.mono ?_
  rintro e w1 ⟨rfl, hb⟩
  have HB : Hid (Below w.heap.size w w1) := hb
  clear hb HA'
  go_wp2
  go_ret
  exact ⟨rfl, HB.out⟩
theorem cut_any6 (s sep : ByteArray) (w : World) (hs : s.size ≤ 1000000) (hM : ML w) :
    Calls Tryz.prog 74 #[.string s, .string sep] w fun e w' => e = .returned (.tuple #[.string ⟨(Lib.cut s.data.toList sep.data.toList).1.toArray⟩, .string ⟨(Lib.cut s.data.toList sep.data.toList).2.1.toArray⟩, .bool (Lib.cut s.data.toList sep.data.toList).2.2]) ∧ Below w.heap.size w w' := by
  obtain ⟨m, hm⟩ := hM
  refine (Tryz.strings_Cut s sep m w (by omega) hm).mono ?_
  rintro e w' ⟨rfl, n, rfl⟩
  exact ⟨rfl, below_dN (Below.refl _ _) n⟩
theorem ex_cut1 : Lib.cut [50, 46, 49, 46, 55] [46] = ([50], [49, 46, 55], true) := by decide
theorem ex_cut2 : Lib.cut [49, 46, 55] [46] = ([49], [55], true) := by decide
theorem ex_idT : idT 2 1 7 = ⟨#[50, 46, 49, 46, 55]⟩ := by kernel_rfl
theorem ex_at2 : Lib.atoi [50] = some 2 := by decide
theorem ex_at1 : Lib.atoi [49] = some 1 := by decide
theorem ex_at7 : Lib.atoi [55] = some 7 := by decide
set_option maxRecDepth 100000 in
set_option maxHeartbeats 2000000 in
theorem parseID_ex (w : World) (hM : ML w) (hP : V.P10 w) :
    Calls Tryz.prog 34 #[.string ⟨#[50, 46, 49, 46, 55]⟩] w fun e w' => e = .returned (.tuple #[idV 2 1 7, .int .i64 0]) ∧ Below w.heap.size w w' := by
  have HC1 : Hid (∀ W, Below w.heap.size w W → Calls Tryz.prog 74 #[.string ⟨#[50, 46, 49, 46, 55]⟩, .string ⟨#[46]⟩] W fun e w' => e = .returned (.tuple #[.string ⟨#[50]⟩, .string ⟨#[49, 46, 55]⟩, .bool true]) ∧ Below W.heap.size W w') := fun W h => by
    have := cut_any6 ⟨#[50, 46, 49, 46, 55]⟩ ⟨#[46]⟩ W (by decide) (ML_below hM h)
    rw [show (⟨#[50, 46, 49, 46, 55]⟩ : ByteArray).data.toList = [50, 46, 49, 46, 55] from rfl, show (⟨#[46]⟩ : ByteArray).data.toList = [46] from rfl, ex_cut1] at this
    exact this
  have HC2 : Hid (∀ W, Below w.heap.size w W → Calls Tryz.prog 74 #[.string ⟨#[49, 46, 55]⟩, .string ⟨#[46]⟩] W fun e w' => e = .returned (.tuple #[.string ⟨#[49]⟩, .string ⟨#[55]⟩, .bool true]) ∧ Below W.heap.size W w') := fun W h => by
    have := cut_any6 ⟨#[49, 46, 55]⟩ ⟨#[46]⟩ W (by decide) (ML_below hM h)
    rw [show (⟨#[49, 46, 55]⟩ : ByteArray).data.toList = [49, 46, 55] from rfl, show (⟨#[46]⟩ : ByteArray).data.toList = [46] from rfl, ex_cut2] at this
    exact this
  have HN2 : Hid (∀ W, Calls Tryz.prog 75 #[.string ⟨#[50]⟩] W fun e w' => e = .returned (.int .i64 2) ∧ Below W.heap.size W w') := fun W => number_ok _ 2 W (by decide) ex_at2
  have HN1 : Hid (∀ W, Calls Tryz.prog 75 #[.string ⟨#[49]⟩] W fun e w' => e = .returned (.int .i64 1) ∧ Below W.heap.size W w') := fun W => number_ok _ 1 W (by decide) ex_at1
  have HN7 : Hid (∀ W, Calls Tryz.prog 75 #[.string ⟨#[55]⟩] W fun e w' => e = .returned (.int .i64 7) ∧ Below W.heap.size W w') := fun W => number_ok _ 7 W (by decide) ex_at7
  have HI : Hid (∀ W, Calls Tryz.prog 41 #[.agg #[.int .i64 2, .int .i64 1, .int .i64 7]] W fun e w' => e = .returned (.bool true) ∧ Below W.heap.size W w') := fun W => isID_any 2 1 7 W
  have HS : Hid (∀ W, Below w.heap.size w W → Calls Tryz.prog 21 #[.agg #[.int .i64 2, .int .i64 1, .int .i64 7]] W fun e w' => e = .returned (.string ⟨#[50, 46, 49, 46, 55]⟩) ∧ Below W.heap.size W w') := fun W h => ex_idT ▸ showID_any 2 1 7 W (by decide) (V.P10_below hP h)
  obtain ⟨W0, hW0⟩ : ∃ W0, W0 = w.alloc (.cells #[.int .i64 0, .int .i64 0, .int .i64 0] 23) := ⟨_, rfl⟩
  have H0 : Hid (Below w.heap.size w W0) := by rw [hW0]; exact al_b w _
  have hn0 : W0.heap[w.heap.size]? = some (.cells #[.int .i64 0, .int .i64 0, .int .i64 0] 23 (0, 0)) := by rw [hW0]; exact new_at _ _
  have HBk : Hid (∀ W, Below W0.heap.size W0 W → W.heap[w.heap.size]? = some (.cells #[.int .i64 0, .int .i64 0, .int .i64 0] 23 (0, 0))) := fun W h => (h.block _ (Array.getElem?_eq_some_iff.1 hn0).1).trans hn0
  clear hM hP hn0
  go_enter Tryz.func34, Tryz.ntmps34
  go_wp2_with fail
  rw [← hW0]
  clear hW0
  refine (HC1.out _ H0.out).mono ?_
  rintro e w1 ⟨rfl, hb⟩
  have H1 : Hid (Below w.heap.size w w1) := H0.out.trans (hb.mono H0.out.size)
  have H1b : Hid (Below W0.heap.size W0 w1) := hb
  clear hb HC1
  go_wp2_with fail
  refine (HC2.out _ H1.out).mono ?_
  rintro e w2 ⟨rfl, hb⟩
  have H2 : Hid (Below w.heap.size w w2) := H1.out.trans (hb.mono H1.out.size)
  have H2b : Hid (Below W0.heap.size W0 w2) := H1b.out.trans (hb.mono H1b.out.size)
  clear hb HC2
  go_wp2_with fail
  refine (HN2.out _).mono ?_
  rintro e w3 ⟨rfl, hb⟩
  have H3 : Hid (Below w.heap.size w w3) := H2.out.trans (hb.mono H2.out.size)
  have H3b : Hid (Below W0.heap.size W0 w3) := H2b.out.trans (hb.mono H2b.out.size)
  clear hb HN2
  go_wp2_with fail
  refine (HN1.out _).mono ?_
  rintro e w4 ⟨rfl, hb⟩
  have H4 : Hid (Below w.heap.size w w4) := H3.out.trans (hb.mono H3.out.size)
  have H4b : Hid (Below W0.heap.size W0 w4) := H3b.out.trans (hb.mono H3b.out.size)
  clear hb HN1
  go_wp2_with fail
  refine (HN7.out _).mono ?_
  rintro e w5 ⟨rfl, hb⟩
  have H5 : Hid (Below w.heap.size w w5) := H4.out.trans (hb.mono H4.out.size)
  have H5b : Hid (Below W0.heap.size W0 w5) := H4b.out.trans (hb.mono H4b.out.size)
  clear hb HN7
  obtain ⟨W6, hW6⟩ : ∃ W6, W6 = w5.alloc (.cells #[.int .i64 2, .int .i64 1, .int .i64 7] 23) := ⟨_, rfl⟩
  have hn6 : W6.heap[w5.heap.size]? = some (.cells #[.int .i64 2, .int .i64 1, .int .i64 7] 23 (0, 0)) := by rw [hW6]; exact new_at _ _
  have hb6 : Below w5.heap.size w5 W6 := by rw [hW6]; exact al_b _ _
  have H6 : Hid (Below w.heap.size w W6) := H5.out.trans (hb6.mono H5.out.size)
  have H6b : Hid (Below W0.heap.size W0 W6) := H5b.out.trans (hb6.mono H5b.out.size)
  have HX6 : Hid (∀ W, Below W6.heap.size W6 W → W.cell? ⟨w5.heap.size, 0, none⟩ = some (.int .i64 2) ∧ W.cell? ⟨w5.heap.size, 1, none⟩ = some (.int .i64 1) ∧ W.cell? ⟨w5.heap.size, 2, none⟩ = some (.int .i64 7)) := fun W h => by
    have e : ∀ j, W.cell? ⟨w5.heap.size, j, none⟩ = (#[.int .i64 2, .int .i64 1, .int .i64 7] : Array Value)[j]? := fun j => by rw [Lib.cell_of_heap ((h.block _ (Array.getElem?_eq_some_iff.1 hn6).1).trans hn6)]
    exact ⟨e 0, e 1, e 2⟩
  obtain ⟨p0, p1, p2⟩ := HX6.out W6 (Below.refl _ _)
  rw [hW6] at p0 p1 p2
  clear hn6 hb6
  go_wp2_with fail
  rw [← hW6]
  clear hW6 p0 p1 p2
  refine (HI.out _).mono ?_
  rintro e w7 ⟨rfl, hb⟩
  have H7 : Hid (Below w.heap.size w w7) := H6.out.trans (hb.mono H6.out.size)
  have H7b : Hid (Below W0.heap.size W0 w7) := H6b.out.trans (hb.mono H6b.out.size)
  have H7c : Hid (Below W6.heap.size W6 w7) := hb
  clear hb HI
  obtain ⟨p0, p1, p2⟩ := HX6.out w7 H7c.out
  go_wp2_with fail
  refine (HS.out _ H7.out).mono ?_
  rintro e w8 ⟨rfl, hb⟩
  have H8 : Hid (Below w.heap.size w w8) := H7.out.trans (hb.mono H7.out.size)
  have H8b : Hid (Below W0.heap.size W0 w8) := H7b.out.trans (hb.mono H7b.out.size)
  have H8c : Hid (Below W6.heap.size W6 w8) := H7c.out.trans (hb.mono H7c.out.size)
  clear hb HS p0 p1 p2
  obtain ⟨p0, p1, p2⟩ := HX6.out w8 H8c.out
  have hk := HBk.out w8 H8b.out
  have f0 : ∀ j, w8.frozen? ⟨w.heap.size, j, none⟩ = false := fun j => Lib.frozen_of_heap hk j
  have c0 : w8.cell? ⟨w.heap.size, 0, none⟩ = some (.int .i64 0) := by rw [Lib.cell_of_heap hk]; rfl
  have c1 : w8.cell? ⟨w.heap.size, 1, none⟩ = some (.int .i64 0) := by rw [Lib.cell_of_heap hk]; rfl
  have c2 : w8.cell? ⟨w.heap.size, 2, none⟩ = some (.int .i64 0) := by rw [Lib.cell_of_heap hk]; rfl
  clear hk
  have HEnd : Hid (∀ u0 u1 u2, Below w.heap.size w (((w8.setCell ⟨w.heap.size, 0, none⟩ u0).setCell ⟨w.heap.size, 1, none⟩ u1).setCell ⟨w.heap.size, 2, none⟩ u2)) := fun u0 u1 u2 => ((H8.out.setCell (p := ⟨w.heap.size, 0, none⟩) (Nat.le_refl _) u0).setCell (p := ⟨w.heap.size, 1, none⟩) (Nat.le_refl _) u1).setCell (p := ⟨w.heap.size, 2, none⟩) (Nat.le_refl _) u2
  go_wp2_with fail
  refine bodyPost_ret (v := .tuple #[idV 2 1 7, .int .i64 0]) ?_ rfl ⟨rfl, HEnd.out _ _ _⟩
  rw [results_c2 rfl]; go_simp
end Go.Proofs.YtacpllmlpmllbaaGreatDoor
