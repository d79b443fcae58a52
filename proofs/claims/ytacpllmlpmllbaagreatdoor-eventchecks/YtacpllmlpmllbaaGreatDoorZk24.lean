/- event.ShowID and Show at anything; the reference's: walks. -/
import Derived.Test.YtacpllmlpmllbaaGreatDoorZk10
import Derived.Test.YtacpllmlpmllbaaGreatDoorZk21
import Derived.Test.YtacpllmlpmllbaaGreatDoorZk22
import Derived.Test.YtacpllmlpmllbaaGreatDoorZk23
import Derived.Test.YtacpllmlpmllbaaGreatDoorZk7
import Derived.Test.YtacpllmlpmllbaaGreatDoorZk5
namespace Go.Proofs.YtacpllmlpmllbaaGreatDoor
open Go.RowKit Go.ChangeMaps

/-- An identity's text, or none. -/
def idS (a b c : Int) : ByteArray := if idB a b c = true then idT a b c else ⟨#[]⟩
/-- An event's line, or none. -/
def shE (a b c : Int) (k : ByteArray) (l : List At) : ByteArray := if chkE a b c k l = true then l.foldl (fun s x => s ++ atT x) (idT a b c ++ ⟨#[32]⟩ ++ k) else ⟨#[]⟩
theorem at_size {x : At} (hm : mayA x = true) (hn : x.n.size ≤ 1000000) : (atT x).size ≤ 10000000 := by
  unfold mayA at hm
  rw [Bool.and_eq_true] at hm
  have h := V.shw_size hm.2
  have s1 : (⟨#[32]⟩ : ByteArray).size = 1 := rfl
  have s2 : (⟨#[61]⟩ : ByteArray).size = 1 := rfl
  unfold atT
  simp only [ByteArray.size_append, s1, s2]
  omega
theorem chkE_at {a b c : Int} {k : ByteArray} {l : List At} (h : chkE a b c k l = true) (hn : NmA l) : ∀ x ∈ l, (atT x).size ≤ 10000000 := fun x hx => by
  unfold chkE at h
  simp only [Bool.and_eq_true] at h
  exact at_size (chkA_mayA h.2 x hx) (hn x hx).1
set_option maxRecDepth 100000 in
theorem showIDs_any (a b c : Int) (w : World) (hP : V.P10 w) :
    Calls Tryz.prog 21 #[idV a b c] w fun e w' => e = .returned (.string (idS a b c)) ∧ Below w.heap.size w w' := by
  unfold idS
  by_cases hi : idB a b c = true
  · rw [if_pos hi]
    exact showID_any a b c w hi hP
  rw [if_neg hi]
  have hf : idB a b c = false := by simpa using hi
  have HI : Hid (∀ W, Calls Tryz.prog 41 #[.agg #[.int .i64 a, .int .i64 b, .int .i64 c]] W fun e w' => e = .returned (.bool false) ∧ Below W.heap.size W w') := fun W => hf ▸ isID_any a b c W
  clear hi hf hP
  obtain ⟨w1, hw1⟩ : ∃ w1, w1 = w.alloc (.cells #[.int .i64 a, .int .i64 b, .int .i64 c] 23) := ⟨_, rfl⟩
  have B1 : Hid (Below w.heap.size w w1) := by show Below _ _ _; rw [hw1]; exact al_b _ _
  have hn1 : w1.heap[w.heap.size]? = some (.cells #[.int .i64 a, .int .i64 b, .int .i64 c] 23 (0, 0)) := by rw [hw1]; exact new_at _ _
  have C1 : Hid (∀ W, Below w1.heap.size w1 W → W.heap[w.heap.size]? = some (.cells #[.int .i64 a, .int .i64 b, .int .i64 c] 23 (0, 0))) := fun W h => (h.block _ (Array.getElem?_eq_some_iff.1 hn1).1).trans hn1
  clear hn1
  have hk := C1.out w1 (Below.refl _ _)
  have c1_0 : w1.cell? ⟨w.heap.size, 0, none⟩ = some (.int .i64 a) := by rw [Lib.cell_of_heap hk]; rfl
  have c1_1 : w1.cell? ⟨w.heap.size, 1, none⟩ = some (.int .i64 b) := by rw [Lib.cell_of_heap hk]; rfl
  have c1_2 : w1.cell? ⟨w.heap.size, 2, none⟩ = some (.int .i64 c) := by rw [Lib.cell_of_heap hk]; rfl
  clear hk
  go_enter Tryz.func21, Tryz.ntmps21
  go_wp2_with fail
  rw [← hw1]
  clear hw1
  try go_wp2_with fail
  clear c1_0 c1_1 c1_2
  refine (HI.out _).mono ?_
  rintro e w2 ⟨rfl, hb⟩
  have B2 : Hid (Below w1.heap.size w1 w2) := hb
  clear hb 
  have HBz : Hid (Below w.heap.size w w2) := (bT B1.out B2.out)
  go_wp2
  go_ret
  exact ⟨rfl, HBz.out⟩
set_option maxRecDepth 100000 in
set_option maxHeartbeats 1000000 in
theorem evShowS_any (a b c : Int) (k : ByteArray) (u : Value) (l : List At) (w : World) (hr : IsRow w 4 u l.length (aCells l)) (hl : l.length ≤ 1000000) (hn : NmA l) (hk : k.size ≤ 1000000) (hT : UT w) (hM : ML w) (h16 : V.T16 w) (hP : V.P10 w) :
    Calls Tryz.prog 17 #[.agg (evA a b c k u)] w fun e w' => e = .returned (.string (shE a b c k l)) ∧ Below w.heap.size w w' := by
  unfold shE
  by_cases hc : chkE a b c k l = true
  · rw [if_pos hc]
    exact evShow_any a b c k u l w hr hl hn hk (chkE_at hc hn) hT hM h16 hP hc
  rw [if_neg hc]
  have hf : chkE a b c k l = false := by simpa using hc
  obtain ⟨au, cu, rfl⟩ := hr.form
  have HC : Hid (∀ W, Below w.heap.size w W → Calls Tryz.prog 11 #[.agg (evA a b c k (.slice au l.length cu))] W fun e w' => e = .returned (.bool false) ∧ Below W.heap.size W w') := fun W h => hf ▸ evCheck_any a b c k _ l W (hr.below h) hl hn hk (Utf8Tabs_below hT h) (ML_below hM h)
  clear hc hf hr hl hn hk hT hM h16 hP
  obtain ⟨w1, hw1⟩ : ∃ w1, w1 = w.alloc (.cells (evA a b c k (.slice au l.length cu)) 26) := ⟨_, rfl⟩
  have B1 : Hid (Below w.heap.size w w1) := by show Below _ _ _; rw [hw1]; exact al_b _ _
  have hn1 : w1.heap[w.heap.size]? = some (.cells (evA a b c k (.slice au l.length cu)) 26 (0, 0)) := by rw [hw1]; exact new_at _ _
  have C1 : Hid (∀ W, Below w1.heap.size w1 W → W.heap[w.heap.size]? = some (.cells (evA a b c k (.slice au l.length cu)) 26 (0, 0))) := fun W h => (h.block _ (Array.getElem?_eq_some_iff.1 hn1).1).trans hn1
  clear hn1
  have hk := C1.out w1 (Below.refl _ _)
  have c1_0 : w1.cell? ⟨w.heap.size, 0, none⟩ = some (.int .i64 a) := by rw [Lib.cell_of_heap hk]; rfl
  have c1_1 : w1.cell? ⟨w.heap.size, 1, none⟩ = some (.int .i64 b) := by rw [Lib.cell_of_heap hk]; rfl
  have c1_2 : w1.cell? ⟨w.heap.size, 2, none⟩ = some (.int .i64 c) := by rw [Lib.cell_of_heap hk]; rfl
  have c1_3 : w1.cell? ⟨w.heap.size, 3, none⟩ = some (.string k) := by rw [Lib.cell_of_heap hk]; rfl
  have c1_4 : w1.cell? ⟨w.heap.size, 4, none⟩ = some (.slice au l.length cu) := by rw [Lib.cell_of_heap hk]; rfl
  clear hk
  go_enter Tryz.func17, Tryz.ntmps17
  go_wp2_with fail
  rw [← hw1]
  clear hw1
  try go_wp2_with fail
  clear c1_0 c1_1 c1_2 c1_3 c1_4
  refine (HC.out _ B1.out).mono ?_
  rintro e w2 ⟨rfl, hb⟩
  have B2 : Hid (Below w1.heap.size w1 w2) := hb
  clear hb 
  have HBz : Hid (Below w.heap.size w w2) := (bT B1.out B2.out)
  go_wp2
  go_ret
  exact ⟨rfl, HBz.out⟩
theorem dig_itoa (n : Int) (h : 0 ≤ n) : V.str (Lib.decDigits n.toNat) = V.str (Lib.itoa n) := by
  unfold Lib.itoa
  rw [if_neg (by omega)]
set_option maxRecDepth 100000 in
set_option maxHeartbeats 4000000 in
theorem refShowID_any (a b c : Int) (w : World) :
    Calls Tryz.prog 22 #[idV a b c] w fun e w' => e = .returned (.string (idS a b c)) ∧ Below w.heap.size w w' := by
  unfold idS
  by_cases hi : idB a b c = true
  rotate_left
  · rw [if_neg hi]
    have hf : idB a b c = false := by simpa using hi
    have HI : Hid (∀ W, Calls Tryz.prog 44 #[.agg #[.int .i64 a, .int .i64 b, .int .i64 c]] W fun e w' => e = .returned (.bool false) ∧ Below W.heap.size W w') := fun W => hf ▸ refID_any a b c W
    clear hi hf
    obtain ⟨w1, hw1⟩ : ∃ w1, w1 = w.alloc (.cells #[.int .i64 a, .int .i64 b, .int .i64 c] 29) := ⟨_, rfl⟩
    have B1 : Hid (Below w.heap.size w w1) := by show Below _ _ _; rw [hw1]; exact al_b _ _
    have hn1 : w1.heap[w.heap.size]? = some (.cells #[.int .i64 a, .int .i64 b, .int .i64 c] 29 (0, 0)) := by rw [hw1]; exact new_at _ _
    have C1 : Hid (∀ W, Below w1.heap.size w1 W → W.heap[w.heap.size]? = some (.cells #[.int .i64 a, .int .i64 b, .int .i64 c] 29 (0, 0))) := fun W h => (h.block _ (Array.getElem?_eq_some_iff.1 hn1).1).trans hn1
    clear hn1
    have hk := C1.out w1 (Below.refl _ _)
    have c1_0 : w1.cell? ⟨w.heap.size, 0, none⟩ = some (.int .i64 a) := by rw [Lib.cell_of_heap hk]; rfl
    have c1_1 : w1.cell? ⟨w.heap.size, 1, none⟩ = some (.int .i64 b) := by rw [Lib.cell_of_heap hk]; rfl
    have c1_2 : w1.cell? ⟨w.heap.size, 2, none⟩ = some (.int .i64 c) := by rw [Lib.cell_of_heap hk]; rfl
    clear hk
    go_enter Tryz.func22, Tryz.ntmps22
    go_wp2_with fail
    rw [← hw1]
    clear hw1
    try go_wp2_with fail
    clear c1_0 c1_1 c1_2
    refine (HI.out _).mono ?_
    rintro e w2 ⟨rfl, hb⟩
    have B2 : Hid (Below w1.heap.size w1 w2) := hb
    clear hb 
    have HBz : Hid (Below w.heap.size w w2) := (bT B1.out B2.out)
    go_wp2
    go_ret
    exact ⟨rfl, HBz.out⟩
  rw [if_pos hi]
  obtain ⟨⟨a1, a2⟩, ⟨b1, b2⟩, c1, c2⟩ := idB_le hi
  obtain ⟨w1, hw1⟩ : ∃ w1, w1 = w.alloc (.cells #[.int .i64 a, .int .i64 b, .int .i64 c] 29) := ⟨_, rfl⟩
  have B1 : Hid (Below w.heap.size w w1) := by show Below _ _ _; rw [hw1]; exact al_b _ _
  have hn1 : w1.heap[w.heap.size]? = some (.cells #[.int .i64 a, .int .i64 b, .int .i64 c] 29 (0, 0)) := by rw [hw1]; exact new_at _ _
  have C1 : Hid (∀ W, Below w1.heap.size w1 W → W.heap[w.heap.size]? = some (.cells #[.int .i64 a, .int .i64 b, .int .i64 c] 29 (0, 0))) := fun W h => (h.block _ (Array.getElem?_eq_some_iff.1 hn1).1).trans hn1
  clear hn1
  have HX : Hid (∀ W, Below w1.heap.size w1 W → W.cell? ⟨w.heap.size, 0, none⟩ = some (.int .i64 a) ∧ W.cell? ⟨w.heap.size, 1, none⟩ = some (.int .i64 b) ∧ W.cell? ⟨w.heap.size, 2, none⟩ = some (.int .i64 c)) := fun W h => ⟨by rw [Lib.cell_of_heap (C1.out W h)]; rfl, by rw [Lib.cell_of_heap (C1.out W h)]; rfl, by rw [Lib.cell_of_heap (C1.out W h)]; rfl⟩
  have HI : Hid (∀ W, Calls Tryz.prog 44 #[.agg #[.int .i64 a, .int .i64 b, .int .i64 c]] W fun e w' => e = .returned (.bool true) ∧ Below W.heap.size W w') := fun W => hi ▸ refID_any a b c W
  have HD : ∀ n : Int, 0 ≤ n → n ≤ 9007199254740991 → ∀ W, Calls Tryz.prog 61 #[.int .i64 n] W fun e w' => e = .returned (.string (V.str (Lib.itoa n))) ∧ Below W.heap.size W w' := fun n h1 h2 W => by
    have := V.refDigits_any n.toNat W (by omega)
    rw [dig_itoa n h1, Int.toNat_of_nonneg h1] at this
    exact this
  have HDa : Hid (∀ W, Calls Tryz.prog 61 #[.int .i64 a] W fun e w' => e = .returned (.string (V.str (Lib.itoa a))) ∧ Below W.heap.size W w') := HD a (by omega) (by omega)
  have HDb : Hid (∀ W, Calls Tryz.prog 61 #[.int .i64 b] W fun e w' => e = .returned (.string (V.str (Lib.itoa b))) ∧ Below W.heap.size W w') := HD b (by omega) (by omega)
  have HDc : Hid (∀ W, Calls Tryz.prog 61 #[.int .i64 c] W fun e w' => e = .returned (.string (V.str (Lib.itoa c))) ∧ Below W.heap.size W w') := HD c (by omega) (by omega)
  have sz : ∀ n : Int, -9007199254740991 ≤ n → n ≤ 9007199254740991 → (V.str (Lib.itoa n)).size ≤ 21 := fun n h1 h2 => by rw [V.str_size]; exact Lib.itoa_length_le n (by omega) (by omega)
  have sa := sz a (by omega) (by omega)
  have sb := sz b (by omega) (by omega)
  have sc := sz c (by omega) (by omega)
  have HE : Hid (idT a b c = V.str (Lib.itoa a) ++ ⟨#[46]⟩ ++ V.str (Lib.itoa b) ++ ⟨#[46]⟩ ++ V.str (Lib.itoa c)) := rfl
  generalize idT a b c = R at *
  generalize V.str (Lib.itoa a) = A at *
  generalize V.str (Lib.itoa b) = B at *
  generalize V.str (Lib.itoa c) = C at *
  have one : (⟨#[46]⟩ : ByteArray).size = 1 := rfl
  clear sz HD hi a1 a2 b1 b2 c1 c2
  obtain ⟨p0, p1, p2⟩ := HX.out w1 (Below.refl _ _)
  go_enter Tryz.func22, Tryz.ntmps22
  go_wp2_with fail
  rw [← hw1]
  clear hw1
  try go_wp2_with fail
  clear p0 p1 p2
  refine (HI.out _).mono ?_
  rintro e w2 ⟨rfl, hb⟩
  have Hw1 : Hid (Below w1.heap.size w1 w2) := hb
  clear hb
  go_wp2_with fail
  refine wp_region_quiet (C := fun w' => Below w1.heap.size w1 w') (by kernel_rfl) (by kernel_rfl) (Hw1.out.drew) ?_
  dsimp only
  repeat (first
    | go_big_quiet_skip
    | (go_big_quiet_want
       apply Exists.intro
       refine ⟨fun W' hW' => ?_, ?_⟩
       · have hw : Below w1.heap.size w1 W' := hW'
         obtain ⟨g0, g1, g2⟩ := HX.out W' hw
         go_simp
         first
           | done
           | rfl
           | (rw [if_neg (by (try simp only [ByteArray.size_append, one]); omega)]; exact ⟨rfl, rfl⟩)
           | (go_at_call 61; (first | (with_reducible refine Calls.mono (HDa.out W') ?_) | (with_reducible refine Calls.mono (HDb.out W') ?_) | (with_reducible refine Calls.mono (HDc.out W') ?_)); rintro e w'' ⟨rfl, hb⟩; exact ⟨rfl, hw.trans (hb.mono hw.size)⟩)
       go_big_quiet_on
       try simp only [Act.put, List.setIfInBounds_toArray, List.set_cons_zero, List.set_cons_succ]))
  refine wpQuiet_nil ?_
  intro w3 hqw2
  have HBz : Hid (Below w.heap.size w w3) := bT B1.out hqw2
  clear hqw2
  go_wp2
  go_ret
  exact ⟨by rw [HE.out]; rfl, HBz.out⟩
set_option maxRecDepth 100000 in
set_option maxHeartbeats 8000000 in
theorem refShow6_any (a b c : Int) (k : ByteArray) (u : Value) (l : List At) (w : World) (hr : IsRow w 4 u l.length (aCells l)) (hl : l.length ≤ 1000000) (hn : NmRA l) (hk : k.size ≤ 200000) :
    Calls Tryz.prog 18 #[.agg (evA a b c k u)] w fun e w' => e = .returned (.string (shE a b c k l)) ∧ Below w.heap.size w w' := by
  have HCh := fun (W : World) (h : Below w.heap.size w W) => refCheck6_any a b c k u l W (hr.below h) hl hn hk
  obtain ⟨au, cu, rfl⟩ := hr.form
  unfold shE
  by_cases hc : chkE a b c k l = true
  rotate_left
  · rw [if_neg hc]
    have hf : chkE a b c k l = false := by simpa using hc
    have HC : Hid (∀ W, Below w.heap.size w W → Calls Tryz.prog 12 #[.agg (evA a b c k (.slice au l.length cu))] W fun e w' => e = .returned (.bool false) ∧ Below W.heap.size W w') := fun W h => hf ▸ HCh W h
    clear hc hf hr hl hn hk HCh
    obtain ⟨w1, hw1⟩ : ∃ w1, w1 = w.alloc (.cells (evA a b c k (.slice au l.length cu)) 32) := ⟨_, rfl⟩
    have B1 : Hid (Below w.heap.size w w1) := by show Below _ _ _; rw [hw1]; exact al_b _ _
    have hn1 : w1.heap[w.heap.size]? = some (.cells (evA a b c k (.slice au l.length cu)) 32 (0, 0)) := by rw [hw1]; exact new_at _ _
    have C1 : Hid (∀ W, Below w1.heap.size w1 W → W.heap[w.heap.size]? = some (.cells (evA a b c k (.slice au l.length cu)) 32 (0, 0))) := fun W h => (h.block _ (Array.getElem?_eq_some_iff.1 hn1).1).trans hn1
    clear hn1
    have hk := C1.out w1 (Below.refl _ _)
    have c1_0 : w1.cell? ⟨w.heap.size, 0, none⟩ = some (.int .i64 a) := by rw [Lib.cell_of_heap hk]; rfl
    have c1_1 : w1.cell? ⟨w.heap.size, 1, none⟩ = some (.int .i64 b) := by rw [Lib.cell_of_heap hk]; rfl
    have c1_2 : w1.cell? ⟨w.heap.size, 2, none⟩ = some (.int .i64 c) := by rw [Lib.cell_of_heap hk]; rfl
    have c1_3 : w1.cell? ⟨w.heap.size, 3, none⟩ = some (.string k) := by rw [Lib.cell_of_heap hk]; rfl
    have c1_4 : w1.cell? ⟨w.heap.size, 4, none⟩ = some (.slice au l.length cu) := by rw [Lib.cell_of_heap hk]; rfl
    clear hk
    go_enter Tryz.func18, Tryz.ntmps18
    go_wp2_with fail
    rw [← hw1]
    clear hw1
    try go_wp2_with fail
    clear c1_0 c1_1 c1_2 c1_3 c1_4
    refine (HC.out _ B1.out).mono ?_
    rintro e w2 ⟨rfl, hb⟩
    have B2 : Hid (Below w1.heap.size w1 w2) := hb
    clear hb 
    have HBz : Hid (Below w.heap.size w w2) := (bT B1.out B2.out)
    go_wp2
    go_ret
    exact ⟨rfl, HBz.out⟩
  rw [if_pos hc]
  obtain ⟨R, HRr⟩ : ∃ R, Hid (l.foldl (fun s x => s ++ atT x) (idT a b c ++ ⟨#[32]⟩ ++ k) = R) := ⟨_, rfl⟩
  rw [HRr.out]
  have HC : Hid (∀ W, Below w.heap.size w W → Calls Tryz.prog 12 #[.agg (evA a b c k (.slice au l.length cu))] W fun e w' => e = .returned (.bool true) ∧ Below W.heap.size W w') := fun W h => hc ▸ HCh W h
  have hi : idB a b c = true := by simp only [chkE, Bool.and_eq_true] at hc; exact hc.1.1
  have HI : Hid (∀ W, Calls Tryz.prog 22 #[.agg #[.int .i64 a, .int .i64 b, .int .i64 c]] W fun e w' => e = .returned (.string (idT a b c)) ∧ Below W.heap.size W w') := fun W => by
    have := refShowID_any a b c W
    unfold idS at this
    rw [if_pos hi] at this
    exact this
  have hid := idT_size hi
  have HAt := chkE_at hc (fun x hx => ⟨by have := (hn x hx).1; omega, (hn x hx).2⟩)
  have HSv : Hid (∀ (j : Nat) (h : j < l.length) W, Calls Tryz.prog 55 #[.agg #[.int .i64 l[j].k, .int .i64 l[j].v, .string l[j].s]] W fun e w' => e = .returned (.string (V.shwV l[j].k l[j].v l[j].s)) ∧ Below W.heap.size W w') := fun j h W => V.refShow_any _ _ _ W (hn _ (List.getElem_mem h)).2
  have HRw : Hid (∀ W, Below w.heap.size w W → IsRow W 4 (.slice au l.length cu) l.length (aCells l)) := fun W h => hr.below h
  clear hc hr hn HCh hi
  obtain ⟨w1, hw1⟩ : ∃ w1, w1 = w.alloc (.cells (evA a b c k (.slice au l.length cu)) 32) := ⟨_, rfl⟩
  have B1 : Hid (Below w.heap.size w w1) := by show Below _ _ _; rw [hw1]; exact al_b _ _
  have hn1 : w1.heap[w.heap.size]? = some (.cells (evA a b c k (.slice au l.length cu)) 32 (0, 0)) := by rw [hw1]; exact new_at _ _
  have C1 : Hid (∀ W, Below w1.heap.size w1 W → W.heap[w.heap.size]? = some (.cells (evA a b c k (.slice au l.length cu)) 32 (0, 0))) := fun W h => (h.block _ (Array.getElem?_eq_some_iff.1 hn1).1).trans hn1
  clear hn1
  have HX : Hid (∀ W, Below w1.heap.size w1 W → BxV w.heap.size a b c k (.slice au l.length cu) W) := fun W h => BxV.of (C1.out W h)
  have hk := C1.out w1 (Below.refl _ _)
  have c1_0 : w1.cell? ⟨w.heap.size, 0, none⟩ = some (.int .i64 a) := by rw [Lib.cell_of_heap hk]; rfl
  have c1_1 : w1.cell? ⟨w.heap.size, 1, none⟩ = some (.int .i64 b) := by rw [Lib.cell_of_heap hk]; rfl
  have c1_2 : w1.cell? ⟨w.heap.size, 2, none⟩ = some (.int .i64 c) := by rw [Lib.cell_of_heap hk]; rfl
  have c1_3 : w1.cell? ⟨w.heap.size, 3, none⟩ = some (.string k) := by rw [Lib.cell_of_heap hk]; rfl
  have c1_4 : w1.cell? ⟨w.heap.size, 4, none⟩ = some (.slice au l.length cu) := by rw [Lib.cell_of_heap hk]; rfl
  clear hk
  go_enter Tryz.func18, Tryz.ntmps18
  go_wp2_with fail
  rw [← hw1]
  clear hw1
  try go_wp2_with fail
  clear c1_0 c1_1 c1_2 c1_3 c1_4
  refine (HC.out _ B1.out).mono ?_
  rintro e w2 ⟨rfl, hb⟩
  have B2 : Hid (Below w1.heap.size w1 w2) := hb
  clear hb 
  have s32 : (⟨#[32]⟩ : ByteArray).size = 1 := rfl
  have s61 : (⟨#[61]⟩ : ByteArray).size = 1 := rfl
  have HF : Hid (idT a b c ++ ⟨#[32]⟩ ++ k = idT a b c ++ ⟨#[32]⟩ ++ k) := rfl
  generalize hI : idT a b c = I at *
  have H2 : Hid (Below w1.heap.size w1 w2) := B2.out
  have H1 : Hid (Below w.heap.size w w1) := B1.out
  clear B1 B2 C1 HC hI HF
  go_wp2_with fail
  refine wp_region_quiet (C := fun w' => Below w1.heap.size w1 w') (by kernel_rfl) (by kernel_rfl) (H2.out.drew) ?_
  dsimp only
  repeat (first
    | go_big_quiet_skip
    | (go_big_quiet_want
       apply Exists.intro
       refine ⟨fun W' hW' => ?_, ?_⟩
       · have hw : Below w1.heap.size w1 W' := hW'
         obtain ⟨⟨g0, g1, g2⟩, g3, g4⟩ := HX.out W' hw
         go_simp
         first
           | done
           | rfl
           | (rw [if_neg (by (try simp only [ByteArray.size_append, s32]); omega)]; exact ⟨rfl, rfl⟩)
           | (go_at_call 22; (with_reducible refine Calls.mono (HI.out W') ?_); rintro e w'' ⟨rfl, hb⟩; exact ⟨rfl, hw.trans (hb.mono hw.size)⟩)
       go_big_quiet_on
       try simp only [Act.put, List.setIfInBounds_toArray, List.set_cons_zero, List.set_cons_succ]))
  refine wpQuiet_nil ?_
  intro w3 hqw2
  have H3 : Hid (Below w1.heap.size w1 w3) := hqw2
  clear hqw2 HI H2
  generalize hF0 : I ++ ⟨#[32]⟩ ++ k = F0 at *
  have hF0s : F0.size ≤ 1000100 := by rw [← hF0]; simp only [ByteArray.size_append, s32]; omega
  have HPs : Hid (∀ j, j ≤ l.length → ((l.take j).foldl (fun s x => s ++ atT x) F0).size ≤ 1000100 + j * 10000000) := fun j => by
    induction j with
    | zero => intro _; simp; omega
    | succ j ih =>
      intro h
      rw [List.take_succ_eq_append_getElem h, List.foldl_append]
      have h1 := ih (by omega)
      have h2 := HAt l[j] (List.getElem_mem _)
      show (_ ++ atT l[j]).size ≤ _
      rw [ByteArray.size_append]
      omega
  have HPn : Hid (∀ (j : Nat) (h : j < l.length), (l.take (j + 1)).foldl (fun s x => s ++ atT x) F0 = (l.take j).foldl (fun s x => s ++ atT x) F0 ++ atT l[j]) := fun j h => by rw [List.take_succ_eq_append_getElem h, List.foldl_append]; rfl
  have HAt' : Hid (∀ x ∈ l, (atT x).size ≤ 10000000) := HAt
  have HPe : Hid ((l.take l.length).foldl (fun s x => s ++ atT x) F0 = l.foldl (fun s x => s ++ atT x) F0) := by show _ = _; rw [List.take_length]
  clear HAt hid hF0 hF0s
  go_wp2_with fail
  go_loopw [3, 4] (fun s i wr => ∃ j : Nat, j ≤ l.length ∧ i = .int .i64 (j : Int) ∧ s = .string ((l.take j).foldl (fun s x => s ++ atT x) F0) ∧ Hid (Below w1.heap.size w1 wr)) (fun _ i _ => l.length - (intOf i).toNat)
  case atStart => exact ⟨0, by omega, rfl, rfl, H3⟩
  case round =>
    obtain ⟨j, hj, rfl, rfl, HB⟩ := hrel
    obtain ⟨⟨q0, q1, q2⟩, q3, q4⟩ := HX.out _ HB.out
    by_cases hlk : j < l.length
    · have dj : decide ((j : Int) < (l.length : Int)) = true := by simp; omega
      obtain ⟨b0, o0, rfl, hlt0, hcap0, hc0⟩ := a_at (HRw.out wr (bT H1.out HB.out)) (by omega)
      have HY : Hid (∀ W, Below wr.heap.size wr W → W.cell? ⟨w.heap.size, 4, none⟩ = some (.slice (some ⟨b0, o0, none⟩) l.length cu) ∧ W.cell? ⟨b0, o0 + j * 4, none⟩ = some (.string l[j].n) ∧ W.cell? ⟨b0, o0 + j * 4 + 1, none⟩ = some (.int .i64 l[j].k) ∧ W.cell? ⟨b0, o0 + j * 4 + 2, none⟩ = some (.int .i64 l[j].v) ∧ W.cell? ⟨b0, o0 + j * 4 + 3, none⟩ = some (.string l[j].s)) := fun W h => by
        obtain ⟨p0, p1, p2, p3⟩ := hc0 j hlk
        exact ⟨(HX.out W (HB.out.trans (h.mono HB.out.size))).2.2, (h.cell (p := ⟨b0, _, none⟩) hlt0).trans p0, (h.cell (p := ⟨b0, _, none⟩) hlt0).trans p1, (h.cell (p := ⟨b0, _, none⟩) hlt0).trans p2, (h.cell (p := ⟨b0, _, none⟩) hlt0).trans p3⟩
      have r1 : (0 : Int) ≤ (j : Int) := by omega
      have r2 : (j : Int) < (l.length : Int) := by omega
      have HSj := HSv.out j hlk
      have HPx := HPn.out j hlk
      have hPs := HPs.out j (by omega)
      have hAs := HAt'.out l[j] (List.getElem_mem _)
      generalize (l.take j).foldl (fun s x => s ++ atT x) F0 = P at *
      generalize l[j]'hlk = x at *
      obtain ⟨xn, xk, xv, xs⟩ := x
      dsimp only at *
      have eAt : atT ⟨xn, xk, xv, xs⟩ = ⟨#[32]⟩ ++ xn ++ ⟨#[61]⟩ ++ V.shwV xk xv xs := rfl
      rw [eAt] at hAs HPx
      simp only [ByteArray.size_append, s32, s61] at hAs
      clear eAt
      generalize V.shwV xk xv xs = Z at *
      have HPx' : Hid ((l.take (j + 1)).foldl (fun s x => s ++ atT x) F0 = P ++ ⟨#[32]⟩ ++ xn ++ ⟨#[61]⟩ ++ Z) := by show _ = _; rw [HPx]; simp only [ByteArray.append_assoc]
      have HSk : Hid (∀ W, Calls Tryz.prog 55 #[.agg #[.int .i64 xk, .int .i64 xv, .string xs]] W fun e w' => e = .returned (.string Z) ∧ Below W.heap.size W w') := HSj
      clear hc0 HSj HPx HSv HPn HPs HAt' HRw q0 q1 q2 q3
      go_wp2_with fail
      refine wp_region_quiet (C := fun w' => Below wr.heap.size wr w') (by kernel_rfl) (by kernel_rfl) ((Below.refl _ _).drew) ?_
      dsimp only
      repeat (first
        | go_big_quiet_skip
        | (go_big_quiet_want
           apply Exists.intro
           refine ⟨fun W' hW' => ?_, ?_⟩
           · have hw : Below wr.heap.size wr W' := hW'
             obtain ⟨g, k0, k1, k2, k3⟩ := HY.out W' hw
             go_simp
             first
               | done
               | rfl
               | (rw [if_neg (by (try simp only [ByteArray.size_append, s32, s61]); omega)]; exact ⟨rfl, rfl⟩)
               | (go_at_call 55; (with_reducible refine Calls.mono (HSk.out W') ?_); rintro e w'' ⟨rfl, hb⟩; exact ⟨rfl, hw.trans (hb.mono hw.size)⟩)
           go_big_quiet_on
           try simp only [Act.put, List.setIfInBounds_toArray, List.set_cons_zero, List.set_cons_succ]))
      refine wpQuiet_nil ?_
      intro w5 hqw2
      have H5 : Hid (Below w1.heap.size w1 w5) := HB.out.trans (hqw2.mono HB.out.size)
      clear hqw2 HY q4
      go_wp2
      go_roundw
      case rel => exact ⟨j + 1, by omega, by simp, by rw [HPx'.out], H5⟩
      case measure => simp [intOf]; omega
    · have dj : decide ((j : Int) < (l.length : Int)) = false := by simp; omega
      have hjl : j = l.length := by omega
      subst hjl
      rw [HPe.out]
      have HBz : Hid (Below w.heap.size w wr) := bT H1.out HB.out
      clear HPs HPn HAt' HSv
      go_wp2
      go_ret
      exact ⟨by rw [← HRr.out]; rfl, HBz.out⟩
end Go.Proofs.YtacpllmlpmllbaaGreatDoor
/- EventInherits: its walk, where the example's call answers true. -/
namespace Go.Proofs.YtacpllmlpmllbaaGreatDoor
open Go.RowKit Go.ChangeMaps

theorem fewA_shortV {l : List At} (h : fewA l = true) : l.length ≤ 41 ∧ NmA l := by
  have h' := of_decide_eq_true h
  have hx : ∀ x ∈ l, x.n.size ≤ 200 ∧ x.s.size ≤ 500 := fun x hx => by
    obtain ⟨k, hk, rfl⟩ := List.getElem_of_mem hx
    exact (h' k hk).2
  refine ⟨?_, fun x hx' => by have := hx x hx'; omega⟩
  rcases Nat.lt_or_ge 41 l.length with q | q
  · have := (h' 41 q).1; omega
  · exact q
end Go.Proofs.YtacpllmlpmllbaaGreatDoor
