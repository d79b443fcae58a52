/- The reference's Scan and Parse: walks. -/
import Derived.Test.YtdendpckihckeaaGreatDoorXP
import Derived.Test.YtdendpckihckeaaGreatDoorXQ
import Derived.Test.YtdendpckihckeaaGreatDoorXR
namespace Go.Proofs.YtdendpckihckeaaGreatDoor
open Go.RowKit

theorem pre_hd {l p : List UInt8} {b : UInt8} (h : Lib.hasPrefix l (b :: p) = true) : l.head? = some b := by
  obtain ⟨t, rfl⟩ := List.isPrefixOf_iff_prefix.1 h
  rfl
theorem pre_no {l p : List UInt8} {b : UInt8} (h : l.head? ≠ some b) : Lib.hasPrefix l (b :: p) = false := by
  cases e : Lib.hasPrefix l (b :: p)
  · rfl
  · exact absurd (pre_hd e) h
theorem head_gN (s : ByteArray) (h : 0 < s.size) (b : UInt8) : s.data.toList.head? = some b ↔ gN s 0 = b.toNat := by
  have hne : s.data.toList ≠ [] := fun e => by rw [Lib.size_eq, e] at h; simp at h
  rw [head_getD hne, gN_list s 0 h]
  constructor
  · intro e; rw [Option.some.inj e]
  · intro e; exact congrArg some (UInt8.toNat_inj.1 e)
theorem scI_nodig {l : List UInt8} (h : digs l = []) : scI false l = .bad 3 := by
  unfold scI
  rw [if_pos (.inl h)]
/-- Behind a call that answers a reading. -/
theorem begins_lit (s t : ByteArray) (p : List UInt8) (ht : t.data.toList = p) (B : Bool) (hB : Lib.hasPrefix s.data.toList p = B) (w : World) :
    Calls Tryz.prog 33 #[.string s, .string t] w fun e w' => e = .returned (.bool B) ∧ w' = w := by
  have := refBegins_any s t w
  rw [ht, hB] at this
  exact this
set_option maxRecDepth 100000 in
set_option maxHeartbeats 4000000 in
theorem refScan_any (s : ByteArray) (w : World) (hs : s.size ≤ 1000000) :
    Calls Tryz.prog 11 #[.string s] w fun e w' => e = .returned (scS (scn s.data.toList)) ∧ Below w.heap.size w w' := by
  obtain ⟨XX, HXX⟩ : ∃ XX, Hid (scS (scn s.data.toList) = XX) := ⟨_, rfl⟩
  rw [HXX.out]
  have Z0 : Hid (Zf w.heap.size (wf w)) := Zf.new w
  by_cases hz : s.size = 0
  · have he := empty_is s hz
    have e : s.data.toList = [] := List.eq_nil_of_length_eq_zero (by rw [← Lib.size_eq]; exact hz)
    have HX : Hid (XX = vs 0 0 ⟨#[]⟩ ⟨#[]⟩ 3) := by show _ = _; rw [← HXX.out, e]; rfl
    clear hz e
    go_enter Tryz.func11, Tryz.ntmps11
    go_wp2
    try simp only [Exit.inBlock, Exit.then]
    refine bodyPost_ret (v := vs 0 0 ⟨#[]⟩ ⟨#[]⟩ 3) (by simp [results, Tryz.results11, go_sem]) rfl ⟨by rw [HX.out], ?_⟩
    repeat (first | exact Below.refl _ _ | refine Below.setCell ?_ (by exact Nat.le_refl _) _ | refine Below.alloc ?_ (Nat.le_refl _) _)
  have he := empty_not s hz
  have h0 : 0 < s.size := by omega
  have h0' : (0 : Int) < s.size := by omega
  have hg := gN_of s 0 h0
  have hlt := gN_lt s 0
  have hh := head_gN s h0
  have tail : ∀ (k n : Int) (S R : ByteArray) (e : Int) (w2 : World), Below (wf w).heap.size (wf w) w2 → Hid (Zf w.heap.size w2 ∧ Below w.heap.size w w2) := fun k n S R e w2 hb => ⟨Z0.out.below hb (by simp), (wf_below w).trans (hb.mono (by simp))⟩
  by_cases c1 : gN s 0 = 34
  · have hX : scn s.data.toList = scT (s.data.toList.drop 1) := by
      unfold scn
      rw [if_pos (by rw [pre_head, decide_eq_true ((hh 34).2 c1)])]
    have HC : Hid (∀ w, Calls Tryz.prog 32 #[.string s] w fun e w' => e = .returned XX ∧ Below w.heap.size w w') := fun w => by
      rw [← HXX.out, hX]
      exact refText_any s w hs h0
    obtain ⟨k, n, S, R, e, HV⟩ : ∃ k n S R e, Hid (XX = vs k n S R e) := ⟨_, _, _, _, _, HXX.out.symm⟩
    rw [HV.out] at HC ⊢
    rw [c1] at hg
    clear hX c1 hlt hh HXX HV
    go_enter Tryz.func11, Tryz.ntmps11
    go_wp2_with fail
    refine (HC.out _).mono ?_
    rintro e0 w2 ⟨rfl, hb2⟩
    have HF := tail k n S R e w2 hb2
    obtain ⟨⟨c0, c1, c2, c3, c4⟩, ff⟩ := HF.out.1
    clear hb2 tail
    go_wp2
    try simp only [Exit.inBlock, Exit.then]
    exact bodyPost_ret (results_s1 rfl _ _ w.heap.size rfl (HF.out.1.c.set _ _ _ _ _)) rfl ⟨rfl, set5_below HF.out.2 _ _ _ _ _⟩
  have n34 : ((gN s 0 : Int) == 34) = false := by rw [beq_eq_false_iff_ne]; omega
  have p34 : Lib.hasPrefix s.data.toList [34] = false := pre_no (fun e => c1 ((hh 34).1 e))
  by_cases c2 : Lib.hasPrefix s.data.toList [120, 39] = true
  · have hz2 := pre_len c2
    rw [← Lib.size_eq] at hz2
    have hX : scn s.data.toList = scX (s.data.toList.drop 2) := by
      unfold scn
      rw [if_neg (by rw [p34]; decide), if_pos c2]
    have HC : Hid (∀ w, Calls Tryz.prog 34 #[.string s] w fun e w' => e = .returned XX ∧ Below w.heap.size w w') := fun w => by
      rw [← HXX.out, hX]
      exact refHexes_any s w hs hz2
    obtain ⟨k, n, S, R, e, HV⟩ : ∃ k n S R e, Hid (XX = vs k n S R e) := ⟨_, _, _, _, _, HXX.out.symm⟩
    rw [HV.out] at HC ⊢
    have HB : Hid (∀ w, Calls Tryz.prog 33 #[.string s, .string ⟨#[120, 39]⟩] w fun e w' => e = .returned (.bool true) ∧ w' = w) := fun w => begins_lit s _ _ rfl _ c2 w
    generalize gN s 0 = g at *
    clear hX c1 c2 hh HXX HV p34 hz2
    go_enter Tryz.func11, Tryz.ntmps11
    go_wp2_with fail
    refine (HB.out _).mono ?_
    rintro e0 w1 ⟨rfl, rfl⟩
    go_wp2_with fail
    refine (HC.out _).mono ?_
    rintro e0 w2 ⟨rfl, hb2⟩
    have HF := tail k n S R e w2 hb2
    obtain ⟨⟨c0, c1, c2, c3, c4⟩, ff⟩ := HF.out.1
    clear hb2 tail
    go_wp2
    try simp only [Exit.inBlock, Exit.then]
    exact bodyPost_ret (results_s1 rfl _ _ w.heap.size rfl (HF.out.1.c.set _ _ _ _ _)) rfl ⟨rfl, set5_below HF.out.2 _ _ _ _ _⟩
  have p120 : Lib.hasPrefix s.data.toList [120, 39] = false := by simpa using c2
  have HB : Hid (∀ w, Calls Tryz.prog 33 #[.string s, .string ⟨#[120, 39]⟩] w fun e w' => e = .returned (.bool false) ∧ w' = w) := fun w => begins_lit s _ _ rfl _ p120 w
  by_cases c3 : gN s 0 = 45 ∨ (48 ≤ gN s 0 ∧ gN s 0 ≤ 57)
  · have hnt : ∀ b : UInt8, b.toNat ≠ 45 → (b.toNat < 48 ∨ 57 < b.toNat) → s.data.toList.head? ≠ some b := fun b h1 h2 e => by
      have := (hh b).1 e
      omega
    have p116 : Lib.hasPrefix s.data.toList [116, 114, 117, 101] = false := pre_no (hnt 116 (by decide) (by decide))
    have p102 : Lib.hasPrefix s.data.toList [102, 97, 108, 115, 101] = false := pre_no (hnt 102 (by decide) (by decide))
    have hX : scn s.data.toList = if Lib.hasPrefix s.data.toList [45] = true then scI true (s.data.toList.drop 1) else scI false s.data.toList := by
      unfold scn
      rw [if_neg (by rw [p34]; decide), if_neg c2, if_neg (by rw [p116]; decide), if_neg (by rw [p102]; decide)]
    have HC : Hid (∀ w, Calls Tryz.prog 35 #[.string s] w fun e w' => e = .returned XX ∧ Below w.heap.size w w') := fun w => by
      rw [← HXX.out, hX]
      by_cases c45 : gN s 0 = 45
      · rw [if_pos (by rw [pre_head, decide_eq_true ((hh 45).2 c45)])]
        exact refInt_neg s w hs h0 c45
      · rw [if_neg (by rw [pre_head, decide_eq_false (fun e => c45 ((hh 45).1 e))]; decide)]
        exact refInt_pos s w hs h0 c45
    obtain ⟨k, n, S, R, e, HV⟩ : ∃ k n S R e, Hid (XX = vs k n S R e) := ⟨_, _, _, _, _, HXX.out.symm⟩
    rw [HV.out] at HC ⊢
    have cc : gN s 0 = 45 ∨ (((gN s 0 : Int) == 45) = false ∧ decide ((48 : Int) ≤ gN s 0) = true ∧ decide ((gN s 0 : Int) ≤ 57) = true) := by
      by_cases c45 : gN s 0 = 45
      · exact .inl c45
      · exact .inr ⟨by rw [beq_eq_false_iff_ne]; omega, by simp; omega, by simp; omega⟩
    clear hX c1 c2 hh HXX HV p34 p120 hnt p116 p102 c3
    generalize gN s 0 = g at *
    rcases cc with rfl | ⟨cc, cd, ce⟩
    all_goals
      go_enter Tryz.func11, Tryz.ntmps11
      go_wp2_with fail
      refine (HB.out _).mono ?_
      rintro e0 w1 ⟨rfl, rfl⟩
      go_wp2_with fail
      refine (HC.out _).mono ?_
      rintro e0 w2 ⟨rfl, hb2⟩
      have HF := tail k n S R e w2 hb2
      obtain ⟨⟨c0, c1, c2, c3, c4⟩, ff⟩ := HF.out.1
      clear hb2 tail
      go_wp2
      try simp only [Exit.inBlock, Exit.then]
      exact bodyPost_ret (results_s1 rfl _ _ w.heap.size rfl (HF.out.1.c.set _ _ _ _ _)) rfl ⟨rfl, set5_below HF.out.2 _ _ _ _ _⟩
  have n45 : ((gN s 0 : Int) == 45) = false := by rw [beq_eq_false_iff_ne]; omega
  have nd : decide ((48 : Int) ≤ gN s 0) = false ∨ (decide ((48 : Int) ≤ gN s 0) = true ∧ decide ((gN s 0 : Int) ≤ 57) = false) := by
    by_cases h : 48 ≤ gN s 0
    · exact .inr ⟨by simp; omega, by simp; omega⟩
    · exact .inl (by simp; omega)
  have hXI : Lib.hasPrefix s.data.toList [45] = false ∧ digs s.data.toList = [] := by
    refine ⟨pre_no (fun e => c3 (.inl ((hh 45).1 e))), ?_⟩
    cases e : s.data.toList with
    | nil => rfl
    | cons b t =>
      unfold digs
      rw [List.takeWhile_cons_of_neg]
      intro hd
      simp only [isD, decide_eq_true_eq] at hd
      have := (hh b).1 (by rw [e]; rfl)
      omega
  have nn : ∀ l : List UInt8, scI false l = .bad 3 → scS (scI false l) = vs 0 0 ⟨#[]⟩ ⟨#[]⟩ 3 := fun l h => by rw [h]; rfl
  by_cases c5 : Lib.hasPrefix s.data.toList [116, 114, 117, 101] = true
  · have hz4 := pre_len c5
    rw [← Lib.size_eq] at hz4
    have hz4' : (4 : Int) ≤ s.size := by simp at hz4; omega
    have p102 : Lib.hasPrefix s.data.toList [102, 97, 108, 115, 101] = false := pre_no (by rw [pre_hd c5]; decide)
    have hX : scn s.data.toList = scB 1 (s.data.toList.drop 4) := by
      unfold scn
      rw [if_neg (by rw [p34]; decide), if_neg c2, if_pos c5]
    have HT : Hid (∀ w, Calls Tryz.prog 33 #[.string s, .string ⟨#[116, 114, 117, 101]⟩] w fun e w' => e = .returned (.bool true) ∧ w' = w) := fun w => begins_lit s _ _ rfl _ c5 w
    have HL : Hid (∀ w, Calls Tryz.prog 33 #[.string s, .string ⟨#[102, 97, 108, 115, 101]⟩] w fun e w' => e = .returned (.bool false) ∧ w' = w) := fun w => begins_lit s _ _ rfl _ p102 w
    have HG : Hid (∀ w, Calls Tryz.prog 36 #[.string (s.extract 4 s.size)] w fun e w' => e = .returned (.bool (goesL (s.data.toList.drop 4))) ∧ Below w.heap.size w w') := fun w => by
      have := refGoesOn_any (s.extract 4 s.size) w (by rw [ByteArray.size_extract]; omega)
      rw [sub_list] at this
      exact this
    have HR : Hid (s.extract 4 s.size = str (s.data.toList.drop 4)) := ext_from s 4
    unfold scB at hX
    cases hG : goesL (s.data.toList.drop 4)
    · rw [hG] at hX HG
      have HX : Hid (XX = vs 3 1 ⟨#[]⟩ (s.extract 4 s.size) 0) := by show _ = _; rw [← HXX.out, hX, HR.out]; rfl
      clear hX c1 c2 c3 c5 hh HXX p34 p120 p102 hG hXI nn hz4 HL HR
      generalize gN s 0 = g at *
      rcases nd with nd | ⟨nd, nd2⟩
      all_goals
        go_enter Tryz.func11, Tryz.ntmps11
        go_wp2_with fail
        refine (HB.out _).mono ?_
        rintro e0 w1 ⟨rfl, rfl⟩
        go_wp2_with fail
        refine (HT.out _).mono ?_
        rintro e0 w3 ⟨rfl, rfl⟩
        go_wp2_with fail
        refine (HG.out _).mono ?_
        rintro e0 w2 ⟨rfl, hb2⟩
        have HF := tail 0 0 s s 0 w2 hb2
        obtain ⟨⟨c0, c1, c2, c3, c4⟩, ff⟩ := HF.out.1
        clear hb2 tail
        go_wp2
        try simp only [Exit.inBlock, Exit.then]
        exact bodyPost_ret (results_s1 rfl _ _ w.heap.size rfl (HF.out.1.c.set _ _ _ _ _)) rfl ⟨by rw [HX.out], set5_below HF.out.2 _ _ _ _ _⟩
    · rw [hG] at hX HG
      have HX : Hid (XX = vs 0 0 ⟨#[]⟩ ⟨#[]⟩ 3) := by show _ = _; rw [← HXX.out, hX]; rfl
      clear hX c1 c2 c3 c5 hh HXX p34 p120 p102 hG hXI nn hz4 HR
      generalize gN s 0 = g at *
      rcases nd with nd | ⟨nd, nd2⟩
      all_goals
        go_enter Tryz.func11, Tryz.ntmps11
        go_wp2_with fail
        refine (HB.out _).mono ?_
        rintro e0 w1 ⟨rfl, rfl⟩
        go_wp2_with fail
        refine (HT.out _).mono ?_
        rintro e0 w3 ⟨rfl, rfl⟩
        go_wp2_with fail
        refine (HG.out _).mono ?_
        rintro e0 w2 ⟨rfl, hb2⟩
        have HF := tail 0 0 s s 0 w2 hb2
        obtain ⟨⟨c0, c1, c2, c3, c4⟩, ff⟩ := HF.out.1
        clear hb2 tail
        go_wp2_with fail
        refine (HL.out _).mono ?_
        rintro e0 w3 ⟨rfl, hw3⟩
        subst hw3
        go_wp2
        try simp only [Exit.inBlock, Exit.then]
        exact bodyPost_ret (results_s1 rfl _ _ w.heap.size rfl (HF.out.1.c.set _ _ _ _ _)) rfl ⟨by rw [HX.out], set5_below HF.out.2 _ _ _ _ _⟩
  have p116 : Lib.hasPrefix s.data.toList [116, 114, 117, 101] = false := by simpa using c5
  have HT : Hid (∀ w, Calls Tryz.prog 33 #[.string s, .string ⟨#[116, 114, 117, 101]⟩] w fun e w' => e = .returned (.bool false) ∧ w' = w) := fun w => begins_lit s _ _ rfl _ p116 w
  by_cases c6 : Lib.hasPrefix s.data.toList [102, 97, 108, 115, 101] = true
  · have hz5 := pre_len c6
    rw [← Lib.size_eq] at hz5
    have hz5' : (5 : Int) ≤ s.size := by simp at hz5; omega
    have hX : scn s.data.toList = scB 0 (s.data.toList.drop 5) := by
      unfold scn
      rw [if_neg (by rw [p34]; decide), if_neg c2, if_neg c5, if_pos c6]
    have HL : Hid (∀ w, Calls Tryz.prog 33 #[.string s, .string ⟨#[102, 97, 108, 115, 101]⟩] w fun e w' => e = .returned (.bool true) ∧ w' = w) := fun w => begins_lit s _ _ rfl _ c6 w
    have HG : Hid (∀ w, Calls Tryz.prog 36 #[.string (s.extract 5 s.size)] w fun e w' => e = .returned (.bool (goesL (s.data.toList.drop 5))) ∧ Below w.heap.size w w') := fun w => by
      have := refGoesOn_any (s.extract 5 s.size) w (by rw [ByteArray.size_extract]; omega)
      rw [sub_list] at this
      exact this
    have HR : Hid (s.extract 5 s.size = str (s.data.toList.drop 5)) := ext_from s 5
    unfold scB at hX
    cases hG : goesL (s.data.toList.drop 5)
    · rw [hG] at hX HG
      have HX : Hid (XX = vs 3 0 ⟨#[]⟩ (s.extract 5 s.size) 0) := by show _ = _; rw [← HXX.out, hX, HR.out]; rfl
      clear hX c1 c2 c3 c5 c6 hh HXX p34 p120 p116 hG hXI nn hz5 HR
      generalize gN s 0 = g at *
      rcases nd with nd | ⟨nd, nd2⟩
      all_goals
        go_enter Tryz.func11, Tryz.ntmps11
        go_wp2_with fail
        refine (HB.out _).mono ?_
        rintro e0 w1 ⟨rfl, rfl⟩
        go_wp2_with fail
        refine (HT.out _).mono ?_
        rintro e0 w3 ⟨rfl, rfl⟩
        go_wp2_with fail
        refine (HL.out _).mono ?_
        rintro e0 w3 ⟨rfl, rfl⟩
        go_wp2_with fail
        refine (HG.out _).mono ?_
        rintro e0 w2 ⟨rfl, hb2⟩
        have HF := tail 0 0 s s 0 w2 hb2
        obtain ⟨⟨c0, c1, c2, c3, c4⟩, ff⟩ := HF.out.1
        clear hb2 tail
        go_wp2
        try simp only [Exit.inBlock, Exit.then]
        exact bodyPost_ret (results_s1 rfl _ _ w.heap.size rfl (HF.out.1.c.set _ _ _ _ _)) rfl ⟨by rw [HX.out], set5_below HF.out.2 _ _ _ _ _⟩
    · rw [hG] at hX HG
      have HX : Hid (XX = vs 0 0 ⟨#[]⟩ ⟨#[]⟩ 3) := by show _ = _; rw [← HXX.out, hX]; rfl
      clear hX c1 c2 c3 c5 c6 hh HXX p34 p120 p116 hG hXI nn hz5 HR
      generalize gN s 0 = g at *
      rcases nd with nd | ⟨nd, nd2⟩
      all_goals
        go_enter Tryz.func11, Tryz.ntmps11
        go_wp2_with fail
        refine (HB.out _).mono ?_
        rintro e0 w1 ⟨rfl, rfl⟩
        go_wp2_with fail
        refine (HT.out _).mono ?_
        rintro e0 w3 ⟨rfl, rfl⟩
        go_wp2_with fail
        refine (HL.out _).mono ?_
        rintro e0 w3 ⟨rfl, rfl⟩
        go_wp2_with fail
        refine (HG.out _).mono ?_
        rintro e0 w2 ⟨rfl, hb2⟩
        have HF := tail 0 0 s s 0 w2 hb2
        obtain ⟨⟨c0, c1, c2, c3, c4⟩, ff⟩ := HF.out.1
        clear hb2 tail
        go_wp2
        try simp only [Exit.inBlock, Exit.then]
        exact bodyPost_ret (results_s1 rfl _ _ w.heap.size rfl (HF.out.1.c.set _ _ _ _ _)) rfl ⟨by rw [HX.out], set5_below HF.out.2 _ _ _ _ _⟩
  have p102 : Lib.hasPrefix s.data.toList [102, 97, 108, 115, 101] = false := by simpa using c6
  have HL : Hid (∀ w, Calls Tryz.prog 33 #[.string s, .string ⟨#[102, 97, 108, 115, 101]⟩] w fun e w' => e = .returned (.bool false) ∧ w' = w) := fun w => begins_lit s _ _ rfl _ p102 w
  have hX : scn s.data.toList = .bad 3 := by
    unfold scn
    rw [if_neg (by rw [p34]; decide), if_neg c2, if_neg c5, if_neg c6, if_neg (by rw [hXI.1]; decide)]
    exact scI_nodig hXI.2
  have HX : Hid (XX = vs 0 0 ⟨#[]⟩ ⟨#[]⟩ 3) := by show _ = _; rw [← HXX.out, hX]; rfl
  clear hX c1 c2 c3 c5 c6 hh HXX p34 p120 p116 p102 hXI nn
  generalize gN s 0 = g at *
  rcases nd with nd | ⟨nd, nd2⟩
  all_goals
    go_enter Tryz.func11, Tryz.ntmps11
    go_wp2_with fail
    refine (HB.out _).mono ?_
    rintro e0 w1 ⟨rfl, rfl⟩
    go_wp2_with fail
    refine (HT.out _).mono ?_
    rintro e0 w3 ⟨rfl, rfl⟩
    go_wp2_with fail
    refine (HL.out _).mono ?_
    rintro e0 w3 ⟨rfl, rfl⟩
    clear tail Z0
    go_wp2
    try simp only [Exit.inBlock, Exit.then]
    refine bodyPost_ret (v := vs 0 0 ⟨#[]⟩ ⟨#[]⟩ 3) (by simp [results, Tryz.results11, go_sem]) rfl ⟨by rw [HX.out], ?_⟩
    repeat (first | exact Below.refl _ _ | refine Below.setCell ?_ (by exact Nat.le_refl _) _ | refine Below.alloc ?_ (Nat.le_refl _) _)
/-- A value and an error, as the model has them. -/
theorem results_vr {fn : Func} {p u : Tmp} (h : fn.results = #[.cell p 29, .tmp u]) (tmps : Array Value) (W : World) (b : Nat) (hp : tmps.getD p undef = .pointer (some ⟨b, 0, none⟩)) {k n : Int} {s : ByteArray} (h3 : Three b W (.int .i64 k) (.int .i64 n) (.string s)) :
    (results fn tmps).run Tryz.prog W = .ok (.tuple #[vv k n s, tmps.getD u undef]) W := by
  obtain ⟨c0, c1, c2⟩ := h3
  rw [results_cell_tmp h, hp]
  have e : (asAddr (.pointer (some ⟨b, 0, none⟩))).run Tryz.prog W = .ok ⟨b, 0, none⟩ W := rfl
  rw [e]
  simp only [Result.andThen]
  have e2 : (loadVar 29 ⟨b, 0, none⟩).run Tryz.prog W = .ok (vv k n s) W := by go_simp
  rw [e2]
abbrev wrv (w : World) : World := w.alloc (.cells #[.int .i64 0, .int .i64 0, .string ⟨#[]⟩] 29)
theorem wrv_zero (w : World) : Zero w.heap.size (wrv w) := ⟨by simp, by simp, by simp, by simp, by simp, by simp⟩
theorem wrv_below (w : World) : Below w.heap.size w (wrv w) := (Below.refl _ _).alloc (Nat.le_refl _) _
theorem Fr.of' {w w2 : World} (hb : Below (wrv w).heap.size (wrv w) w2) : Fr w w2 := ⟨(wrv_zero w).below hb (by simp), (wrv_below w).trans (hb.mono (by simp))⟩
set_option maxRecDepth 100000 in
set_option maxHeartbeats 4000000 in
theorem refParse_any (s : ByteArray) (w : World) (hs : s.size ≤ 1000000) :
    Calls Tryz.prog 13 #[.string s] w fun e w' => e = .returned (.tuple #[vv (prs s.data.toList).k (prs s.data.toList).n (str (prs s.data.toList).s), .int .i64 (prs s.data.toList).e]) ∧ Below w.heap.size w w' := by
  have HC : Hid (∀ w, Calls Tryz.prog 11 #[.string s] w fun e w' => e = .returned (scS (scn s.data.toList)) ∧ Below w.heap.size w w') := fun w => refScan_any s w hs
  unfold prs
  generalize scn s.data.toList = x at *
  obtain ⟨k, n, S, R, e⟩ := x
  simp only [scS] at HC ⊢
  by_cases he : e = 0
  · subst he
    by_cases hR : R = []
    · subst hR
      simp only [if_true]
      rw [show str [] = ⟨#[]⟩ from rfl] at HC
      generalize str S = T at *
      go_enter Tryz.func13, Tryz.ntmps13
      go_wp2_with fail
      refine (HC.out _).mono ?_
      rintro e0 w2 ⟨rfl, hb2⟩
      have HF : Hid (Fr w w2) := Fr.of' hb2
      obtain ⟨⟨d0, d1, d2, f0, f1, f2⟩, -⟩ := HF.out
      have hlt : w.heap.size < w2.heap.size := by have := hb2.size; simp at this; omega
      have hne : w2.heap.size ≠ w.heap.size := by omega
      clear hb2
      go_wp2
      try simp only [Exit.inBlock, Exit.then]
      refine bodyPost_ret (results_vr rfl _ _ w.heap.size rfl ((HF.out.z.three.set _ _ _).alloc _)) rfl ⟨rfl, (set3_below HF.out.b _ _ _).alloc ?_ _⟩
      have := HF.out.b.size
      simpa using this
    · simp only [if_true, hR, if_false]
      have hR0 : (str R).size ≠ 0 := by rw [str_size]; exact fun e => hR (List.eq_nil_of_length_eq_zero e)
      have he := empty_not _ hR0
      generalize str S = T at *
      generalize str R = Y at *
      clear hR hR0
      rw [show str [] = ⟨#[]⟩ from rfl]
      go_enter Tryz.func13, Tryz.ntmps13
      go_wp2_with fail
      refine (HC.out _).mono ?_
      rintro e0 w2 ⟨rfl, hb2⟩
      have HF : Hid (Fr w w2) := Fr.of' hb2
      obtain ⟨⟨d0, d1, d2, f0, f1, f2⟩, -⟩ := HF.out
      have hlt : w.heap.size < w2.heap.size := by have := hb2.size; simp at this; omega
      have hne : w2.heap.size ≠ w.heap.size := by omega
      clear hb2
      go_wp2
      try simp only [Exit.inBlock, Exit.then]
      refine bodyPost_ret (results_vr rfl _ _ w.heap.size rfl ((HF.out.z.three.set _ _ _).alloc _)) rfl ⟨rfl, (set3_below HF.out.b _ _ _).alloc ?_ _⟩
      have := HF.out.b.size
      simpa using this
  · simp only [he, if_false]
    have he' : (e != 0) = true := by rw [bne_iff_ne]; exact he
    rw [show str [] = ⟨#[]⟩ from rfl]
    generalize str S = T at *
    generalize str R = Y at *
    clear he
    go_enter Tryz.func13, Tryz.ntmps13
    go_wp2_with fail
    refine (HC.out _).mono ?_
    rintro e0 w2 ⟨rfl, hb2⟩
    have HF : Hid (Fr w w2) := Fr.of' hb2
    obtain ⟨⟨d0, d1, d2, f0, f1, f2⟩, -⟩ := HF.out
    have hlt : w.heap.size < w2.heap.size := by have := hb2.size; simp at this; omega
    have hne : w2.heap.size ≠ w.heap.size := by omega
    clear hb2
    go_wp2
    go_region
    all_goals go_wp2
    all_goals (try simp only [Exit.inBlock, Exit.then])
    all_goals refine bodyPost_ret (results_vr rfl _ _ w.heap.size rfl (((HF.out.z.three.set _ _ _).alloc _).drew)) rfl ⟨rfl, ((set3_below HF.out.b _ _ _).alloc ?_ _).drew⟩
    all_goals
      have := HF.out.b.size
      simpa using this
end Go.Proofs.YtdendpckihckeaaGreatDoor
