/- The reference's integer: its walk. -/
import Derived.Test.YtdendpckihckeaaGreatDoorXN
namespace Go.Proofs.YtdendpckihckeaaGreatDoor
open Go.RowKit

/-- How many digits stand at the front from a place on. -/
theorem digs_at (l : List UInt8) (k : Nat) : digs (l.drop k) = if h : k < l.length then (if isD l[k] = true then l[k] :: digs (l.drop (k + 1)) else []) else [] := by
  by_cases h : k < l.length
  · rw [dif_pos h, List.drop_eq_getElem_cons h]
    unfold digs
    by_cases hd : isD l[k] = true
    · rw [if_pos hd, List.takeWhile_cons_of_pos hd]
    · rw [if_neg hd, List.takeWhile_cons_of_neg hd]
  · rw [dif_neg h, List.drop_of_length_le (by omega)]
    rfl
/-- What holds of integer's loop at every round: digits d were read, l stands behind them. -/
def InRel (s : ByteArray) (at' : Nat) (w wr : World) (n k i : Value) : Prop :=
  ∃ d : List UInt8, n = .int .i64 ((numOf (d.take 17) : Nat) : Int) ∧ k = .int .i64 d.length ∧ i = .int .i64 ((at' + d.length : Nat) : Int) ∧ at' + d.length ≤ s.size ∧ d ++ digs (s.data.toList.drop (at' + d.length)) = digs (s.data.toList.drop at') ∧ (∀ b ∈ d, isD b = true) ∧ Zf w.heap.size wr ∧ Below w.heap.size w wr
theorem take17 (d : List UInt8) (h : d.length < 17) : d.take 17 = d := List.take_of_length_le (by omega)
theorem num17 (d : List UInt8) (b : UInt8) : numOf ((d ++ [b]).take 17) = if d.length < 17 then 10 * numOf (d.take 17) + (b.toNat - 48) else numOf (d.take 17) := by
  by_cases h : d.length < 17
  · rw [if_pos h, take17 d h, List.take_of_length_le (by simp; omega), numOf_snoc]
  · rw [if_neg h, List.take_append_of_le_length (by omega)]
theorem num17_lt (d : List UInt8) (hd : ∀ b ∈ d, isD b = true) : numOf (d.take 17) < 10 ^ 17 := by
  have h3 := numOf_lt (d.take 17).length (d.take 17) rfl (fun b hb => hd b (List.mem_of_mem_take hb))
  refine Nat.lt_of_lt_of_le h3 (Nat.pow_le_pow_right (by decide) ?_)
  rw [List.length_take]
  omega
theorem num16_lt (d : List UInt8) (hd : ∀ b ∈ d, isD b = true) (h : d.length < 17) : numOf (d.take 17) < 10 ^ 16 := by
  rw [take17 d h]
  have h3 := numOf_lt d.length d rfl hd
  exact Nat.lt_of_lt_of_le h3 (Nat.pow_le_pow_right (by decide) (by omega))
theorem digs_hd (l : List UInt8) (h : digs l ≠ []) : (digs l).getD 0 0 = l.getD 0 0 := by
  cases l with
  | nil => exact absurd rfl h
  | cons b t =>
    unfold digs at h ⊢
    by_cases hd : isD b = true
    · rw [List.takeWhile_cons_of_pos hd]; rfl
    · rw [List.takeWhile_cons_of_neg hd] at h
      exact absurd rfl h
set_option maxRecDepth 100000 in
set_option maxHeartbeats 8000000 in
theorem refInt_neg (s : ByteArray) (w : World) (hs : s.size ≤ 1000000) (h0 : 0 < s.size) (hn : gN s 0 = 45) :
    Calls Tryz.prog 35 #[.string s] w fun e w' => e = .returned (scS (scI true (s.data.toList.drop 1))) ∧ Below w.heap.size w w' := by
  obtain ⟨XX, HXX⟩ : ∃ XX, Hid (scS (scI true (s.data.toList.drop 1)) = XX) := ⟨_, rfl⟩
  rw [HXX.out]
  have hs0 : (0 : Int) < s.size := by omega
  have hg := gN_of s 0 h0
  have hlt := gN_lt s 0
  have Z0 : Hid (Zf w.heap.size (wf w)) := Zf.new w
  rw [hn] at hg
  clear hn hlt
  go_enter Tryz.func35, Tryz.ntmps35
  go_wp2_with fail
  go_loopw [4, 5, 6] (fun n k i wr => InRel s 1 w wr n k i) (fun _ _ i _ => s.size - (RowKit.intOf i).toNat)
  case atStart => exact ⟨[], rfl, rfl, rfl, by simp only [List.length_nil]; omega, rfl, by simp, Z0.out, wf_below w⟩
  case round =>
    obtain ⟨d, rfl, rfl, rfl, hle, hck, hall, hZr, hBr⟩ := hrel
    have ZR : Hid (Zf w.heap.size wr) := hZr
    have BR : Hid (Below w.heap.size w wr) := hBr
    clear hZr hBr Z0
    have hN := num17_lt d hall
    have hN6 := num16_lt d hall
    have HS := num17 d
    obtain ⟨m, hm⟩ : ∃ m, d.length = m := ⟨_, rfl⟩
    obtain ⟨p, hp⟩ : ∃ p, 1 + d.length = p := ⟨_, rfl⟩
    have hpm : p = 1 + m := by omega
    rw [hp] at hck hle ⊢
    rw [hm] at HS hN6 ⊢
    generalize hNN : numOf (d.take 17) = N at *
    have HD : Hid (d.length = m ∧ p = 1 + m ∧ numOf (d.take 17) = N ∧ d ++ digs (s.data.toList.drop p) = digs (s.data.toList.drop 1) ∧ (∀ b ∈ d, isD b = true)) := ⟨hm, hpm, hNN, hck, hall⟩
    have hm1 : m ≤ 1000000 := by omega
    have HSN : Hid (∀ b : UInt8, numOf ((d ++ [b]).take 17) = if m < 17 then 10 * N + (b.toNat - 48) else N) := HS
    have hN6' : m < 17 → N < 10000000000000000 := hN6
    clear hck hall HS hp hm hNN hN6 hpm
    have hb1 : N < 100000000000000000 := hN
    clear hN
    by_cases hd : ∃ h : p < s.size, isD ((s.data.toList)[p]'(by rw [← Lib.size_eq]; exact h)) = true
    · obtain ⟨hps, hdig⟩ := hd
      have hpl : p < s.data.toList.length := by rw [← Lib.size_eq]; exact hps
      have hgp := gN_of s p hps
      have hgl : gN s p = ((s.data.toList)[p]'hpl).toNat := by rw [gN_list s p hps, List.getD_eq_getElem?_getD, List.getElem?_eq_getElem hpl]; rfl
      have hstep : digs (s.data.toList.drop p) = (s.data.toList)[p]'hpl :: digs (s.data.toList.drop (p + 1)) := by rw [digs_at, dif_pos hpl, if_pos hdig]
      generalize (s.data.toList)[p]'hpl = b at *
      have hdd := hdig
      simp only [isD, decide_eq_true_eq] at hdd
      rw [hgl] at hgp
      have hi : (p : Int) < s.size := by omega
      have d1 : decide ((48 : Int) ≤ b.toNat) = true := by simp; omega
      have d2 : decide ((b.toNat : Int) ≤ 57) = true := by simp; omega
      obtain ⟨x1, x2⟩ := hdd
      by_cases h17 : m < 17
      · have d17 : decide ((m : Int) < 17) = true := by simp; omega
        have hb2 := hN6' h17
        have HR : Hid (InRel s 1 w wr (.int .i64 ((10 * (N : Int) + b.toNat) - 48)) (.int .i64 ((m : Int) + 1)) (.int .i64 ((p : Int) + 1))) := by
          obtain ⟨q1, q2, q3, q4, q5⟩ := HD.out
          refine ⟨d ++ [b], ?_, ?_, ?_, by simp; omega, ?_, ?_, ZR.out, BR.out⟩
          · rw [HSN.out b, if_pos h17]; congr 1; omega
          · rw [List.length_append, q1]; rfl
          · rw [List.length_append, q1]; congr 1; simp; omega
          · rw [List.length_append, q1, ← q4, hstep, show 1 + (m + [b].length) = p + 1 by simp; omega]; simp
          · intro x hx
            rcases List.mem_append.1 hx with hx | hx
            · exact q5 x hx
            · rw [List.mem_singleton.1 hx]; exact hdig
        clear hgl hstep hdig hN6' HD HSN
        go_wp2
        exact ⟨HR.out, by simp [RowKit.intOf]; omega⟩
      · have d17 : decide ((m : Int) < 17) = false := by simp; omega
        have HR : Hid (InRel s 1 w wr (.int .i64 (N : Int)) (.int .i64 ((m : Int) + 1)) (.int .i64 ((p : Int) + 1))) := by
          obtain ⟨q1, q2, q3, q4, q5⟩ := HD.out
          refine ⟨d ++ [b], ?_, ?_, ?_, by simp; omega, ?_, ?_, ZR.out, BR.out⟩
          · rw [HSN.out b, if_neg h17]
          · rw [List.length_append, q1]; rfl
          · rw [List.length_append, q1]; congr 1; simp; omega
          · rw [List.length_append, q1, ← q4, hstep, show 1 + (m + [b].length) = p + 1 by simp; omega]; simp
          · intro x hx
            rcases List.mem_append.1 hx with hx | hx
            · exact q5 x hx
            · rw [List.mem_singleton.1 hx]; exact hdig
        clear hgl hstep hdig hN6' HD HSN
        go_wp2
        exact ⟨HR.out, by simp [RowKit.intOf]; omega⟩
    · have hend : digs (s.data.toList.drop p) = [] := by
        rw [digs_at]
        by_cases h : p < s.data.toList.length
        · rw [dif_pos h, if_neg]
          intro e
          exact hd ⟨by rw [Lib.size_eq]; exact h, e⟩
        · rw [dif_neg h]
      have cnd : (¬ p < s.size) ∨ (∃ y, ∃ h : p < s.size, y < 256 ∧ (p : Int) < s.size ∧ (s[p]'h).toNat = y ∧ decide ((48 : Int) ≤ y) = false) ∨ (∃ y, ∃ h : p < s.size, y < 256 ∧ (p : Int) < s.size ∧ (s[p]'h).toNat = y ∧ decide ((48 : Int) ≤ y) = true ∧ decide ((y : Int) ≤ 57) = false) := by
        by_cases h : p < s.size
        · have hpl : p < s.data.toList.length := by rw [← Lib.size_eq]; exact h
          have hgl : gN s p = ((s.data.toList)[p]'hpl).toNat := by rw [gN_list s p h, List.getD_eq_getElem?_getD, List.getElem?_eq_getElem hpl]; rfl
          have hnd : ¬ isD ((s.data.toList)[p]'hpl) = true := fun e => hd ⟨h, e⟩
          simp only [isD, decide_eq_true_eq] at hnd
          rw [← hgl] at hnd
          by_cases h48 : 48 ≤ gN s p
          · exact .inr (.inr ⟨gN s p, h, gN_lt s p, by omega, gN_of s p h, by simp; omega, by simp; omega⟩)
          · exact .inr (.inl ⟨gN s p, h, gN_lt s p, by omega, gN_of s p h, by simp; omega⟩)
        · exact .inl h
      obtain ⟨q1, q2, q3, q4, q5⟩ := HD.out
      rw [hend, List.append_nil] at q4
      have HX : Hid (scI true (s.data.toList.drop 1) = if d = [] ∨ (d.head? = some 48 ∧ (true = true ∨ 1 < d.length)) then .bad 3 else if 16 < d.length ∨ 9007199254740991 < numOf d then .bad 2 else ⟨1, if true = true then -(numOf d : Int) else numOf d, [], (s.data.toList.drop 1).drop d.length, 0⟩) := by
        show _ = _
        rw [q4]
        rfl
      have HXR : Hid (s.extract p s.size = str ((s.data.toList.drop 1).drop d.length)) := by
        show _ = _
        rw [ext_from, List.drop_drop, q1, q2]
      have hp1 : (p : Int) ≤ s.size := by omega
      have hpe : (1 : Int) + m = p := by omega
      obtain ⟨⟨c0, c1, c2, c3, c4⟩, ff⟩ := ZR.out
      by_cases m0 : m = 0
      · have HE : Hid (scI true (s.data.toList.drop 1) = .bad 3) := by
          show _ = _
          rw [HX.out, if_pos (.inl (List.eq_nil_of_length_eq_zero (by omega)))]
        subst m0
        clear HX HXR q1 q2 q3 q4 q5 HD HSN hd hend hN6' hpe
        rcases cnd with cnd | ⟨y, hps, hy, hi, hgy, cnd⟩ | ⟨y, hps, hy, hi, hgy, cnd, cnd2⟩
        all_goals
          go_wp2
          try simp only [Exit.inBlock, Exit.then]
          exact bodyPost_ret (results_s1 rfl _ _ w.heap.size rfl (ZR.out.c.set _ _ _ _ _)) rfl ⟨by rw [← HXX.out, HE.out]; rfl, set5_below BR.out _ _ _ _ _⟩
      have hdne : d ≠ [] := fun e => m0 (by rw [← q1, e]; rfl)
      have hA : 1 < s.size := by omega
      have hAi : (1 : Int) < s.size := by omega
      have hgA := gN_of s 1 hA
      have hhd : d.head? = some 48 ↔ gN s 1 = 48 := by
        rw [q4, head_getD (by rw [← q4]; exact hdne), digs_hd _ (by rw [← q4]; exact hdne), gN_list s 1 hA, List.getD_eq_getElem?_getD, List.getElem?_drop, Nat.add_zero, ← List.getD_eq_getElem?_getD]
        constructor
        · intro h; rw [Option.some.inj h]; rfl
        · intro h; exact congrArg some (UInt8.toNat_inj.1 h)
      have hgl := gN_lt s 1
      generalize gN s 1 = y0 at *
      have hm0 : ((m : Int) == 0) = false := by rw [beq_eq_false_iff_ne]; omega
      by_cases cf : y0 = 48 ∧ (true = true ∨ 1 < m)
      · have HE : Hid (scI true (s.data.toList.drop 1) = .bad 3) := by
          show _ = _
          rw [HX.out, if_pos (.inr ⟨hhd.2 cf.1, by rw [q1]; exact cf.2⟩)]
        obtain ⟨rfl, cf⟩ := cf
        have cg : decide ((1 : Int) < m) = true ∨ (decide ((1 : Int) < m) = false ∧ true = true) := by
          by_cases h : 1 < m
          · exact .inl (by simp; omega)
          · exact .inr ⟨by simp; omega, cf.elim id (fun e => absurd e h)⟩
        clear HX HXR q1 q2 q3 q4 q5 HD HSN hd hend hN6' hpe hhd hdne cf
        rcases cnd with cnd | ⟨y, hps, hy, hi, hgy, cnd⟩ | ⟨y, hps, hy, hi, hgy, cnd, cnd2⟩
        all_goals
          rcases cg with cg | ⟨cg, ch⟩
          all_goals
            first
              | (exfalso; exact absurd ch (by decide))
              | (go_wp2
                 try simp only [Exit.inBlock, Exit.then]
                 exact bodyPost_ret (results_s1 rfl _ _ w.heap.size rfl (ZR.out.c.set _ _ _ _ _)) rfl ⟨by rw [← HXX.out, HE.out]; rfl, set5_below BR.out _ _ _ _ _⟩)
      have HNF : Hid (¬ (d = [] ∨ (d.head? = some 48 ∧ (true = true ∨ 1 < d.length)))) := by
        rintro (e | ⟨e, f⟩)
        · exact hdne e
        · exact cf ⟨hhd.1 e, by rw [← q1]; exact f⟩
      have cg : ((y0 : Int) == 48) = false ∨ (y0 = 48 ∧ true = false ∧ decide ((1 : Int) < m) = false) := by
        by_cases e : y0 = 48
        · refine .inr ⟨e, ?_, ?_⟩
          · first | rfl | exact absurd ⟨e, .inl rfl⟩ cf
          · simp only [decide_eq_false_iff_not]
            intro h
            exact cf ⟨e, .inr (by omega)⟩
        · exact .inl (by rw [beq_eq_false_iff_ne]; omega)
      clear cf hhd
      by_cases c16 : 16 < m
      · have d16 : decide ((16 : Int) < m) = true := by simp; omega
        have HE : Hid (scI true (s.data.toList.drop 1) = .bad 2) := by
          show _ = _
          rw [HX.out, if_neg HNF.out, if_pos (.inl (by rw [q1]; exact c16))]
        clear HX HXR q1 q2 q3 q4 q5 HD HSN hd hend hN6' hpe hdne HNF
        rcases cnd with cnd | ⟨y, hps, hy, hi, hgy, cnd⟩ | ⟨y, hps, hy, hi, hgy, cnd, cnd2⟩
        all_goals
          rcases cg with cg | ⟨rfl, ch, cg⟩
          all_goals
            first
              | (exfalso; exact absurd ch (by decide))
              | (go_wp2
                 try simp only [Exit.inBlock, Exit.then]
                 exact bodyPost_ret (results_s1 rfl _ _ w.heap.size rfl (ZR.out.c.set _ _ _ _ _)) rfl ⟨by rw [← HXX.out, HE.out]; rfl, set5_below BR.out _ _ _ _ _⟩)
      have d16 : decide ((16 : Int) < m) = false := by simp; omega
      have hNd : numOf d = N := by rw [← q3, take17 d (by omega)]
      by_cases cM : 9007199254740991 < N
      · have dM : decide ((9007199254740991 : Int) < N) = true := by simp; omega
        have HE : Hid (scI true (s.data.toList.drop 1) = .bad 2) := by
          show _ = _
          rw [HX.out, if_neg HNF.out, if_pos (.inr (by rw [hNd]; exact cM))]
        clear HX HXR q1 q2 q3 q4 q5 HD HSN hd hend hN6' hpe hdne HNF hNd
        rcases cnd with cnd | ⟨y, hps, hy, hi, hgy, cnd⟩ | ⟨y, hps, hy, hi, hgy, cnd, cnd2⟩
        all_goals
          rcases cg with cg | ⟨rfl, ch, cg⟩
          all_goals
            first
              | (exfalso; exact absurd ch (by decide))
              | (go_wp2
                 try simp only [Exit.inBlock, Exit.then]
                 exact bodyPost_ret (results_s1 rfl _ _ w.heap.size rfl (ZR.out.c.set _ _ _ _ _)) rfl ⟨by rw [← HXX.out, HE.out]; rfl, set5_below BR.out _ _ _ _ _⟩)
      · have dM : decide ((9007199254740991 : Int) < N) = false := by simp; omega
        have HE : Hid (scI true (s.data.toList.drop 1) = ⟨1, if true = true then -(N : Int) else N, [], (s.data.toList.drop 1).drop d.length, 0⟩) := by
          show _ = _
          rw [HX.out, if_neg HNF.out, if_neg (fun h => h.elim (fun h => c16 (by rw [← q1]; exact h)) (fun h => cM (by rw [← hNd]; exact h))), hNd]
        have hN2 : N ≤ 9007199254740991 := by omega
        clear HX q1 q2 q3 q4 q5 HD HSN hd hend hN6' hdne HNF hNd
        rcases cnd with cnd | ⟨y, hps, hy, hi, hgy, cnd⟩ | ⟨y, hps, hy, hi, hgy, cnd, cnd2⟩
        all_goals
          rcases cg with cg | ⟨rfl, ch, cg⟩
          all_goals
            first
              | (exfalso; exact absurd ch (by decide))
              | (go_wp2
                 try simp only [Exit.inBlock, Exit.then]
                 exact bodyPost_ret (results_s1 rfl _ _ w.heap.size rfl (ZR.out.c.set _ _ _ _ _)) rfl ⟨by rw [← HXX.out, HE.out, scS, ← HXR.out]; rfl, set5_below BR.out _ _ _ _ _⟩)
end Go.Proofs.YtdendpckihckeaaGreatDoor
