/- The reference's GoesOn and integer: walks. -/
import Derived.Test.YtdendpckihckeaaGreatDoorXM
import Derived.Test.YtdendpckihckeaaGreatDoorXL
import Derived.Test.YtdendpckihckeaaGreatDoorSF
namespace Go.Proofs.YtdendpckihckeaaGreatDoor
open Go.RowKit

theorem goes_fst (s : ByteArray) : goesL s.data.toList = if (fst s).2 = 0 then false else (letterN (fst s).1 || ((fst s).1 == 95 || ((fst s).1 == 45 || decide (48 ≤ (fst s).1 ∧ (fst s).1 ≤ 57)))) := by
  rw [goes_go]
  by_cases hz : s.size = 0
  · have ed : Lib.decodeGo s = (65533, 0) := by unfold Lib.decodeGo; rw [if_pos hz]
    have e : fst s = (0, 0) := by unfold fst; rw [if_pos (.inl hz)]
    rw [ed, e]
    decide +kernel
  · have ed : Lib.decodeGo s = Utf8.decode s 0 := by unfold Lib.decodeGo; rw [if_neg hz]
    rw [ed]
    by_cases hb : (Utf8.decode s 0).1 = 65533 ∧ (Utf8.decode s 0).2 = 1
    · have e : fst s = (0, 0) := by unfold fst; rw [if_pos (.inr hb)]
      rw [e, hb.1]
      decide +kernel
    · have e : fst s = Utf8.decode s 0 := by unfold fst; rw [if_neg (fun h => h.elim hz hb)]
      have hw := Lib.decode_width_pos s 0 (by omega)
      rw [e, if_neg (by omega)]
      generalize (Utf8.decode s 0).1 = c
      cases letterN c <;> cases (c == 95) <;> cases (c == 45) <;> cases decide (48 ≤ c ∧ c ≤ 57) <;> rfl
theorem fst_lt (s : ByteArray) : (fst s).1 ≤ 1114111 := by
  unfold fst
  split
  · decide
  · have := Lib.rune_le s 0
    omega
set_option maxRecDepth 100000 in
set_option maxHeartbeats 4000000 in
theorem refGoesOn_any (s : ByteArray) (w : World) (hs : s.size ≤ 140737488355328) :
    Calls Tryz.prog 36 #[.string s] w fun e w' => e = .returned (.bool (goesL s.data.toList)) ∧ Below w.heap.size w w' := by
  have HF : Hid (∀ w, Calls Tryz.prog 53 #[.string s] w fun e w' => FsPost s w e w') := fun w => first_any s w hs
  rw [goes_fst]
  have hc1 := fst_lt s
  unfold FsPost at HF
  generalize fst s = p at *
  obtain ⟨c, d⟩ := p
  simp only at hc1 HF ⊢
  rw [← letterZ_nat]
  have HL : Hid (∀ w : World, Calls Tryz.prog 68 #[.int .i64 (c : Int)] w fun e w' => e = .returned (.bool (letterZ c)) ∧ w' = w) := fun w => refLetter_any c w
  by_cases hd : d = 0
  · subst hd
    rw [if_pos rfl]
    go_enter Tryz.func36, Tryz.ntmps36
    go_wp2_with fail
    refine (HF.out _).mono ?_
    rintro e w1 ⟨rfl, hb1⟩
    have hB : Below w.heap.size w _ := hb1.alloc hb1.size (.cells #[.int .i64 (c : Int), .int .i64 ((0 : Nat) : Int)] 82)
    clear hb1
    go_wp2
    go_ret
    exact ⟨rfl, by simpa using hB⟩
  · rw [if_neg hd]
    have hd' : 0 < d := by omega
    generalize letterZ (c : Int) = L at *
    clear hd
    have k1 : (decide ((48 : Int) ≤ c) = true ∧ decide ((c : Int) ≤ 57) = true ∧ decide (48 ≤ c ∧ c ≤ 57) = true) ∨ (decide ((48 : Int) ≤ c) = true ∧ decide ((c : Int) ≤ 57) = false ∧ decide (48 ≤ c ∧ c ≤ 57) = false) ∨ (decide ((48 : Int) ≤ c) = false ∧ decide (48 ≤ c ∧ c ≤ 57) = false) := by
      by_cases h1 : 48 ≤ c
      · by_cases h2 : c ≤ 57
        · exact .inl ⟨by simp; omega, by simp; omega, by simp; omega⟩
        · exact .inr (.inl ⟨by simp; omega, by simp; omega, by simp; omega⟩)
      · exact .inr (.inr ⟨by simp; omega, by simp; omega⟩)
    have k2 : (((c : Int) == 95) = true ∧ (c == 95) = true) ∨ (((c : Int) == 95) = false ∧ (c == 95) = false) := by
      by_cases h : c = 95
      · exact .inl ⟨by subst h; rfl, by subst h; rfl⟩
      · exact .inr ⟨by rw [beq_eq_false_iff_ne]; omega, by rw [beq_eq_false_iff_ne]; exact h⟩
    have k3 : (((c : Int) == 45) = true ∧ (c == 45) = true) ∨ (((c : Int) == 45) = false ∧ (c == 45) = false) := by
      by_cases h : c = 45
      · exact .inl ⟨by subst h; rfl, by subst h; rfl⟩
      · exact .inr ⟨by rw [beq_eq_false_iff_ne]; omega, by rw [beq_eq_false_iff_ne]; exact h⟩
    obtain ⟨R, HR⟩ : ∃ R, Hid ((L || ((c == 95) || ((c == 45) || decide (48 ≤ c ∧ c ≤ 57)))) = R) := ⟨_, rfl⟩
    rw [HR.out]
    cases L
    · rcases k2 with ⟨k2, k2'⟩ | ⟨k2, k2'⟩
      · rw [k2'] at HR
        have HR2 : Hid (true = R) := HR.out
        clear k1 k3 HR k2'
        go_enter Tryz.func36, Tryz.ntmps36
        go_wp2_with fail
        refine (HF.out _).mono ?_
        rintro e w1 ⟨rfl, hb1⟩
        have hB : Below w.heap.size w _ := hb1.alloc hb1.size (.cells #[.int .i64 (c : Int), .int .i64 (d : Int)] 82)
        clear hb1
        go_wp2_with (go_at_call 68; refine (HL.out _).mono ?_; rintro e w' ⟨rfl, rfl⟩)
        go_ret
        exact ⟨by rw [← HR2.out]; rfl, by simpa using hB⟩
      · rw [k2'] at HR
        rcases k3 with ⟨k3, k3'⟩ | ⟨k3, k3'⟩
        · rw [k3'] at HR
          have HR2 : Hid (true = R) := HR.out
          clear k1 HR k2' k3'
          go_enter Tryz.func36, Tryz.ntmps36
          go_wp2_with fail
          refine (HF.out _).mono ?_
          rintro e w1 ⟨rfl, hb1⟩
          have hB : Below w.heap.size w _ := hb1.alloc hb1.size (.cells #[.int .i64 (c : Int), .int .i64 (d : Int)] 82)
          clear hb1
          go_wp2_with (go_at_call 68; refine (HL.out _).mono ?_; rintro e w' ⟨rfl, rfl⟩)
          go_ret
          exact ⟨by rw [← HR2.out]; rfl, by simpa using hB⟩
        · rw [k3'] at HR
          rcases k1 with ⟨k1, k4, k1'⟩ | ⟨k1, k4, k1'⟩ | ⟨k1, k1'⟩
          all_goals
            rw [k1'] at HR
            have HR2 : Hid (_ = R) := HR.out
            clear HR k2' k3' k1'
            go_enter Tryz.func36, Tryz.ntmps36
            go_wp2_with fail
            refine (HF.out _).mono ?_
            rintro e w1 ⟨rfl, hb1⟩
            have hB : Below w.heap.size w _ := hb1.alloc hb1.size (.cells #[.int .i64 (c : Int), .int .i64 (d : Int)] 82)
            clear hb1
            go_wp2_with (go_at_call 68; refine (HL.out _).mono ?_; rintro e w' ⟨rfl, rfl⟩)
            go_ret
            exact ⟨by rw [← HR2.out]; rfl, by simpa using hB⟩
    · have HR2 : Hid (true = R) := HR.out
      clear k1 k2 k3 HR
      go_enter Tryz.func36, Tryz.ntmps36
      go_wp2_with fail
      refine (HF.out _).mono ?_
      rintro e w1 ⟨rfl, hb1⟩
      have hB : Below w.heap.size w _ := hb1.alloc hb1.size (.cells #[.int .i64 (c : Int), .int .i64 (d : Int)] 82)
      clear hb1
      go_wp2_with (go_at_call 68; refine (HL.out _).mono ?_; rintro e w' ⟨rfl, rfl⟩)
      go_ret
      exact ⟨by rw [← HR2.out]; rfl, by simpa using hB⟩
/-- A reading, as the model has it. -/
def scS (x : Sc) : Value := vs x.k x.n (str x.s) (str x.r) x.e
theorem scS_bad (e : Int) : scS (.bad e) = vs 0 0 ⟨#[]⟩ ⟨#[]⟩ e := rfl
end Go.Proofs.YtdendpckihckeaaGreatDoor
