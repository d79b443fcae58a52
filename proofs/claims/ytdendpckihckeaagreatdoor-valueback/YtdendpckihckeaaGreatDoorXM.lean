/- The reference's digit, begins, GoesOn, control: walks. -/
import Derived.Test.YtdendpckihckeaaGreatDoorXK
import Derived.Test.YtdendpckihckeaaGreatDoorWD
import Derived.Test.YtdendpckihckeaaGreatDoorVS
import Derived.Test.YtdendpckihckeaaGreatDoorNA
namespace Go.Proofs.YtdendpckihckeaaGreatDoor
open Go.RowKit

set_option maxRecDepth 100000 in
set_option maxHeartbeats 2000000 in
theorem refLetter_any (c : Int) (w : World) :
    Calls Tryz.prog 68 #[.int .i64 c] w fun e w' => e = .returned (.bool (letterZ c)) ∧ w' = w := by
  go_enter Tryz.func68, Tryz.ntmps68
  go_wp2
  all_goals go_ret
  all_goals refine ⟨?_, rfl⟩
  all_goals refine congrArg (fun b => Ending.returned (Value.bool b)) ?_
  all_goals (rw [Bool.eq_iff_iff]; try simp only [decide_eq_true_eq, bne_iff_ne, ne_eq] at *)
  all_goals (simp only [letterZ, Bool.false_eq_true, Bool.or_eq_true, Bool.and_eq_true, bne_iff_ne, ne_eq, decide_eq_true_eq, true_iff, false_iff]; omega)
theorem hxI_cases : ∀ n : Fin 256, hxI n.val = if 48 ≤ n.val ∧ n.val ≤ 57 then (n.val : Int) - 48 else if 97 ≤ n.val ∧ n.val ≤ 102 then (n.val : Int) - 87 else -1 := by decide +kernel
set_option maxRecDepth 100000 in
set_option maxHeartbeats 2000000 in
theorem refDigit_any (c : Int) (b : Nat) (w : World) (hc : c = (b : Int)) (h : b < 256) :
    Calls Tryz.prog 67 #[.int .u8 c] w fun e w' => e = .returned (.int .i64 (hxI b)) ∧ w' = w := by
  subst hc
  have hh := hxI_cases ⟨b, h⟩
  simp only at hh
  by_cases h1 : 48 ≤ b ∧ b ≤ 57
  · rw [hh, if_pos h1]
    obtain ⟨a1, a2⟩ := h1
    have d1 : decide ((48 : Int) ≤ b) = true := by simp; omega
    have d2 : decide ((b : Int) ≤ 57) = true := by simp; omega
    clear hh
    go_enter Tryz.func67, Tryz.ntmps67
    go_wp2
    go_ret
    exact ⟨rfl, rfl⟩
  · rw [if_neg h1] at hh
    have d1 : decide ((48 : Int) ≤ b) = false ∨ (decide ((48 : Int) ≤ b) = true ∧ decide ((b : Int) ≤ 57) = false) := by
      by_cases e : 48 ≤ b
      · exact .inr ⟨by simp; omega, by simp; omega⟩
      · exact .inl (by simp; omega)
    by_cases h2 : 97 ≤ b ∧ b ≤ 102
    · rw [hh, if_pos h2]
      obtain ⟨a1, a2⟩ := h2
      have d3 : decide ((97 : Int) ≤ b) = true := by simp; omega
      have d4 : decide ((b : Int) ≤ 102) = true := by simp; omega
      clear hh h1
      rcases d1 with d1 | ⟨d1, d2⟩
      all_goals
        go_enter Tryz.func67, Tryz.ntmps67
        go_wp2
        go_ret
        exact ⟨rfl, rfl⟩
    · rw [hh, if_neg h2]
      have d3 : decide ((97 : Int) ≤ b) = false ∨ (decide ((97 : Int) ≤ b) = true ∧ decide ((b : Int) ≤ 102) = false) := by
        by_cases e : 97 ≤ b
        · exact .inr ⟨by simp; omega, by simp; omega⟩
        · exact .inl (by simp; omega)
      clear hh h1 h2
      rcases d1 with d1 | ⟨d1, d2⟩
      all_goals
        rcases d3 with d3 | ⟨d3, d4⟩
        all_goals
          go_enter Tryz.func67, Tryz.ntmps67
          go_wp2
          go_ret
          exact ⟨rfl, rfl⟩
theorem pre_take (l p : List UInt8) : Lib.hasPrefix l p = decide (p.length ≤ l.length ∧ l.take p.length = p) := by
  rw [Bool.eq_iff_iff, decide_eq_true_eq]
  unfold Lib.hasPrefix
  rw [List.isPrefixOf_iff_prefix]
  constructor
  · intro h
    exact ⟨h.length_le, (List.prefix_iff_eq_take.1 h).symm⟩
  · rintro ⟨-, h⟩
    exact ⟨l.drop p.length, by conv => lhs; rw [← h]
                               rw [h]; exact (congrArg (· ++ l.drop p.length) h.symm).trans (List.take_append_drop _ _)⟩
set_option maxRecDepth 100000 in
set_option maxHeartbeats 2000000 in
theorem refBegins_any (s t : ByteArray) (w : World) :
    Calls Tryz.prog 33 #[.string s, .string t] w fun e w' => e = .returned (.bool (Lib.hasPrefix s.data.toList t.data.toList)) ∧ w' = w := by
  have hp := pre_take s.data.toList t.data.toList
  rw [← Lib.size_eq, ← Lib.size_eq] at hp
  by_cases h : t.size ≤ s.size
  · have d1 : decide ((t.size : Int) ≤ s.size) = true := by simp; omega
    have h' : (t.size : Int) ≤ s.size := by omega
    have HB : Hid (((s.extract 0 t.size).toList == t.toList) = Lib.hasPrefix s.data.toList t.data.toList) := by
      show _ = _
      rw [hp, beq_str, Bool.eq_iff_iff, decide_eq_true_eq, decide_eq_true_eq, ext5]
      constructor
      · intro e
        have e2 := congrArg (fun b : ByteArray => b.data.toList) e
        simp only [str_data] at e2
        exact ⟨h, e2⟩
      · rintro ⟨-, e⟩; rw [e, str_of]
    clear hp
    go_enter Tryz.func33, Tryz.ntmps33
    go_wp2
    go_ret
    exact ⟨by rw [← HB.out]; rfl, rfl⟩
  · have d1 : decide ((t.size : Int) ≤ s.size) = false := by simp; omega
    have HB : Hid (Lib.hasPrefix s.data.toList t.data.toList = false) := by
      show _ = _
      rw [hp, decide_eq_false (fun e => h e.1)]
    rw [HB.out]
    clear hp HB
    go_enter Tryz.func33, Tryz.ntmps33
    go_wp2
    go_ret
    exact ⟨rfl, rfl⟩
/-- The rune whose writing with a back stroke stands at the front, below 0: none. -/
def escZ (l : List UInt8) : Int := match escL l with
  | some c => (c : Int)
  | none => -1
theorem sh_first : ∀ c : Fin 128, 0 < (shR c.val).length := by decide +kernel
set_option maxRecDepth 100000 in
set_option maxHeartbeats 2000000 in
theorem control_any (s : ByteArray) (w : World) :
    Calls Tryz.prog 64 #[.string s] w fun e w' => e = .returned (.int .i64 (escZ s.data.toList)) ∧ Below w.heap.size w w' := by
  go_enter Tryz.func64, Tryz.ntmps64
  go_wp2
  go_loopw [2, 3] (fun r i wr => r = .int .i64 0 ∧ ∃ k : Nat, k ≤ 128 ∧ i = .int .i64 k ∧ Hid (∀ c, c < k → (shR c).head? = some 92 → ¬ shR c <+: s.data.toList) ∧ Below w.heap.size w wr) (fun _ i _ => 128 - (RowKit.intOf i).toNat)
  case atStart => exact ⟨rfl, 0, by decide, rfl, fun c h => absurd h (by omega), Below.refl _ _⟩
  case round =>
    obtain ⟨rfl, k, hk, rfl, HN, hb⟩ := hrel
    by_cases hkn : k < 128
    · have hki : (k : Int) < 128 := by omega
      have HE : Hid (∀ w : World, Calls Tryz.prog 66 #[.int .i64 (k : Int)] w fun e w' => e = .returned (.string (str (shR k))) ∧ Below w.heap.size w w') := fun w => escape_any k w (.inl (by omega))
      have hz : 0 < (str (shR k)).size := by rw [str_size]; exact sh_first ⟨k, hkn⟩
      have hz' : (0 : Int) < (str (shR k)).size := by omega
      have hg := gN_of (str (shR k)) 0 hz
      have hg2 := gN_str (shR k) 0 (sh_first ⟨k, hkn⟩)
      have hh := head_getD (l := shR k) (fun e => by have := sh_first ⟨k, hkn⟩; simp only [e] at this; simp at this)
      have HB : Hid (∀ w : World, Calls Tryz.prog 33 #[.string s, .string (str (shR k))] w fun e w' => e = .returned (.bool (Lib.hasPrefix s.data.toList (shR k))) ∧ w' = w) := fun w => by
        have := refBegins_any s (str (shR k)) w
        rw [str_data] at this
        exact this
      have hlt := gN_lt (str (shR k)) 0
      by_cases h92 : (shR k).head? = some 92
      · have e92 : gN (str (shR k)) 0 = 92 := by
          rw [hh] at h92
          rw [hg2, Option.some.inj h92]
          rfl
        rw [e92] at hg
        by_cases hp : Lib.hasPrefix s.data.toList (shR k) = true
        · have HR : Hid (escZ s.data.toList = (k : Int)) := by
            show _ = _
            unfold escZ
            rw [escL_of hkn h92 (List.isPrefixOf_iff_prefix.1 hp)]
          rw [hp] at HB
          generalize str (shR k) = Y at *
          clear hg2 hh e92 hlt h92 hp
          go_wp2_with fail
          refine (HE.out _).mono ?_
          rintro e w1 ⟨rfl, hb1⟩
          have hB1 := hb.trans (hb1.mono hb.size)
          clear hb1
          go_wp2_with (go_at_call 33; refine (HB.out _).mono ?_; rintro e w' ⟨rfl, rfl⟩)
          go_ret
          exact ⟨by rw [HR.out]; rfl, hB1⟩
        · have HR : Hid (∀ c, c < k + 1 → (shR c).head? = some 92 → ¬ shR c <+: s.data.toList) := fun c hc h1 h2 => by
            by_cases e : c = k
            · subst e; exact hp (List.isPrefixOf_iff_prefix.2 h2)
            · exact HN.out c (by omega) h1 h2
          have hp' : Lib.hasPrefix s.data.toList (shR k) = false := by simpa using hp
          rw [hp'] at HB
          generalize str (shR k) = Y at *
          clear hg2 hh e92 hlt h92 hp hp'
          go_wp2_with fail
          refine (HE.out _).mono ?_
          rintro e w1 ⟨rfl, hb1⟩
          have hB1 := hb.trans (hb1.mono hb.size)
          clear hb1
          go_wp2_with (go_at_call 33; refine (HB.out _).mono ?_; rintro e w' ⟨rfl, rfl⟩)
          exact ⟨⟨rfl, k + 1, by omega, by go_num, HR, hB1⟩, by simp [RowKit.intOf]; omega⟩
      · have HR : Hid (∀ c, c < k + 1 → (shR c).head? = some 92 → ¬ shR c <+: s.data.toList) := fun c hc h1 h2 => by
          by_cases e : c = k
          · subst e; exact h92 h1
          · exact HN.out c (by omega) h1 h2
        have n92 : ((gN (str (shR k)) 0 : Int) == 92) = false := by
          rw [beq_eq_false_iff_ne, hg2]
          intro e
          apply h92
          rw [hh]
          exact congrArg some (UInt8.toNat_inj.1 (by show _ = 92; omega))
        generalize str (shR k) = Y at *
        generalize gN Y 0 = y at *
        clear hg2 hh h92
        go_wp2_with fail
        refine (HE.out _).mono ?_
        rintro e w1 ⟨rfl, hb1⟩
        have hB1 := hb.trans (hb1.mono hb.size)
        clear hb1
        go_wp2
        exact ⟨⟨rfl, k + 1, by omega, by go_num, HR, hB1⟩, by simp [RowKit.intOf]; omega⟩
    · obtain rfl : k = 128 := by omega
      have HR : Hid (escZ s.data.toList = -1) := by
        show _ = _
        unfold escZ
        rw [escL_no HN.out]
      go_wp2
      go_ret
      exact ⟨by rw [HR.out]; rfl, hb⟩
end Go.Proofs.YtdendpckihckeaaGreatDoor
