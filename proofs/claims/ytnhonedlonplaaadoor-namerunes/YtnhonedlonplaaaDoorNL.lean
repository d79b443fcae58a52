/- NameRunes: for every rune and text the law returns true. -/
import Derived.Test.YtnhonedlonplaaaDoorNE
import Derived.Test.YtnhonedlonplaaaDoorNDr
import Derived.Test.YtnhonedlonplaaaDoorNI
import Derived.Test.YtnhonedlonplaaaDoorNK
namespace Go.Proofs.YtnhonedlonplaaaDoor
open Go.RowKit

theorem smallZ_lo {c : Int} (h : -2147483648 ≤ c) : -2147483648 ≤ smallZ c := by unfold smallZ; split <;> omega
theorem smallZ_hi {c : Int} (h : c ≤ 2147483647) : smallZ c ≤ 2147483647 := by
  unfold smallZ
  split
  · rename_i hb
    simp only [bigZ, decide_eq_true_eq] at hb
    omega
  · exact h
theorem i64_id {z : Int} (h1 : -2147483648 ≤ z) (h2 : z ≤ 2147483647) : IntKind.i64.wrap z = z := IntWalk.i64_in z ⟨by omega, by omega⟩

set_option maxRecDepth 100000 in
set_option maxHeartbeats 2000000 in
theorem runes_tail (c : Int) (s : ByteArray) (w : World) (h1 : -2147483648 ≤ c) (h2 : c ≤ 2147483647) (hs : s.size ≤ 2000) (hT : UT w) :
    Calls Tryd.prog 5 #[.int .i32 c, .string s] w fun e w' => e = .returned (.bool true) ∧ Below w.heap.size w w' := by
  have g1' : ¬ (2000 : Int) < s.size := by omega
  have hs2 : s.size ≤ 1000000 := by omega
  have hcw := i64_id h1 h2
  have hsw := i64_id (smallZ_lo h1) (smallZ_hi h2)
  by_cases hv : Lib.validD s.data.toList = true
  · have HN : Hid (countL s.data.toList = ((rns s.data.toList).length : Int)) := if_pos hv
    go_enter Tryd.func5, Tryd.ntmps5
    go_wp2_with fail
    refine (refValid_any s _ (by omega)).mono ?_
    rintro e w1 ⟨rfl, hb1⟩
    rw [hv]
    go_wp2_with fail
    refine (refRunes_any s _ hs2 hv).mono ?_
    rintro e w2 ⟨v2, rfl, hv2, hb2'⟩
    have hb2 := hb1.trans (hb2'.mono hb1.size)
    obtain ⟨a2, cap2, rfl⟩ := hv2.form
    clear hb1 hb2' hv2
    have HL : Hid ((rns s.data.toList).length ≤ 2000) := by
      have h3 := rns_len_le s.data.toList.length s.data.toList
      have e : s.data.toList.length = s.size := Array.length_toList
      have : (rns s.data.toList).length ≤ s.data.toList.length := h3
      show _ ≤ _
      omega
    generalize (rns s.data.toList).length = n at *
    go_wp2_with fail
    refine (awake_any _ (Utf8Tabs_below hT hb2)).mono ?_
    rintro e w3 ⟨rfl, hb3'⟩
    have hb3 := hb2.trans (hb3'.mono hb2.size)
    clear hb2 hb3'
    go_wp2_with fail
    refine (letter_any c _).mono ?_
    rintro e w' ⟨rfl, rfl⟩
    go_wp2_with fail
    refine (refLetter_any c _).mono ?_
    rintro e w' ⟨rfl, rfl⟩
    go_wp2_with fail
    refine (small_any c _ h1 h2).mono ?_
    rintro e w' ⟨rfl, rfl⟩
    go_wp2_with fail
    refine (refSmall_any c _ h1 h2).mono ?_
    rintro e w' ⟨rfl, rfl⟩
    go_wp2_with fail
    refine (runes_any s _ hs2 (Utf8Tabs_below hT hb3)).mono ?_
    rintro e w4 ⟨rfl, hb4'⟩
    rw [HN.out]
    have hb4 : Hid (Below w.heap.size w w4) := hb3.trans (hb4'.mono hb3.size)
    clear hb3 hb4'
    go_wp2
    go_ret
    exact ⟨rfl, hb4.out⟩
  · have hv' : Lib.validD s.data.toList = false := by simpa using hv
    have HN : Hid (countL s.data.toList = -1) := if_neg hv
    go_enter Tryd.func5, Tryd.ntmps5
    go_wp2_with fail
    refine (refValid_any s _ (by omega)).mono ?_
    rintro e w1 ⟨rfl, hb2⟩
    rw [hv']
    go_wp2_with fail
    refine (awake_any _ (Utf8Tabs_below hT hb2)).mono ?_
    rintro e w3 ⟨rfl, hb3'⟩
    have hb3 := hb2.trans (hb3'.mono hb2.size)
    clear hb2 hb3'
    go_wp2_with fail
    refine (letter_any c _).mono ?_
    rintro e w' ⟨rfl, rfl⟩
    go_wp2_with fail
    refine (refLetter_any c _).mono ?_
    rintro e w' ⟨rfl, rfl⟩
    go_wp2_with fail
    refine (small_any c _ h1 h2).mono ?_
    rintro e w' ⟨rfl, rfl⟩
    go_wp2_with fail
    refine (refSmall_any c _ h1 h2).mono ?_
    rintro e w' ⟨rfl, rfl⟩
    go_wp2_with fail
    refine (runes_any s _ hs2 (Utf8Tabs_below hT hb3)).mono ?_
    rintro e w4 ⟨rfl, hb4'⟩
    rw [HN.out]
    have hb4 : Hid (Below w.heap.size w w4) := hb3.trans (hb4'.mono hb3.size)
    clear hb3 hb4'
    go_wp2
    go_ret
    exact ⟨rfl, hb4.out⟩

theorem nameRunes_walk (c : Int) (s : ByteArray) (w : World) (hc : (Lit.int .i32 c).wf = true) (hs : s.size ≤ 140737488355328) (hT : UT w) :
    Calls Tryd.prog 5 #[.int .i32 c, .string s] w fun e w' => e = .returned (.bool true) ∧ Below w.heap.size w w' := by
  have hx : -2147483648 ≤ c ∧ c ≤ 2147483647 := by simpa [Lit.wf, IntKind.min, IntKind.max, IntKind.signed, IntKind.bits] using hc
  by_cases g1 : 2000 < s.size
  · have g1' : (2000 : Int) < s.size := by omega
    go_enter Tryd.func5, Tryd.ntmps5
    go_wp2_with fail
    refine (awake_any _ hT).mono ?_
    rintro e w1 ⟨rfl, hb1⟩
    go_wp2
    go_ret
    exact ⟨rfl, hb1⟩
  · exact runes_tail c s w hx.1 hx.2 (by omega) hT
end Go.Proofs.YtnhonedlonplaaaDoor
