/- value.goesOn, scanBool, Scan, Parse at any text: walks. -/
import Derived.Test.YtjamkfkbajhefaaGreatDoorZk14
import Derived.Test.YtjamkfkbajhefaaGreatDoorZk0
import Derived.Test.YtjamkfkbajhefaaGreatDoorZk8
import Derived.Test.YtjamkfkbajhefaaGreatDoorZk6
import Derived.Lib.RuneCountTail
import Derived.Test.YtjamkfkbajhefaaGreatDoorZk12
namespace Go.Proofs.YtjamkfkbajhefaaGreatDoor.V
open Go.RowKit

theorem goes_go (s : ByteArray) : goesL s.data.toList = (letterN (Lib.decodeGo s).1 || (decide (48 ≤ (Lib.decodeGo s).1 ∧ (Lib.decodeGo s).1 ≤ 57) || ((Lib.decodeGo s).1 == 95 || (Lib.decodeGo s).1 == 45))) := by
  by_cases hz : s.size = 0
  · have ed : Lib.decodeGo s = (65533, 0) := by unfold Lib.decodeGo; rw [if_pos hz]
    have e : s.data.toList = [] := List.eq_nil_of_length_eq_zero (by rw [← Lib.size_eq]; exact hz)
    rw [ed, e]
    decide +kernel
  · rw [dec_same s hz]
    rfl
set_option maxRecDepth 100000 in
set_option maxHeartbeats 2000000 in
theorem goesOn_any (s : ByteArray) (w : World) (hU : UT w) :
    Calls Tryz.prog 139 #[.string s] w fun e w' => e = .returned (.bool (goesL s.data.toList)) ∧ Below w.heap.size w w' := by
  have HD : Hid (∀ w, UT w → Calls Tryz.prog 76 #[.string s] w fun e w' => e = .returned (.tuple #[.int .i32 (Lib.decodeGo s).1, .int .i64 (Lib.decodeGo s).2]) ∧ Below w.heap.size w w') := fun w h => Tryz.utf8_DecodeRuneInString s w h
  have hcl : (Lib.decodeGo s).1 ≤ 1114111 := by have := (decGo_ok s).1; unfold scal at this; omega
  rw [goes_go]
  generalize (Lib.decodeGo s).1 = c at *
  generalize (Lib.decodeGo s).2 = d at *
  rw [← letterZ_nat]
  have HL : Hid (∀ w : World, Calls Tryz.prog 92 #[.int .i32 (c : Int)] w fun e w' => e = .returned (.bool (letterZ c)) ∧ w' = w) := fun w => letter_any c w
  generalize letterZ (c : Int) = L at *
  cases L
  · have k1 : (decide ((48 : Int) ≤ c) = true ∧ decide ((c : Int) ≤ 57) = true ∧ 48 ≤ c ∧ c ≤ 57) ∨ (decide ((48 : Int) ≤ c) = true ∧ decide ((c : Int) ≤ 57) = false ∧ ¬ (48 ≤ c ∧ c ≤ 57)) ∨ (decide ((48 : Int) ≤ c) = false ∧ ¬ (48 ≤ c ∧ c ≤ 57)) := by
      by_cases h1 : 48 ≤ c
      · by_cases h2 : c ≤ 57
        · exact .inl ⟨by simp; omega, by simp; omega, h1, h2⟩
        · exact .inr (.inl ⟨by simp; omega, by simp; omega, by omega⟩)
      · exact .inr (.inr ⟨by simp; omega, by omega⟩)
    have k2 : (c = 95 ∧ ((c : Int) == 95) = true) ∨ (((c : Int) == 95) = false ∧ (c == 95) = false) := by
      by_cases h : c = 95
      · exact .inl ⟨h, by subst h; rfl⟩
      · exact .inr ⟨by rw [beq_eq_false_iff_ne]; omega, by rw [beq_eq_false_iff_ne]; exact h⟩
    have k3 : (c = 45 ∧ ((c : Int) == 45) = true) ∨ (((c : Int) == 45) = false ∧ (c == 45) = false) := by
      by_cases h : c = 45
      · exact .inl ⟨h, by subst h; rfl⟩
      · exact .inr ⟨by rw [beq_eq_false_iff_ne]; omega, by rw [beq_eq_false_iff_ne]; exact h⟩
    rcases k1 with ⟨a1, a2, a3, a4⟩ | ⟨a1, a2, a3⟩ | ⟨a1, a3⟩
    · have HR : Hid ((false || (decide (48 ≤ c ∧ c ≤ 57) || (c == 95 || c == 45))) = true) := by show _ = _; rw [decide_eq_true ⟨a3, a4⟩]; rfl
      rw [HR.out]
      clear k2 k3 HR
      go_enter Tryz.func139, Tryz.ntmps139
      go_wp2_with fail
      refine (HD.out _ hU).mono ?_
      rintro e w1 ⟨rfl, hb1⟩
      go_wp2_with (go_at_call 92; refine (HL.out _).mono ?_; rintro e w' ⟨rfl, rfl⟩)
      go_ret
      exact ⟨rfl, hb1⟩
    all_goals
      have HR : Hid ((false || (decide (48 ≤ c ∧ c ≤ 57) || (c == 95 || c == 45))) = (c == 95 || c == 45)) := by show _ = _; rw [decide_eq_false a3]; rfl
      rw [HR.out]
      clear HR a3
      rcases k2 with ⟨rfl, -⟩ | ⟨k2, k2'⟩
      · go_enter Tryz.func139, Tryz.ntmps139
        go_wp2_with fail
        refine (HD.out _ hU).mono ?_
        rintro e w1 ⟨rfl, hb1⟩
        go_wp2_with (go_at_call 92; refine (HL.out _).mono ?_; rintro e w' ⟨rfl, rfl⟩)
        go_ret
        exact ⟨rfl, hb1⟩
      · rw [k2', Bool.false_or]
        rcases k3 with ⟨rfl, -⟩ | ⟨k3, k3'⟩
        · go_enter Tryz.func139, Tryz.ntmps139
          go_wp2_with fail
          refine (HD.out _ hU).mono ?_
          rintro e w1 ⟨rfl, hb1⟩
          go_wp2_with (go_at_call 92; refine (HL.out _).mono ?_; rintro e w' ⟨rfl, rfl⟩)
          go_ret
          exact ⟨rfl, hb1⟩
        · rw [k3']
          clear k2' k3'
          go_enter Tryz.func139, Tryz.ntmps139
          go_wp2_with fail
          refine (HD.out _ hU).mono ?_
          rintro e w1 ⟨rfl, hb1⟩
          go_wp2_with (go_at_call 92; refine (HL.out _).mono ?_; rintro e w' ⟨rfl, rfl⟩)
          go_ret
          exact ⟨rfl, hb1⟩
  · rw [Bool.true_or]
    go_enter Tryz.func139, Tryz.ntmps139
    go_wp2_with fail
    refine (HD.out _ hU).mono ?_
    rintro e w1 ⟨rfl, hb1⟩
    go_wp2_with (go_at_call 92; refine (HL.out _).mono ?_; rintro e w' ⟨rfl, rfl⟩)
    go_ret
    exact ⟨rfl, hb1⟩
set_option maxRecDepth 100000 in
set_option maxHeartbeats 2000000 in
theorem scanBool_any (n : Int) (s : ByteArray) (w : World) (hU : UT w) :
    Calls Tryz.prog 121 #[.int .i64 n, .string s] w fun e w' => e = .returned (scV (scB n s.data.toList)) ∧ Below w.heap.size w w' := by
  have HS : Hid (str s.data.toList = s) := str_of s
  have HG : Hid (∀ w, UT w → Calls Tryz.prog 139 #[.string s] w fun e w' => e = .returned (.bool (goesL s.data.toList)) ∧ Below w.heap.size w w') := fun w h => goesOn_any s w h
  unfold scB
  cases hB : goesL s.data.toList
  all_goals
    rw [hB] at HG
    clear hB
    go_enter Tryz.func121, Tryz.ntmps121
    go_wp2_with fail
    refine (HG.out _ (Utf8Tabs_below hU (wv_below w))).mono ?_
    rintro e w1 ⟨rfl, hb1⟩
    have HF : Hid (Fr w w1) := Fr.of hb1
    obtain ⟨⟨d0, d1, d2, f0, f1, f2⟩, -⟩ := HF.out
    clear hb1
    go_wp2
    try simp only [Exit.inBlock, Exit.then]
    refine bodyPost_ret (results_v3 rfl _ _ w.heap.size rfl (HF.out.z.three.set _ _ _)) rfl ⟨?_, set3_below HF.out.b _ _ _⟩
  · simp only [scV, HS.out]
    rfl
  · rfl
/-- What the scanners ask of the world. -/
structure VE (w : World) : Prop where
  u : UT w
  t : T16 w
  m : ML w
  e : ES w
theorem VE.below {w w' : World} (h : VE w) (hb : Below w.heap.size w w') : VE w' := ⟨Utf8Tabs_below h.u hb, T16_below h.t hb, ML_below h.m hb, ES_below h.e hb⟩
theorem sub_list (s : ByteArray) (m : Nat) : (s.extract m s.size).data.toList = s.data.toList.drop m := by rw [ext_from, str_data]
theorem pre_len {l p : List UInt8} (h : Lib.hasPrefix l p = true) : p.length ≤ l.length := (List.isPrefixOf_iff_prefix.1 h).length_le
theorem bad_or (l : List UInt8) : (scn l).e = 0 ∨ scn l = .bad (scn l).e := by
  have hB : ∀ n l, (scB n l).e = 0 ∨ scB n l = .bad (scB n l).e := fun n l => by unfold scB; split <;> simp
  have hI : ∀ b l, (scI b l).e = 0 ∨ scI b l = .bad (scI b l).e := fun b l => by unfold scI; (repeat' split) <;> simp
  have hT : ∀ l, (scT l).e = 0 ∨ scT l = .bad (scT l).e := fun l => by unfold scT; (repeat' split) <;> simp
  have hX : ∀ l, (scX l).e = 0 ∨ scX l = .bad (scX l).e := fun l => by unfold scX; (repeat' split) <;> simp
  unfold scn
  repeat' split
  · exact hT _
  · exact hX _
  · exact hB _ _
  · exact hB _ _
  · exact hI _ _
  · exact hI _ _
/-- A scanner's answer, its error asked. -/
def scW (k n : Int) (S R : ByteArray) (e : Int) : Value := if e = 0 then .tuple #[vv k n S, .string R, .int .i64 0] else .tuple #[v0, .string ⟨#[]⟩, .int .i64 e]
theorem scW_is {x : Sc} (h : x.e = 0 ∨ x = .bad x.e) : scW x.k x.n (str x.s) (str x.r) x.e = scV x := by
  unfold scW
  by_cases e : x.e = 0
  · rw [if_pos e, scV, e]
  · rw [if_neg e]
    rcases h with h | h
    · exact absurd h e
    · rw [h]; rfl
set_option maxRecDepth 100000 in
set_option maxHeartbeats 2000000 in
theorem scan_qw (s : ByteArray) (w : World) (h : VE w) (h0 : Lib.hasPrefix s.data.toList [34] = true) (hz : 1 ≤ s.size) (k n : Int) (S R : ByteArray) (e : Int)
    (HC : Hid (∀ w, VE w → Calls Tryz.prog 119 #[.string (s.extract 1 s.size)] w fun e0 w' => e0 = .returned (.tuple #[vv k n S, .string R, .int .i64 e]) ∧ Below w.heap.size w w')) :
    Calls Tryz.prog 93 #[.string s] w fun e0 w' => e0 = .returned (scW k n S R e) ∧ Below w.heap.size w w' := by
  have hz' : (1 : Int) ≤ s.size := by omega
  by_cases he : e = 0
  · subst he
    rw [show scW k n S R 0 = .tuple #[vv k n S, .string R, .int .i64 0] from rfl]
    go_enter Tryz.func93, Tryz.ntmps93
    go_wp2_with fail
    refine (Tryz.strings_HasPrefix _ _ _).mono ?_
    rintro e0 w1 ⟨rfl, rfl⟩
    rw [show (⟨#[34]⟩ : ByteArray).data.toList = [34] from rfl, h0]
    go_wp2_with fail
    refine (HC.out _ (h.below (wv_below w))).mono ?_
    rintro e0 w2 ⟨rfl, hb2⟩
    have HF : Hid (Fr w w2) := Fr.of hb2
    obtain ⟨⟨d0, d1, d2, f0, f1, f2⟩, -⟩ := HF.out
    clear hb2
    go_wp2
    try simp only [Exit.inBlock, Exit.then]
    exact bodyPost_ret (results_v3 rfl _ _ w.heap.size rfl ((HF.out.z.three.set _ _ _).set _ _ _)) rfl ⟨rfl, set3_below (set3_below HF.out.b _ _ _) _ _ _⟩
  · rw [show scW k n S R e = .tuple #[v0, .string ⟨#[]⟩, .int .i64 e] from if_neg he]
    have he' : (e != 0) = true := by rw [bne_iff_ne]; exact he
    clear he
    go_enter Tryz.func93, Tryz.ntmps93
    go_wp2_with fail
    refine (Tryz.strings_HasPrefix _ _ _).mono ?_
    rintro e0 w1 ⟨rfl, rfl⟩
    rw [show (⟨#[34]⟩ : ByteArray).data.toList = [34] from rfl, h0]
    go_wp2_with fail
    refine (HC.out _ (h.below (wv_below w))).mono ?_
    rintro e0 w2 ⟨rfl, hb2⟩
    have HF : Hid (Fr w w2) := Fr.of hb2
    obtain ⟨⟨d0, d1, d2, f0, f1, f2⟩, -⟩ := HF.out
    clear hb2
    go_wp2
    try simp only [Exit.inBlock, Exit.then]
    exact bodyPost_ret (results_v3 rfl _ _ w.heap.size rfl ((HF.out.z.three.set _ _ _).set _ _ _)) rfl ⟨rfl, set3_below (set3_below HF.out.b _ _ _) _ _ _⟩
set_option maxRecDepth 100000 in
set_option maxHeartbeats 2000000 in
theorem scan_xw (s : ByteArray) (w : World) (h : VE w) (h0 : Lib.hasPrefix s.data.toList [34] = false) (h1 : Lib.hasPrefix s.data.toList [120, 39] = true) (hz : 2 ≤ s.size) (k n : Int) (S R : ByteArray) (e : Int)
    (HC : Hid (∀ w, VE w → Calls Tryz.prog 120 #[.string (s.extract 2 s.size)] w fun e0 w' => e0 = .returned (.tuple #[vv k n S, .string R, .int .i64 e]) ∧ Below w.heap.size w w')) :
    Calls Tryz.prog 93 #[.string s] w fun e0 w' => e0 = .returned (scW k n S R e) ∧ Below w.heap.size w w' := by
  have hz' : (2 : Int) ≤ s.size := by omega
  by_cases he : e = 0
  · subst he
    rw [show scW k n S R 0 = .tuple #[vv k n S, .string R, .int .i64 0] from rfl]
    go_enter Tryz.func93, Tryz.ntmps93
    go_wp2_with fail
    refine (Tryz.strings_HasPrefix _ _ _).mono ?_
    rintro e0 w1 ⟨rfl, rfl⟩
    rw [show (⟨#[34]⟩ : ByteArray).data.toList = [34] from rfl, h0]
    go_wp2_with fail
    refine (Tryz.strings_HasPrefix _ _ _).mono ?_
    rintro e0 w1 ⟨rfl, rfl⟩
    rw [show (⟨#[120, 39]⟩ : ByteArray).data.toList = [120, 39] from rfl, h1]
    go_wp2_with fail
    refine (HC.out _ (h.below (wv_below w))).mono ?_
    rintro e0 w2 ⟨rfl, hb2⟩
    have HF : Hid (Fr w w2) := Fr.of hb2
    obtain ⟨⟨d0, d1, d2, f0, f1, f2⟩, -⟩ := HF.out
    clear hb2
    go_wp2
    try simp only [Exit.inBlock, Exit.then]
    exact bodyPost_ret (results_v3 rfl _ _ w.heap.size rfl ((HF.out.z.three.set _ _ _).set _ _ _)) rfl ⟨rfl, set3_below (set3_below HF.out.b _ _ _) _ _ _⟩
  · rw [show scW k n S R e = .tuple #[v0, .string ⟨#[]⟩, .int .i64 e] from if_neg he]
    have he' : (e != 0) = true := by rw [bne_iff_ne]; exact he
    clear he
    go_enter Tryz.func93, Tryz.ntmps93
    go_wp2_with fail
    refine (Tryz.strings_HasPrefix _ _ _).mono ?_
    rintro e0 w1 ⟨rfl, rfl⟩
    rw [show (⟨#[34]⟩ : ByteArray).data.toList = [34] from rfl, h0]
    go_wp2_with fail
    refine (Tryz.strings_HasPrefix _ _ _).mono ?_
    rintro e0 w1 ⟨rfl, rfl⟩
    rw [show (⟨#[120, 39]⟩ : ByteArray).data.toList = [120, 39] from rfl, h1]
    go_wp2_with fail
    refine (HC.out _ (h.below (wv_below w))).mono ?_
    rintro e0 w2 ⟨rfl, hb2⟩
    have HF : Hid (Fr w w2) := Fr.of hb2
    obtain ⟨⟨d0, d1, d2, f0, f1, f2⟩, -⟩ := HF.out
    clear hb2
    go_wp2
    try simp only [Exit.inBlock, Exit.then]
    exact bodyPost_ret (results_v3 rfl _ _ w.heap.size rfl ((HF.out.z.three.set _ _ _).set _ _ _)) rfl ⟨rfl, set3_below (set3_below HF.out.b _ _ _) _ _ _⟩
set_option maxRecDepth 100000 in
set_option maxHeartbeats 2000000 in
theorem scan_tw (s : ByteArray) (w : World) (h : VE w) (h0 : Lib.hasPrefix s.data.toList [34] = false) (h1 : Lib.hasPrefix s.data.toList [120, 39] = false) (h2 : Lib.hasPrefix s.data.toList [116, 114, 117, 101] = true) (hz : 4 ≤ s.size) (k n : Int) (S R : ByteArray) (e : Int)
    (HC : Hid (∀ w, VE w → Calls Tryz.prog 121 #[.int .i64 1, .string (s.extract 4 s.size)] w fun e0 w' => e0 = .returned (.tuple #[vv k n S, .string R, .int .i64 e]) ∧ Below w.heap.size w w')) :
    Calls Tryz.prog 93 #[.string s] w fun e0 w' => e0 = .returned (scW k n S R e) ∧ Below w.heap.size w w' := by
  have hz' : (4 : Int) ≤ s.size := by omega
  by_cases he : e = 0
  · subst he
    rw [show scW k n S R 0 = .tuple #[vv k n S, .string R, .int .i64 0] from rfl]
    go_enter Tryz.func93, Tryz.ntmps93
    go_wp2_with fail
    refine (Tryz.strings_HasPrefix _ _ _).mono ?_
    rintro e0 w1 ⟨rfl, rfl⟩
    rw [show (⟨#[34]⟩ : ByteArray).data.toList = [34] from rfl, h0]
    go_wp2_with fail
    refine (Tryz.strings_HasPrefix _ _ _).mono ?_
    rintro e0 w1 ⟨rfl, rfl⟩
    rw [show (⟨#[120, 39]⟩ : ByteArray).data.toList = [120, 39] from rfl, h1]
    go_wp2_with fail
    refine (Tryz.strings_HasPrefix _ _ _).mono ?_
    rintro e0 w1 ⟨rfl, rfl⟩
    rw [show (⟨#[116, 114, 117, 101]⟩ : ByteArray).data.toList = [116, 114, 117, 101] from rfl, h2]
    go_wp2_with fail
    refine (HC.out _ (h.below (wv_below w))).mono ?_
    rintro e0 w2 ⟨rfl, hb2⟩
    have HF : Hid (Fr w w2) := Fr.of hb2
    obtain ⟨⟨d0, d1, d2, f0, f1, f2⟩, -⟩ := HF.out
    clear hb2
    go_wp2
    try simp only [Exit.inBlock, Exit.then]
    exact bodyPost_ret (results_v3 rfl _ _ w.heap.size rfl ((HF.out.z.three.set _ _ _).set _ _ _)) rfl ⟨rfl, set3_below (set3_below HF.out.b _ _ _) _ _ _⟩
  · rw [show scW k n S R e = .tuple #[v0, .string ⟨#[]⟩, .int .i64 e] from if_neg he]
    have he' : (e != 0) = true := by rw [bne_iff_ne]; exact he
    clear he
    go_enter Tryz.func93, Tryz.ntmps93
    go_wp2_with fail
    refine (Tryz.strings_HasPrefix _ _ _).mono ?_
    rintro e0 w1 ⟨rfl, rfl⟩
    rw [show (⟨#[34]⟩ : ByteArray).data.toList = [34] from rfl, h0]
    go_wp2_with fail
    refine (Tryz.strings_HasPrefix _ _ _).mono ?_
    rintro e0 w1 ⟨rfl, rfl⟩
    rw [show (⟨#[120, 39]⟩ : ByteArray).data.toList = [120, 39] from rfl, h1]
    go_wp2_with fail
    refine (Tryz.strings_HasPrefix _ _ _).mono ?_
    rintro e0 w1 ⟨rfl, rfl⟩
    rw [show (⟨#[116, 114, 117, 101]⟩ : ByteArray).data.toList = [116, 114, 117, 101] from rfl, h2]
    go_wp2_with fail
    refine (HC.out _ (h.below (wv_below w))).mono ?_
    rintro e0 w2 ⟨rfl, hb2⟩
    have HF : Hid (Fr w w2) := Fr.of hb2
    obtain ⟨⟨d0, d1, d2, f0, f1, f2⟩, -⟩ := HF.out
    clear hb2
    go_wp2
    try simp only [Exit.inBlock, Exit.then]
    exact bodyPost_ret (results_v3 rfl _ _ w.heap.size rfl ((HF.out.z.three.set _ _ _).set _ _ _)) rfl ⟨rfl, set3_below (set3_below HF.out.b _ _ _) _ _ _⟩
set_option maxRecDepth 100000 in
set_option maxHeartbeats 2000000 in
theorem scan_fw (s : ByteArray) (w : World) (h : VE w) (h0 : Lib.hasPrefix s.data.toList [34] = false) (h1 : Lib.hasPrefix s.data.toList [120, 39] = false) (h2 : Lib.hasPrefix s.data.toList [116, 114, 117, 101] = false) (h3 : Lib.hasPrefix s.data.toList [102, 97, 108, 115, 101] = true) (hz : 5 ≤ s.size) (k n : Int) (S R : ByteArray) (e : Int)
    (HC : Hid (∀ w, VE w → Calls Tryz.prog 121 #[.int .i64 0, .string (s.extract 5 s.size)] w fun e0 w' => e0 = .returned (.tuple #[vv k n S, .string R, .int .i64 e]) ∧ Below w.heap.size w w')) :
    Calls Tryz.prog 93 #[.string s] w fun e0 w' => e0 = .returned (scW k n S R e) ∧ Below w.heap.size w w' := by
  have hz' : (5 : Int) ≤ s.size := by omega
  by_cases he : e = 0
  · subst he
    rw [show scW k n S R 0 = .tuple #[vv k n S, .string R, .int .i64 0] from rfl]
    go_enter Tryz.func93, Tryz.ntmps93
    go_wp2_with fail
    refine (Tryz.strings_HasPrefix _ _ _).mono ?_
    rintro e0 w1 ⟨rfl, rfl⟩
    rw [show (⟨#[34]⟩ : ByteArray).data.toList = [34] from rfl, h0]
    go_wp2_with fail
    refine (Tryz.strings_HasPrefix _ _ _).mono ?_
    rintro e0 w1 ⟨rfl, rfl⟩
    rw [show (⟨#[120, 39]⟩ : ByteArray).data.toList = [120, 39] from rfl, h1]
    go_wp2_with fail
    refine (Tryz.strings_HasPrefix _ _ _).mono ?_
    rintro e0 w1 ⟨rfl, rfl⟩
    rw [show (⟨#[116, 114, 117, 101]⟩ : ByteArray).data.toList = [116, 114, 117, 101] from rfl, h2]
    go_wp2_with fail
    refine (Tryz.strings_HasPrefix _ _ _).mono ?_
    rintro e0 w1 ⟨rfl, rfl⟩
    rw [show (⟨#[102, 97, 108, 115, 101]⟩ : ByteArray).data.toList = [102, 97, 108, 115, 101] from rfl, h3]
    go_wp2_with fail
    refine (HC.out _ (h.below (wv_below w))).mono ?_
    rintro e0 w2 ⟨rfl, hb2⟩
    have HF : Hid (Fr w w2) := Fr.of hb2
    obtain ⟨⟨d0, d1, d2, f0, f1, f2⟩, -⟩ := HF.out
    clear hb2
    go_wp2
    try simp only [Exit.inBlock, Exit.then]
    exact bodyPost_ret (results_v3 rfl _ _ w.heap.size rfl ((HF.out.z.three.set _ _ _).set _ _ _)) rfl ⟨rfl, set3_below (set3_below HF.out.b _ _ _) _ _ _⟩
  · rw [show scW k n S R e = .tuple #[v0, .string ⟨#[]⟩, .int .i64 e] from if_neg he]
    have he' : (e != 0) = true := by rw [bne_iff_ne]; exact he
    clear he
    go_enter Tryz.func93, Tryz.ntmps93
    go_wp2_with fail
    refine (Tryz.strings_HasPrefix _ _ _).mono ?_
    rintro e0 w1 ⟨rfl, rfl⟩
    rw [show (⟨#[34]⟩ : ByteArray).data.toList = [34] from rfl, h0]
    go_wp2_with fail
    refine (Tryz.strings_HasPrefix _ _ _).mono ?_
    rintro e0 w1 ⟨rfl, rfl⟩
    rw [show (⟨#[120, 39]⟩ : ByteArray).data.toList = [120, 39] from rfl, h1]
    go_wp2_with fail
    refine (Tryz.strings_HasPrefix _ _ _).mono ?_
    rintro e0 w1 ⟨rfl, rfl⟩
    rw [show (⟨#[116, 114, 117, 101]⟩ : ByteArray).data.toList = [116, 114, 117, 101] from rfl, h2]
    go_wp2_with fail
    refine (Tryz.strings_HasPrefix _ _ _).mono ?_
    rintro e0 w1 ⟨rfl, rfl⟩
    rw [show (⟨#[102, 97, 108, 115, 101]⟩ : ByteArray).data.toList = [102, 97, 108, 115, 101] from rfl, h3]
    go_wp2_with fail
    refine (HC.out _ (h.below (wv_below w))).mono ?_
    rintro e0 w2 ⟨rfl, hb2⟩
    have HF : Hid (Fr w w2) := Fr.of hb2
    obtain ⟨⟨d0, d1, d2, f0, f1, f2⟩, -⟩ := HF.out
    clear hb2
    go_wp2
    try simp only [Exit.inBlock, Exit.then]
    exact bodyPost_ret (results_v3 rfl _ _ w.heap.size rfl ((HF.out.z.three.set _ _ _).set _ _ _)) rfl ⟨rfl, set3_below (set3_below HF.out.b _ _ _) _ _ _⟩
set_option maxRecDepth 100000 in
set_option maxHeartbeats 2000000 in
theorem scan_iw (s : ByteArray) (w : World) (h : VE w) (h0 : Lib.hasPrefix s.data.toList [34] = false) (h1 : Lib.hasPrefix s.data.toList [120, 39] = false) (h2 : Lib.hasPrefix s.data.toList [116, 114, 117, 101] = false) (h3 : Lib.hasPrefix s.data.toList [102, 97, 108, 115, 101] = false) (k n : Int) (S R : ByteArray) (e : Int)
    (HC : Hid (∀ w, VE w → Calls Tryz.prog 122 #[.string s] w fun e0 w' => e0 = .returned (.tuple #[vv k n S, .string R, .int .i64 e]) ∧ Below w.heap.size w w')) :
    Calls Tryz.prog 93 #[.string s] w fun e0 w' => e0 = .returned (scW k n S R e) ∧ Below w.heap.size w w' := by
  by_cases he : e = 0
  · subst he
    rw [show scW k n S R 0 = .tuple #[vv k n S, .string R, .int .i64 0] from rfl]
    go_enter Tryz.func93, Tryz.ntmps93
    go_wp2_with fail
    refine (Tryz.strings_HasPrefix _ _ _).mono ?_
    rintro e0 w1 ⟨rfl, rfl⟩
    rw [show (⟨#[34]⟩ : ByteArray).data.toList = [34] from rfl, h0]
    go_wp2_with fail
    refine (Tryz.strings_HasPrefix _ _ _).mono ?_
    rintro e0 w1 ⟨rfl, rfl⟩
    rw [show (⟨#[120, 39]⟩ : ByteArray).data.toList = [120, 39] from rfl, h1]
    go_wp2_with fail
    refine (Tryz.strings_HasPrefix _ _ _).mono ?_
    rintro e0 w1 ⟨rfl, rfl⟩
    rw [show (⟨#[116, 114, 117, 101]⟩ : ByteArray).data.toList = [116, 114, 117, 101] from rfl, h2]
    go_wp2_with fail
    refine (Tryz.strings_HasPrefix _ _ _).mono ?_
    rintro e0 w1 ⟨rfl, rfl⟩
    rw [show (⟨#[102, 97, 108, 115, 101]⟩ : ByteArray).data.toList = [102, 97, 108, 115, 101] from rfl, h3]
    go_wp2_with fail
    refine (HC.out _ (h.below (wv_below w))).mono ?_
    rintro e0 w2 ⟨rfl, hb2⟩
    have HF : Hid (Fr w w2) := Fr.of hb2
    obtain ⟨⟨d0, d1, d2, f0, f1, f2⟩, -⟩ := HF.out
    clear hb2
    go_wp2
    try simp only [Exit.inBlock, Exit.then]
    exact bodyPost_ret (results_v3 rfl _ _ w.heap.size rfl ((HF.out.z.three.set _ _ _).set _ _ _)) rfl ⟨rfl, set3_below (set3_below HF.out.b _ _ _) _ _ _⟩
  · rw [show scW k n S R e = .tuple #[v0, .string ⟨#[]⟩, .int .i64 e] from if_neg he]
    have he' : (e != 0) = true := by rw [bne_iff_ne]; exact he
    clear he
    go_enter Tryz.func93, Tryz.ntmps93
    go_wp2_with fail
    refine (Tryz.strings_HasPrefix _ _ _).mono ?_
    rintro e0 w1 ⟨rfl, rfl⟩
    rw [show (⟨#[34]⟩ : ByteArray).data.toList = [34] from rfl, h0]
    go_wp2_with fail
    refine (Tryz.strings_HasPrefix _ _ _).mono ?_
    rintro e0 w1 ⟨rfl, rfl⟩
    rw [show (⟨#[120, 39]⟩ : ByteArray).data.toList = [120, 39] from rfl, h1]
    go_wp2_with fail
    refine (Tryz.strings_HasPrefix _ _ _).mono ?_
    rintro e0 w1 ⟨rfl, rfl⟩
    rw [show (⟨#[116, 114, 117, 101]⟩ : ByteArray).data.toList = [116, 114, 117, 101] from rfl, h2]
    go_wp2_with fail
    refine (Tryz.strings_HasPrefix _ _ _).mono ?_
    rintro e0 w1 ⟨rfl, rfl⟩
    rw [show (⟨#[102, 97, 108, 115, 101]⟩ : ByteArray).data.toList = [102, 97, 108, 115, 101] from rfl, h3]
    go_wp2_with fail
    refine (HC.out _ (h.below (wv_below w))).mono ?_
    rintro e0 w2 ⟨rfl, hb2⟩
    have HF : Hid (Fr w w2) := Fr.of hb2
    obtain ⟨⟨d0, d1, d2, f0, f1, f2⟩, -⟩ := HF.out
    clear hb2
    go_wp2
    try simp only [Exit.inBlock, Exit.then]
    exact bodyPost_ret (results_v3 rfl _ _ w.heap.size rfl ((HF.out.z.three.set _ _ _).set _ _ _)) rfl ⟨rfl, set3_below (set3_below HF.out.b _ _ _) _ _ _⟩
theorem scan_any (s : ByteArray) (w : World) (hs : s.size ≤ 1000000) (h : VE w) :
    Calls Tryz.prog 93 #[.string s] w fun e w' => e = .returned (scV (scn s.data.toList)) ∧ Below w.heap.size w w' := by
  have hx : ∀ m, m ≤ s.size → (s.extract m s.size).size ≤ 1000000 := fun m hm => by rw [ByteArray.size_extract]; omega
  have fin : ∀ (x : Sc), scn s.data.toList = x → (Calls Tryz.prog 93 #[.string s] w fun e0 w' => e0 = .returned (scW x.k x.n (str x.s) (str x.r) x.e) ∧ Below w.heap.size w w') → Calls Tryz.prog 93 #[.string s] w fun e w' => e = .returned (scV (scn s.data.toList)) ∧ Below w.heap.size w w' := fun x hx hc => by
    subst hx
    rw [scW_is (bad_or _)] at hc
    exact hc
  by_cases h0 : Lib.hasPrefix s.data.toList [34] = true
  · have hz := pre_len h0
    rw [← Lib.size_eq] at hz
    refine fin (scT (s.data.toList.drop 1)) (by unfold scn; rw [if_pos h0]) (scan_qw s w h h0 hz _ _ _ _ _ fun w hw => ?_)
    rw [← sub_list]
    exact scanText_any _ w (hx 1 hz) hw.u hw.t hw.e
  have h0' : Lib.hasPrefix s.data.toList [34] = false := by simpa using h0
  by_cases h1 : Lib.hasPrefix s.data.toList [120, 39] = true
  · have hz := pre_len h1
    rw [← Lib.size_eq] at hz
    refine fin (scX (s.data.toList.drop 2)) (by unfold scn; rw [if_neg h0, if_pos h1]) (scan_xw s w h h0' h1 hz _ _ _ _ _ fun w hw => ?_)
    rw [← sub_list]
    exact scanBytes_any _ w (hx 2 hz) hw.m
  have h1' : Lib.hasPrefix s.data.toList [120, 39] = false := by simpa using h1
  by_cases h2 : Lib.hasPrefix s.data.toList [116, 114, 117, 101] = true
  · have hz := pre_len h2
    rw [← Lib.size_eq] at hz
    refine fin (scB 1 (s.data.toList.drop 4)) (by unfold scn; rw [if_neg h0, if_neg h1, if_pos h2]) (scan_tw s w h h0' h1' h2 hz _ _ _ _ _ fun w hw => ?_)
    rw [← sub_list]
    exact scanBool_any 1 _ w hw.u
  have h2' : Lib.hasPrefix s.data.toList [116, 114, 117, 101] = false := by simpa using h2
  by_cases h3 : Lib.hasPrefix s.data.toList [102, 97, 108, 115, 101] = true
  · have hz := pre_len h3
    rw [← Lib.size_eq] at hz
    refine fin (scB 0 (s.data.toList.drop 5)) (by unfold scn; rw [if_neg h0, if_neg h1, if_neg h2, if_pos h3]) (scan_fw s w h h0' h1' h2' h3 hz _ _ _ _ _ fun w hw => ?_)
    rw [← sub_list]
    exact scanBool_any 0 _ w hw.u
  have h3' : Lib.hasPrefix s.data.toList [102, 97, 108, 115, 101] = false := by simpa using h3
  refine fin (scI (Lib.hasPrefix s.data.toList [45]) (Lib.trimPrefix s.data.toList [45])) ?_ (scan_iw s w h h0' h1' h2' h3' _ _ _ _ _ fun w hw => scanInt_any s w hs)
  unfold scn
  rw [if_neg h0, if_neg h1, if_neg h2, if_neg h3]
  unfold Lib.trimPrefix
  cases hp : Lib.hasPrefix s.data.toList [45]
  · rfl
  · rfl
end Go.Proofs.YtjamkfkbajhefaaGreatDoor.V
/- The reference's Valid and its Check of a value: walks. -/
namespace Go.Proofs.YtjamkfkbajhefaaGreatDoor.V
open Go.RowKit Go.Lib

theorem ext_list (s : ByteArray) (pos : Nat) : (s.extract pos s.size).data.toList = s.data.toList.drop pos := by
  rw [extract_data]
  apply List.take_of_length_le
  rw [List.length_drop, Array.length_toList]
  exact Nat.le_refl _
theorem drop_ne (s : ByteArray) (pos : Nat) (h : pos < s.size) : s.data.toList.drop pos ≠ [] := by
  intro e
  have := congrArg List.length e
  rw [List.length_drop, Array.length_toList] at this
  have e2 : s.data.size = s.size := rfl
  simp at this
  omega
theorem width_le (s : ByteArray) (pos : Nat) (h : pos < s.size) : pos + (Utf8.decode s pos).2 ≤ s.size := by
  have h1 := decodeL_le _ (drop_ne s pos h)
  rw [decodeL_drop, List.length_drop, Array.length_toList] at h1
  have e2 : s.data.size = s.size := rfl
  omega
end Go.Proofs.YtjamkfkbajhefaaGreatDoor.V
/- lex.blank, wordGoesOn, wordSize, markSize: walks. -/
namespace Go.Proofs.YtjamkfkbajhefaaGreatDoor.V
open Go.RowKit

set_option maxRecDepth 100000 in
set_option maxHeartbeats 2000000 in
theorem blank_any (c : Nat) (w : World) : Calls Tryz.prog 64 #[.int .i32 (c : Int)] w fun e w' => e = .returned (.bool (blankN c)) ∧ w' = w := by
  have key : ∀ x : Nat, (c = x) ∨ ((((c : Int) == (x : Int)) = false) ∧ (c == x) = false) := fun x => by
    by_cases h : c = x
    · exact .inl h
    · exact .inr ⟨by rw [beq_eq_false_iff_ne]; omega, by rw [beq_eq_false_iff_ne]; exact h⟩
  unfold blankN
  rcases key 32 with rfl | ⟨a1, b1⟩
  · go_enter Tryz.func64, Tryz.ntmps64
    go_wp2
    go_ret
    exact ⟨rfl, rfl⟩
  rcases key 9 with rfl | ⟨a2, b2⟩
  · go_enter Tryz.func64, Tryz.ntmps64
    go_wp2
    go_ret
    exact ⟨rfl, rfl⟩
  rcases key 10 with rfl | ⟨a3, b3⟩
  · go_enter Tryz.func64, Tryz.ntmps64
    go_wp2
    go_ret
    exact ⟨rfl, rfl⟩
  rcases key 13 with rfl | ⟨a4, b4⟩
  · go_enter Tryz.func64, Tryz.ntmps64
    go_wp2
    go_ret
    exact ⟨rfl, rfl⟩
  rw [b1, b2, b3, b4]
  clear b1 b2 b3 b4 key
  have c1 : ((c : Int) == 32) = false := a1
  have c2 : ((c : Int) == 9) = false := a2
  have c3 : ((c : Int) == 10) = false := a3
  have c4 : ((c : Int) == 13) = false := a4
  clear a1 a2 a3 a4
  go_enter Tryz.func64, Tryz.ntmps64
  go_wp2
  go_ret
  exact ⟨rfl, rfl⟩
/-- What holds of wordGoesOn's loop at every round. -/
def WgRel (s : ByteArray) (w : World) (k0 : Nat) (wr : World) : Prop :=
  ∃ pos : Nat, wr.heap[k0]? = some (.stringIter s pos) ∧ pos ≤ s.size ∧ Below w.heap.size w wr ∧ pos + wgo (s.data.toList.drop pos) = wgo s.data.toList
set_option maxRecDepth 100000 in
set_option maxHeartbeats 4000000 in
theorem wordGoesOn_any (s : ByteArray) (w : World) :
    Calls Tryz.prog 94 #[.string s] w fun e w' => e = .returned (.int .i64 (wgo s.data.toList : Nat)) ∧ Below w.heap.size w w' := by
  go_enter Tryz.func94, Tryz.ntmps94
  go_wp2_with fail
  go_loopw [2] (fun r wr => r = .int .i64 0 ∧ WgRel s w w.heap.size wr) (fun _ wr => s.size - wr.iterPos w.heap.size)
  case atStart => exact ⟨rfl, 0, World.iter_heap w s 0, Nat.zero_le _, (Below.refl _ _).alloc (Nat.le_refl _) _, by simp⟩
  case round =>
    obtain ⟨rfl, pos, hit, hps, hbw, hck⟩ := hrel
    have HC : Hid (pos + wgo (s.data.toList.drop pos) = wgo s.data.toList) := hck
    clear hck
    have hsz : w.heap.size < wr.heap.size := (Array.getElem?_eq_some_iff.1 hit).1
    by_cases hp : pos < s.size
    · have hnx : ∀ ty, (Instr.next (.pointer (some ⟨w.heap.size, 0, none⟩)) true ty).run Tryz.prog wr = _ := fun ty => Lib.run_next_any_at wr w.heap.size s pos ty hit hp
      have hwd := Lib.decode_width_pos s pos hp
      have hit2 := Lib.iterAt_heap wr w.heap.size s pos (pos + (Utf8.decode s pos).2) hit
      have hbw2 := Lib.below_iterAt hbw (k := w.heap.size) (Nat.le_refl _) s (pos + (Utf8.decode s pos).2)
      have hrl := Lib.rune_le s pos
      have hwl := width_le s pos hp
      have hmeas : Hid (s.size - (pos + (Utf8.decode s pos).2) < s.size - wr.iterPos w.heap.size) := by
        show _ < _
        rw [iterPos_of hit]; omega
      have HS : Hid (wgo (s.data.toList.drop pos) = if goC (Utf8.decode s pos).1 = true then (Utf8.decode s pos).2 + wgo (s.data.toList.drop (pos + (Utf8.decode s pos).2)) else 0) := by
        show _ = _
        rw [wgo_step (drop_ne s pos hp), Lib.decodeL_drop, List.drop_drop]
      have hmp : Hid ((wr.iterAt w.heap.size s (pos + (Utf8.decode s pos).2)).iterPos w.heap.size = pos + (Utf8.decode s pos).2) := iterPos_of hit2
      generalize (Utf8.decode s pos).1 = c at *
      generalize (Utf8.decode s pos).2 = d at *
      generalize hW : wr.iterAt w.heap.size s (pos + d) = W at *
      have HL : Hid (∀ w : World, Calls Tryz.prog 92 #[.int .i32 (c : Int)] w fun e w' => e = .returned (.bool (letterN c)) ∧ w' = w) := fun w => by rw [← letterZ_nat]; exact letter_any c w
      clear hW
      have k95 : (c = 95) ∨ (((c : Int) != 95) = true ∧ (c == 95) = false) := by
        by_cases h : c = 95
        · exact .inl h
        · exact .inr ⟨by rw [bne_iff_ne]; omega, by rw [beq_eq_false_iff_ne]; exact h⟩
      have k45 : (c = 45) ∨ (((c : Int) != 45) = true ∧ (c == 45) = false) := by
        by_cases h : c = 45
        · exact .inl h
        · exact .inr ⟨by rw [bne_iff_ne]; omega, by rw [beq_eq_false_iff_ne]; exact h⟩
      have k48 : (decide ((c : Int) < 48) = true ∧ decide (48 ≤ c ∧ c ≤ 57) = false) ∨ (decide ((c : Int) < 48) = false ∧ decide ((57 : Int) < c) = true ∧ decide (48 ≤ c ∧ c ≤ 57) = false) ∨ (decide ((c : Int) < 48) = false ∧ decide ((57 : Int) < c) = false ∧ decide (48 ≤ c ∧ c ≤ 57) = true) := by
        by_cases h1 : c < 48
        · exact .inl ⟨by simp; omega, by simp; omega⟩
        · by_cases h2 : 57 < c
          · exact .inr (.inl ⟨by simp; omega, by simp; omega, by simp; omega⟩)
          · exact .inr (.inr ⟨by simp; omega, by simp; omega, by simp; omega⟩)
      have go1 : goC c = true → Hid (WgRel s w w.heap.size W) := fun h => by
        refine ⟨pos + d, hit2, hwl, hbw2, ?_⟩
        have := HS.out
        rw [if_pos h] at this
        rw [← HC.out, this]
        omega
      have go0 : goC c = false → Hid (pos = wgo s.data.toList) := fun h => by
        have := HS.out
        rw [if_neg (by rw [h]; decide)] at this
        show _ = _
        rw [← HC.out, this]
        rfl
      unfold goC at go1 go0
      clear HS HC hwd
      cases hLc : letterN c
      · rw [hLc] at HL go1 go0
        rcases k95 with rfl | ⟨k95, k95'⟩
        · have HR := go1 rfl
          clear go0 go1 hLc k45 k48
          go_wp2_with (go_at_call 92; refine (HL.out _).mono ?_; rintro e w' ⟨rfl, rfl⟩)
          go_roundw
          case rel => exact ⟨rfl, HR.out⟩
          case measure => rw [hmp.out]; exact hmeas.out
        rcases k45 with rfl | ⟨k45, k45'⟩
        · have HR := go1 rfl
          clear go0 go1 hLc k48
          go_wp2_with (go_at_call 92; refine (HL.out _).mono ?_; rintro e w' ⟨rfl, rfl⟩)
          go_roundw
          case rel => exact ⟨rfl, HR.out⟩
          case measure => rw [hmp.out]; exact hmeas.out
        rw [k95', k45'] at go1 go0
        rcases k48 with ⟨k48, kd⟩ | ⟨k48, k57, kd⟩ | ⟨k48, k57, kd⟩
        · rw [kd] at go0
          have HR := go0 rfl
          clear go0 go1 hLc k95' k45' kd
          go_wp2_with (go_at_call 92; refine (HL.out _).mono ?_; rintro e w' ⟨rfl, rfl⟩)
          go_ret
          exact ⟨by rw [← HR.out]; rfl, hbw2⟩
        · rw [kd] at go0
          have HR := go0 rfl
          clear go0 go1 hLc k95' k45' kd
          go_wp2_with (go_at_call 92; refine (HL.out _).mono ?_; rintro e w' ⟨rfl, rfl⟩)
          go_ret
          exact ⟨by rw [← HR.out]; rfl, hbw2⟩
        · rw [kd] at go1
          have HR := go1 rfl
          clear go0 go1 hLc k95' k45' kd
          go_wp2_with (go_at_call 92; refine (HL.out _).mono ?_; rintro e w' ⟨rfl, rfl⟩)
          go_roundw
          case rel => exact ⟨rfl, HR.out⟩
          case measure => rw [hmp.out]; exact hmeas.out
      · rw [hLc] at HL go1
        have HR := go1 rfl
        clear go0 go1 hLc k95 k45 k48
        go_wp2_with (go_at_call 92; refine (HL.out _).mono ?_; rintro e w' ⟨rfl, rfl⟩)
        go_roundw
        case rel => exact ⟨rfl, HR.out⟩
        case measure => rw [hmp.out]; exact hmeas.out
    · have hnx : ∀ ty, (Instr.next (.pointer (some ⟨w.heap.size, 0, none⟩)) true ty).run Tryz.prog wr = _ := fun ty => Lib.run_next_end_at wr w.heap.size s pos ty hit hp
      have HR : Hid (s.size = wgo s.data.toList) := by
        show _ = _
        rw [← HC.out, List.drop_of_length_le (by rw [← Lib.size_eq]; omega), wgo_nil]
        omega
      clear HC
      go_wp2
      go_ret
      exact ⟨by rw [← HR.out]; rfl, hbw⟩
end Go.Proofs.YtjamkfkbajhefaaGreatDoor.V
/- lex.wordSize, markSize, cut: walks. -/
namespace Go.Proofs.YtjamkfkbajhefaaGreatDoor.V
open Go.RowKit

theorem wsz_go (s : ByteArray) : wsz s.data.toList = if (Lib.decodeGo s).1 = 95 ∨ letterN (Lib.decodeGo s).1 = true then wgo s.data.toList else 0 := by
  unfold wsz
  by_cases hz : s.size = 0
  · have ed : Lib.decodeGo s = (65533, 0) := by unfold Lib.decodeGo; rw [if_pos hz]
    have e : s.data.toList = [] := List.eq_nil_of_length_eq_zero (by rw [← Lib.size_eq]; exact hz)
    rw [ed, e, if_neg (fun h => h.1 rfl)]
    decide +kernel
  · have hne : s.data.toList ≠ [] := fun e => hz (by rw [Lib.size_eq, e]; rfl)
    rw [dec_same s hz]
    by_cases h : (Lib.decodeL s.data.toList).1 = 95 ∨ letterN (Lib.decodeL s.data.toList).1 = true
    · rw [if_pos ⟨hne, h⟩, if_pos h]
    · rw [if_neg (fun e => h e.2), if_neg h]
set_option maxRecDepth 100000 in
set_option maxHeartbeats 2000000 in
theorem wordSize_any (s : ByteArray) (w : World) (hU : UT w) :
    Calls Tryz.prog 95 #[.string s] w fun e w' => e = .returned (.int .i64 (wsz s.data.toList : Nat)) ∧ Below w.heap.size w w' := by
  have HD : Hid (∀ w, UT w → Calls Tryz.prog 76 #[.string s] w fun e w' => e = .returned (.tuple #[.int .i32 (Lib.decodeGo s).1, .int .i64 (Lib.decodeGo s).2]) ∧ Below w.heap.size w w') := fun w h => Tryz.utf8_DecodeRuneInString s w h
  have hcl : (Lib.decodeGo s).1 ≤ 1114111 := by have := (decGo_ok s).1; unfold scal at this; omega
  have HW : Hid (∀ w, Calls Tryz.prog 94 #[.string s] w fun e w' => e = .returned (.int .i64 (wgo s.data.toList : Nat)) ∧ Below w.heap.size w w') := fun w => wordGoesOn_any s w
  rw [wsz_go]
  generalize wgo s.data.toList = W at *
  generalize Lib.decodeGo s = p at *
  obtain ⟨c, d⟩ := p
  simp only at HD hcl ⊢
  have HL : Hid (∀ w : World, Calls Tryz.prog 92 #[.int .i32 (c : Int)] w fun e w' => e = .returned (.bool (letterN c)) ∧ w' = w) := fun w => by rw [← letterZ_nat]; exact letter_any c w
  by_cases h95 : c = 95
  · subst h95
    rw [if_pos (.inl rfl)]
    go_enter Tryz.func95, Tryz.ntmps95
    go_wp2_with fail
    refine (HD.out _ hU).mono ?_
    rintro e w1 ⟨rfl, hb1⟩
    go_wp2_with fail
    refine (HW.out _).mono ?_
    rintro e w2 ⟨rfl, hb2⟩
    have hB := hb1.trans (hb2.mono hb1.size)
    clear hb1 hb2
    go_wp2
    go_ret
    exact ⟨rfl, hB⟩
  have n95 : ((c : Int) != 95) = true := by rw [bne_iff_ne]; omega
  cases hL : letterN c
  · rw [if_neg (by simp [h95])]
    rw [hL] at HL
    clear hL h95
    go_enter Tryz.func95, Tryz.ntmps95
    go_wp2_with fail
    refine (HD.out _ hU).mono ?_
    rintro e w1 ⟨rfl, hb1⟩
    go_wp2_with (go_at_call 92; refine (HL.out _).mono ?_; rintro e w' ⟨rfl, rfl⟩)
    go_ret
    exact ⟨rfl, hb1⟩
  · rw [if_pos (.inr rfl)]
    rw [hL] at HL
    clear hL h95
    go_enter Tryz.func95, Tryz.ntmps95
    go_wp2_with fail
    refine (HD.out _ hU).mono ?_
    rintro e w1 ⟨rfl, hb1⟩
    go_wp2_with fail
    refine (HL.out _).mono ?_
    rintro e w' ⟨rfl, rfl⟩
    go_wp2_with fail
    refine (HW.out _).mono ?_
    rintro e w2 ⟨rfl, hb2⟩
    have hB := hb1.trans (hb2.mono hb1.size)
    clear hb1 hb2
    go_wp2
    go_ret
    exact ⟨rfl, hB⟩
abbrev MK : ByteArray := ⟨#[61, 60, 62, 123, 125, 40, 41, 44]⟩
set_option maxRecDepth 100000 in
set_option maxHeartbeats 2000000 in
theorem markSize_any (s : ByteArray) (w : World) (h0 : 0 < s.size) :
    Calls Tryz.prog 96 #[.string s] w fun e w' => e = .returned (.int .i64 (msz s.data.toList : Nat)) ∧ w' = w := by
  unfold msz
  cases p1 : Lib.hasPrefix s.data.toList [33, 61]
  · cases p2 : Lib.hasPrefix s.data.toList [60, 61]
    · cases p3 : Lib.hasPrefix s.data.toList [62, 61]
      · rw [if_neg (by simp)]
        have h0' : (0 : Int) < s.size := by omega
        have hg := gN_of s 0 h0
        have hgl := gN_list s 0 h0
        have hlt := gN_lt s 0
        have HI : Hid (∀ w, Calls Tryz.prog 123 #[.string MK, .int .u8 (gN s 0 : Int)] w fun e w' => e = .returned (.int .i64 (Lib.indexByte marks1 (s.data.toList.getD 0 0))) ∧ w' = w) := fun w => by
          have := Tryz.strings_IndexByte MK (gN s 0 : Int) w
          rw [show ((gN s 0 : Int).toNat).toUInt8 = s.data.toList.getD 0 0 by rw [hgl]; simp] at this
          exact this
        generalize gN s 0 = g at *
        generalize Lib.indexByte marks1 (s.data.toList.getD 0 0) = J at *
        clear hgl
        by_cases hJ : 0 ≤ J
        · rw [if_pos hJ]
          have dJ : decide (0 ≤ J) = true := by simpa using hJ
          go_enter Tryz.func96, Tryz.ntmps96
          go_wp2_with fail
          refine (Tryz.strings_HasPrefix _ _ _).mono ?_
          rintro e w1 ⟨rfl, rfl⟩
          rw [show (⟨#[33, 61]⟩ : ByteArray).data.toList = [33, 61] from rfl, p1]
          go_wp2_with fail
          refine (Tryz.strings_HasPrefix _ _ _).mono ?_
          rintro e w1 ⟨rfl, rfl⟩
          rw [show (⟨#[60, 61]⟩ : ByteArray).data.toList = [60, 61] from rfl, p2]
          go_wp2_with fail
          refine (Tryz.strings_HasPrefix _ _ _).mono ?_
          rintro e w1 ⟨rfl, rfl⟩
          rw [show (⟨#[62, 61]⟩ : ByteArray).data.toList = [62, 61] from rfl, p3]
          go_wp2_with fail
          refine (HI.out _).mono ?_
          rintro e w1 ⟨rfl, rfl⟩
          go_wp2
          go_ret
          exact ⟨rfl, rfl⟩
        · rw [if_neg hJ]
          have dJ : decide (0 ≤ J) = false := by simpa using hJ
          go_enter Tryz.func96, Tryz.ntmps96
          go_wp2_with fail
          refine (Tryz.strings_HasPrefix _ _ _).mono ?_
          rintro e w1 ⟨rfl, rfl⟩
          rw [show (⟨#[33, 61]⟩ : ByteArray).data.toList = [33, 61] from rfl, p1]
          go_wp2_with fail
          refine (Tryz.strings_HasPrefix _ _ _).mono ?_
          rintro e w1 ⟨rfl, rfl⟩
          rw [show (⟨#[60, 61]⟩ : ByteArray).data.toList = [60, 61] from rfl, p2]
          go_wp2_with fail
          refine (Tryz.strings_HasPrefix _ _ _).mono ?_
          rintro e w1 ⟨rfl, rfl⟩
          rw [show (⟨#[62, 61]⟩ : ByteArray).data.toList = [62, 61] from rfl, p3]
          go_wp2_with fail
          refine (HI.out _).mono ?_
          rintro e w1 ⟨rfl, rfl⟩
          go_wp2
          go_ret
          exact ⟨rfl, rfl⟩
      · rw [if_pos (by simp)]
        go_enter Tryz.func96, Tryz.ntmps96
        go_wp2_with fail
        refine (Tryz.strings_HasPrefix _ _ _).mono ?_
        rintro e w1 ⟨rfl, rfl⟩
        rw [show (⟨#[33, 61]⟩ : ByteArray).data.toList = [33, 61] from rfl, p1]
        go_wp2_with fail
        refine (Tryz.strings_HasPrefix _ _ _).mono ?_
        rintro e w1 ⟨rfl, rfl⟩
        rw [show (⟨#[60, 61]⟩ : ByteArray).data.toList = [60, 61] from rfl, p2]
        go_wp2_with fail
        refine (Tryz.strings_HasPrefix _ _ _).mono ?_
        rintro e w1 ⟨rfl, rfl⟩
        rw [show (⟨#[62, 61]⟩ : ByteArray).data.toList = [62, 61] from rfl, p3]
        go_wp2
        go_ret
        exact ⟨rfl, rfl⟩
    · rw [if_pos (by simp)]
      go_enter Tryz.func96, Tryz.ntmps96
      go_wp2_with fail
      refine (Tryz.strings_HasPrefix _ _ _).mono ?_
      rintro e w1 ⟨rfl, rfl⟩
      rw [show (⟨#[33, 61]⟩ : ByteArray).data.toList = [33, 61] from rfl, p1]
      go_wp2_with fail
      refine (Tryz.strings_HasPrefix _ _ _).mono ?_
      rintro e w1 ⟨rfl, rfl⟩
      rw [show (⟨#[60, 61]⟩ : ByteArray).data.toList = [60, 61] from rfl, p2]
      go_wp2
      go_ret
      exact ⟨rfl, rfl⟩
  · rw [if_pos (by simp)]
    go_enter Tryz.func96, Tryz.ntmps96
    go_wp2_with fail
    refine (Tryz.strings_HasPrefix _ _ _).mono ?_
    rintro e w1 ⟨rfl, rfl⟩
    rw [show (⟨#[33, 61]⟩ : ByteArray).data.toList = [33, 61] from rfl, p1]
    go_wp2
    go_ret
    exact ⟨rfl, rfl⟩
end Go.Proofs.YtjamkfkbajhefaaGreatDoor.V
