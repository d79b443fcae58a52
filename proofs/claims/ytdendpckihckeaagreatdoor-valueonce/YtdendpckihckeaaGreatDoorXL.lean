/- value.goesOn, scanBool, Scan, Parse at any text: walks. -/
import Derived.Test.YtdendpckihckeaaGreatDoorXH
import Derived.Test.YtdendpckihckeaaGreatDoorXK
import Derived.Test.YtdendpckihckeaaGreatDoorNA
namespace Go.Proofs.YtdendpckihckeaaGreatDoor
open Go.RowKit

theorem goes_go (s : ByteArray) : goesL s.data.toList = (letterN (Lib.decodeGo s).1 || (decide (48 ≤ (Lib.decodeGo s).1 ∧ (Lib.decodeGo s).1 ≤ 57) || ((Lib.decodeGo s).1 == 95 || (Lib.decodeGo s).1 == 45))) := by
  by_cases hz : s.size = 0
  · have ed : Lib.decodeGo s = (65533, 0) := by unfold Lib.decodeGo; rw [if_pos hz]
    have e : s.data.toList = [] := List.eq_nil_of_length_eq_zero (by rw [← Lib.size_eq]; exact hz)
    rw [ed, e]
    decide +kernel
  · rw [dec_same s hz]
    rfl
set_option maxRecDepth 100000 in
set_option maxHeartbeats 2000000 in
theorem goesOn_any (s : ByteArray) (w : World) (hU : UT w) :
    Calls Tryz.prog 61 #[.string s] w fun e w' => e = .returned (.bool (goesL s.data.toList)) ∧ Below w.heap.size w w' := by
  have HD : Hid (∀ w, UT w → Calls Tryz.prog 87 #[.string s] w fun e w' => e = .returned (.tuple #[.int .i32 (Lib.decodeGo s).1, .int .i64 (Lib.decodeGo s).2]) ∧ Below w.heap.size w w') := fun w h => Tryz.utf8_DecodeRuneInString s w h
  have hcl : (Lib.decodeGo s).1 ≤ 1114111 := by have := (decGo_ok s).1; unfold scal at this; omega
  rw [goes_go]
  generalize (Lib.decodeGo s).1 = c at *
  generalize (Lib.decodeGo s).2 = d at *
  rw [← letterZ_nat]
  have HL : Hid (∀ w : World, Calls Tryz.prog 92 #[.int .i32 (c : Int)] w fun e w' => e = .returned (.bool (letterZ c)) ∧ w' = w) := fun w => letter_any c w
  generalize letterZ (c : Int) = L at *
  cases L
  · have k1 : (decide ((48 : Int) ≤ c) = true ∧ decide ((c : Int) ≤ 57) = true ∧ 48 ≤ c ∧ c ≤ 57) ∨ (decide ((48 : Int) ≤ c) = true ∧ decide ((c : Int) ≤ 57) = false ∧ ¬ (48 ≤ c ∧ c ≤ 57)) ∨ (decide ((48 : Int) ≤ c) = false ∧ ¬ (48 ≤ c ∧ c ≤ 57)) := by
      by_cases h1 : 48 ≤ c
      · by_cases h2 : c ≤ 57
        · exact .inl ⟨by simp; omega, by simp; omega, h1, h2⟩
        · exact .inr (.inl ⟨by simp; omega, by simp; omega, by omega⟩)
      · exact .inr (.inr ⟨by simp; omega, by omega⟩)
    have k2 : (c = 95 ∧ ((c : Int) == 95) = true) ∨ (((c : Int) == 95) = false ∧ (c == 95) = false) := by
      by_cases h : c = 95
      · exact .inl ⟨h, by subst h; rfl⟩
      · exact .inr ⟨by rw [beq_eq_false_iff_ne]; omega, by rw [beq_eq_false_iff_ne]; exact h⟩
    have k3 : (c = 45 ∧ ((c : Int) == 45) = true) ∨ (((c : Int) == 45) = false ∧ (c == 45) = false) := by
      by_cases h : c = 45
      · exact .inl ⟨h, by subst h; rfl⟩
      · exact .inr ⟨by rw [beq_eq_false_iff_ne]; omega, by rw [beq_eq_false_iff_ne]; exact h⟩
    rcases k1 with ⟨a1, a2, a3, a4⟩ | ⟨a1, a2, a3⟩ | ⟨a1, a3⟩
    · have HR : Hid ((false || (decide (48 ≤ c ∧ c ≤ 57) || (c == 95 || c == 45))) = true) := by show _ = _; rw [decide_eq_true ⟨a3, a4⟩]; rfl
      rw [HR.out]
      clear k2 k3 HR
      go_enter Tryz.func61, Tryz.ntmps61
      go_wp2_with fail
      refine (HD.out _ hU).mono ?_
      rintro e w1 ⟨rfl, hb1⟩
      go_wp2_with (go_at_call 92; refine (HL.out _).mono ?_; rintro e w' ⟨rfl, rfl⟩)
      go_ret
      exact ⟨rfl, hb1⟩
    all_goals
      have HR : Hid ((false || (decide (48 ≤ c ∧ c ≤ 57) || (c == 95 || c == 45))) = (c == 95 || c == 45)) := by show _ = _; rw [decide_eq_false a3]; rfl
      rw [HR.out]
      clear HR a3
      rcases k2 with ⟨rfl, -⟩ | ⟨k2, k2'⟩
      · go_enter Tryz.func61, Tryz.ntmps61
        go_wp2_with fail
        refine (HD.out _ hU).mono ?_
        rintro e w1 ⟨rfl, hb1⟩
        go_wp2_with (go_at_call 92; refine (HL.out _).mono ?_; rintro e w' ⟨rfl, rfl⟩)
        go_ret
        exact ⟨rfl, hb1⟩
      · rw [k2', Bool.false_or]
        rcases k3 with ⟨rfl, -⟩ | ⟨k3, k3'⟩
        · go_enter Tryz.func61, Tryz.ntmps61
          go_wp2_with fail
          refine (HD.out _ hU).mono ?_
          rintro e w1 ⟨rfl, hb1⟩
          go_wp2_with (go_at_call 92; refine (HL.out _).mono ?_; rintro e w' ⟨rfl, rfl⟩)
          go_ret
          exact ⟨rfl, hb1⟩
        · rw [k3']
          clear k2' k3'
          go_enter Tryz.func61, Tryz.ntmps61
          go_wp2_with fail
          refine (HD.out _ hU).mono ?_
          rintro e w1 ⟨rfl, hb1⟩
          go_wp2_with (go_at_call 92; refine (HL.out _).mono ?_; rintro e w' ⟨rfl, rfl⟩)
          go_ret
          exact ⟨rfl, hb1⟩
  · rw [Bool.true_or]
    go_enter Tryz.func61, Tryz.ntmps61
    go_wp2_with fail
    refine (HD.out _ hU).mono ?_
    rintro e w1 ⟨rfl, hb1⟩
    go_wp2_with (go_at_call 92; refine (HL.out _).mono ?_; rintro e w' ⟨rfl, rfl⟩)
    go_ret
    exact ⟨rfl, hb1⟩
set_option maxRecDepth 100000 in
set_option maxHeartbeats 2000000 in
theorem scanBool_any (n : Int) (s : ByteArray) (w : World) (hU : UT w) :
    Calls Tryz.prog 30 #[.int .i64 n, .string s] w fun e w' => e = .returned (scV (scB n s.data.toList)) ∧ Below w.heap.size w w' := by
  have HS : Hid (str s.data.toList = s) := str_of s
  have HG : Hid (∀ w, UT w → Calls Tryz.prog 61 #[.string s] w fun e w' => e = .returned (.bool (goesL s.data.toList)) ∧ Below w.heap.size w w') := fun w h => goesOn_any s w h
  unfold scB
  cases hB : goesL s.data.toList
  all_goals
    rw [hB] at HG
    clear hB
    go_enter Tryz.func30, Tryz.ntmps30
    go_wp2_with fail
    refine (HG.out _ (Utf8Tabs_below hU (wv_below w))).mono ?_
    rintro e w1 ⟨rfl, hb1⟩
    have HF : Hid (Fr w w1) := Fr.of hb1
    obtain ⟨⟨d0, d1, d2, f0, f1, f2⟩, -⟩ := HF.out
    clear hb1
    go_wp2
    try simp only [Exit.inBlock, Exit.then]
    refine bodyPost_ret (results_v3 rfl _ _ w.heap.size rfl (HF.out.z.three.set _ _ _)) rfl ⟨?_, set3_below HF.out.b _ _ _⟩
  · simp only [scV, HS.out]
    rfl
  · rfl
/-- What the scanners ask of the world. -/
structure VE (w : World) : Prop where
  u : UT w
  t : T16 w
  m : ML w
  e : ES w
theorem VE.below {w w' : World} (h : VE w) (hb : Below w.heap.size w w') : VE w' := ⟨Utf8Tabs_below h.u hb, T16_below h.t hb, ML_below h.m hb, ES_below h.e hb⟩
theorem sub_list (s : ByteArray) (m : Nat) : (s.extract m s.size).data.toList = s.data.toList.drop m := by rw [ext_from, str_data]
theorem pre_len {l p : List UInt8} (h : Lib.hasPrefix l p = true) : p.length ≤ l.length := (List.isPrefixOf_iff_prefix.1 h).length_le
theorem sc_ok (x : Sc) (h : x.e ≠ 0) (hx : ∃ e, x = .bad e) : x = .bad x.e := by obtain ⟨e, rfl⟩ := hx; rfl
theorem bad_or (l : List UInt8) : (scn l).e = 0 ∨ scn l = .bad (scn l).e := by
  have hB : ∀ n l, (scB n l).e = 0 ∨ scB n l = .bad (scB n l).e := fun n l => by unfold scB; split <;> simp
  have hI : ∀ b l, (scI b l).e = 0 ∨ scI b l = .bad (scI b l).e := fun b l => by unfold scI; (repeat' split) <;> simp
  have hT : ∀ l, (scT l).e = 0 ∨ scT l = .bad (scT l).e := fun l => by unfold scT; (repeat' split) <;> simp
  have hX : ∀ l, (scX l).e = 0 ∨ scX l = .bad (scX l).e := fun l => by unfold scX; (repeat' split) <;> simp
  unfold scn
  repeat' split
  · exact hT _
  · exact hX _
  · exact hB _ _
  · exact hB _ _
  · exact hI _ _
  · exact hI _ _
/-- A scanner's answer, its error asked. -/
def scW (k n : Int) (S R : ByteArray) (e : Int) : Value := if e = 0 then .tuple #[vv k n S, .string R, .int .i64 0] else .tuple #[v0, .string ⟨#[]⟩, .int .i64 e]
theorem scW_is {x : Sc} (h : x.e = 0 ∨ x = .bad x.e) : scW x.k x.n (str x.s) (str x.r) x.e = scV x := by
  unfold scW
  by_cases e : x.e = 0
  · rw [if_pos e, scV, e]
  · rw [if_neg e]
    rcases h with h | h
    · exact absurd h e
    · rw [h]; rfl
set_option maxRecDepth 100000 in
set_option maxHeartbeats 2000000 in
theorem scan_qw (s : ByteArray) (w : World) (h : VE w) (h0 : Lib.hasPrefix s.data.toList [34] = true) (hz : 1 ≤ s.size) (k n : Int) (S R : ByteArray) (e : Int)
    (HC : Hid (∀ w, VE w → Calls Tryz.prog 28 #[.string (s.extract 1 s.size)] w fun e0 w' => e0 = .returned (.tuple #[vv k n S, .string R, .int .i64 e]) ∧ Below w.heap.size w w')) :
    Calls Tryz.prog 10 #[.string s] w fun e0 w' => e0 = .returned (scW k n S R e) ∧ Below w.heap.size w w' := by
  have hz' : (1 : Int) ≤ s.size := by omega
  by_cases he : e = 0
  · subst he
    rw [show scW k n S R 0 = .tuple #[vv k n S, .string R, .int .i64 0] from rfl]
    go_enter Tryz.func10, Tryz.ntmps10
    go_wp2_with fail
    refine (Tryz.strings_HasPrefix _ _ _).mono ?_
    rintro e0 w1 ⟨rfl, rfl⟩
    rw [show (⟨#[34]⟩ : ByteArray).data.toList = [34] from rfl, h0]
    go_wp2_with fail
    refine (HC.out _ (h.below (wv_below w))).mono ?_
    rintro e0 w2 ⟨rfl, hb2⟩
    have HF : Hid (Fr w w2) := Fr.of hb2
    obtain ⟨⟨d0, d1, d2, f0, f1, f2⟩, -⟩ := HF.out
    clear hb2
    go_wp2
    try simp only [Exit.inBlock, Exit.then]
    exact bodyPost_ret (results_v3 rfl _ _ w.heap.size rfl ((HF.out.z.three.set _ _ _).set _ _ _)) rfl ⟨rfl, set3_below (set3_below HF.out.b _ _ _) _ _ _⟩
  · rw [show scW k n S R e = .tuple #[v0, .string ⟨#[]⟩, .int .i64 e] from if_neg he]
    have he' : (e != 0) = true := by rw [bne_iff_ne]; exact he
    clear he
    go_enter Tryz.func10, Tryz.ntmps10
    go_wp2_with fail
    refine (Tryz.strings_HasPrefix _ _ _).mono ?_
    rintro e0 w1 ⟨rfl, rfl⟩
    rw [show (⟨#[34]⟩ : ByteArray).data.toList = [34] from rfl, h0]
    go_wp2_with fail
    refine (HC.out _ (h.below (wv_below w))).mono ?_
    rintro e0 w2 ⟨rfl, hb2⟩
    have HF : Hid (Fr w w2) := Fr.of hb2
    obtain ⟨⟨d0, d1, d2, f0, f1, f2⟩, -⟩ := HF.out
    clear hb2
    go_wp2
    try simp only [Exit.inBlock, Exit.then]
    exact bodyPost_ret (results_v3 rfl _ _ w.heap.size rfl ((HF.out.z.three.set _ _ _).set _ _ _)) rfl ⟨rfl, set3_below (set3_below HF.out.b _ _ _) _ _ _⟩
set_option maxRecDepth 100000 in
set_option maxHeartbeats 2000000 in
theorem scan_xw (s : ByteArray) (w : World) (h : VE w) (h0 : Lib.hasPrefix s.data.toList [34] = false) (h1 : Lib.hasPrefix s.data.toList [120, 39] = true) (hz : 2 ≤ s.size) (k n : Int) (S R : ByteArray) (e : Int)
    (HC : Hid (∀ w, VE w → Calls Tryz.prog 29 #[.string (s.extract 2 s.size)] w fun e0 w' => e0 = .returned (.tuple #[vv k n S, .string R, .int .i64 e]) ∧ Below w.heap.size w w')) :
    Calls Tryz.prog 10 #[.string s] w fun e0 w' => e0 = .returned (scW k n S R e) ∧ Below w.heap.size w w' := by
  have hz' : (2 : Int) ≤ s.size := by omega
  by_cases he : e = 0
  · subst he
    rw [show scW k n S R 0 = .tuple #[vv k n S, .string R, .int .i64 0] from rfl]
    go_enter Tryz.func10, Tryz.ntmps10
    go_wp2_with fail
    refine (Tryz.strings_HasPrefix _ _ _).mono ?_
    rintro e0 w1 ⟨rfl, rfl⟩
    rw [show (⟨#[34]⟩ : ByteArray).data.toList = [34] from rfl, h0]
    go_wp2_with fail
    refine (Tryz.strings_HasPrefix _ _ _).mono ?_
    rintro e0 w1 ⟨rfl, rfl⟩
    rw [show (⟨#[120, 39]⟩ : ByteArray).data.toList = [120, 39] from rfl, h1]
    go_wp2_with fail
    refine (HC.out _ (h.below (wv_below w))).mono ?_
    rintro e0 w2 ⟨rfl, hb2⟩
    have HF : Hid (Fr w w2) := Fr.of hb2
    obtain ⟨⟨d0, d1, d2, f0, f1, f2⟩, -⟩ := HF.out
    clear hb2
    go_wp2
    try simp only [Exit.inBlock, Exit.then]
    exact bodyPost_ret (results_v3 rfl _ _ w.heap.size rfl ((HF.out.z.three.set _ _ _).set _ _ _)) rfl ⟨rfl, set3_below (set3_below HF.out.b _ _ _) _ _ _⟩
  · rw [show scW k n S R e = .tuple #[v0, .string ⟨#[]⟩, .int .i64 e] from if_neg he]
    have he' : (e != 0) = true := by rw [bne_iff_ne]; exact he
    clear he
    go_enter Tryz.func10, Tryz.ntmps10
    go_wp2_with fail
    refine (Tryz.strings_HasPrefix _ _ _).mono ?_
    rintro e0 w1 ⟨rfl, rfl⟩
    rw [show (⟨#[34]⟩ : ByteArray).data.toList = [34] from rfl, h0]
    go_wp2_with fail
    refine (Tryz.strings_HasPrefix _ _ _).mono ?_
    rintro e0 w1 ⟨rfl, rfl⟩
    rw [show (⟨#[120, 39]⟩ : ByteArray).data.toList = [120, 39] from rfl, h1]
    go_wp2_with fail
    refine (HC.out _ (h.below (wv_below w))).mono ?_
    rintro e0 w2 ⟨rfl, hb2⟩
    have HF : Hid (Fr w w2) := Fr.of hb2
    obtain ⟨⟨d0, d1, d2, f0, f1, f2⟩, -⟩ := HF.out
    clear hb2
    go_wp2
    try simp only [Exit.inBlock, Exit.then]
    exact bodyPost_ret (results_v3 rfl _ _ w.heap.size rfl ((HF.out.z.three.set _ _ _).set _ _ _)) rfl ⟨rfl, set3_below (set3_below HF.out.b _ _ _) _ _ _⟩
set_option maxRecDepth 100000 in
set_option maxHeartbeats 2000000 in
theorem scan_tw (s : ByteArray) (w : World) (h : VE w) (h0 : Lib.hasPrefix s.data.toList [34] = false) (h1 : Lib.hasPrefix s.data.toList [120, 39] = false) (h2 : Lib.hasPrefix s.data.toList [116, 114, 117, 101] = true) (hz : 4 ≤ s.size) (k n : Int) (S R : ByteArray) (e : Int)
    (HC : Hid (∀ w, VE w → Calls Tryz.prog 30 #[.int .i64 1, .string (s.extract 4 s.size)] w fun e0 w' => e0 = .returned (.tuple #[vv k n S, .string R, .int .i64 e]) ∧ Below w.heap.size w w')) :
    Calls Tryz.prog 10 #[.string s] w fun e0 w' => e0 = .returned (scW k n S R e) ∧ Below w.heap.size w w' := by
  have hz' : (4 : Int) ≤ s.size := by omega
  by_cases he : e = 0
  · subst he
    rw [show scW k n S R 0 = .tuple #[vv k n S, .string R, .int .i64 0] from rfl]
    go_enter Tryz.func10, Tryz.ntmps10
    go_wp2_with fail
    refine (Tryz.strings_HasPrefix _ _ _).mono ?_
    rintro e0 w1 ⟨rfl, rfl⟩
    rw [show (⟨#[34]⟩ : ByteArray).data.toList = [34] from rfl, h0]
    go_wp2_with fail
    refine (Tryz.strings_HasPrefix _ _ _).mono ?_
    rintro e0 w1 ⟨rfl, rfl⟩
    rw [show (⟨#[120, 39]⟩ : ByteArray).data.toList = [120, 39] from rfl, h1]
    go_wp2_with fail
    refine (Tryz.strings_HasPrefix _ _ _).mono ?_
    rintro e0 w1 ⟨rfl, rfl⟩
    rw [show (⟨#[116, 114, 117, 101]⟩ : ByteArray).data.toList = [116, 114, 117, 101] from rfl, h2]
    go_wp2_with fail
    refine (HC.out _ (h.below (wv_below w))).mono ?_
    rintro e0 w2 ⟨rfl, hb2⟩
    have HF : Hid (Fr w w2) := Fr.of hb2
    obtain ⟨⟨d0, d1, d2, f0, f1, f2⟩, -⟩ := HF.out
    clear hb2
    go_wp2
    try simp only [Exit.inBlock, Exit.then]
    exact bodyPost_ret (results_v3 rfl _ _ w.heap.size rfl ((HF.out.z.three.set _ _ _).set _ _ _)) rfl ⟨rfl, set3_below (set3_below HF.out.b _ _ _) _ _ _⟩
  · rw [show scW k n S R e = .tuple #[v0, .string ⟨#[]⟩, .int .i64 e] from if_neg he]
    have he' : (e != 0) = true := by rw [bne_iff_ne]; exact he
    clear he
    go_enter Tryz.func10, Tryz.ntmps10
    go_wp2_with fail
    refine (Tryz.strings_HasPrefix _ _ _).mono ?_
    rintro e0 w1 ⟨rfl, rfl⟩
    rw [show (⟨#[34]⟩ : ByteArray).data.toList = [34] from rfl, h0]
    go_wp2_with fail
    refine (Tryz.strings_HasPrefix _ _ _).mono ?_
    rintro e0 w1 ⟨rfl, rfl⟩
    rw [show (⟨#[120, 39]⟩ : ByteArray).data.toList = [120, 39] from rfl, h1]
    go_wp2_with fail
    refine (Tryz.strings_HasPrefix _ _ _).mono ?_
    rintro e0 w1 ⟨rfl, rfl⟩
    rw [show (⟨#[116, 114, 117, 101]⟩ : ByteArray).data.toList = [116, 114, 117, 101] from rfl, h2]
    go_wp2_with fail
    refine (HC.out _ (h.below (wv_below w))).mono ?_
    rintro e0 w2 ⟨rfl, hb2⟩
    have HF : Hid (Fr w w2) := Fr.of hb2
    obtain ⟨⟨d0, d1, d2, f0, f1, f2⟩, -⟩ := HF.out
    clear hb2
    go_wp2
    try simp only [Exit.inBlock, Exit.then]
    exact bodyPost_ret (results_v3 rfl _ _ w.heap.size rfl ((HF.out.z.three.set _ _ _).set _ _ _)) rfl ⟨rfl, set3_below (set3_below HF.out.b _ _ _) _ _ _⟩
set_option maxRecDepth 100000 in
set_option maxHeartbeats 2000000 in
theorem scan_fw (s : ByteArray) (w : World) (h : VE w) (h0 : Lib.hasPrefix s.data.toList [34] = false) (h1 : Lib.hasPrefix s.data.toList [120, 39] = false) (h2 : Lib.hasPrefix s.data.toList [116, 114, 117, 101] = false) (h3 : Lib.hasPrefix s.data.toList [102, 97, 108, 115, 101] = true) (hz : 5 ≤ s.size) (k n : Int) (S R : ByteArray) (e : Int)
    (HC : Hid (∀ w, VE w → Calls Tryz.prog 30 #[.int .i64 0, .string (s.extract 5 s.size)] w fun e0 w' => e0 = .returned (.tuple #[vv k n S, .string R, .int .i64 e]) ∧ Below w.heap.size w w')) :
    Calls Tryz.prog 10 #[.string s] w fun e0 w' => e0 = .returned (scW k n S R e) ∧ Below w.heap.size w w' := by
  have hz' : (5 : Int) ≤ s.size := by omega
  by_cases he : e = 0
  · subst he
    rw [show scW k n S R 0 = .tuple #[vv k n S, .string R, .int .i64 0] from rfl]
    go_enter Tryz.func10, Tryz.ntmps10
    go_wp2_with fail
    refine (Tryz.strings_HasPrefix _ _ _).mono ?_
    rintro e0 w1 ⟨rfl, rfl⟩
    rw [show (⟨#[34]⟩ : ByteArray).data.toList = [34] from rfl, h0]
    go_wp2_with fail
    refine (Tryz.strings_HasPrefix _ _ _).mono ?_
    rintro e0 w1 ⟨rfl, rfl⟩
    rw [show (⟨#[120, 39]⟩ : ByteArray).data.toList = [120, 39] from rfl, h1]
    go_wp2_with fail
    refine (Tryz.strings_HasPrefix _ _ _).mono ?_
    rintro e0 w1 ⟨rfl, rfl⟩
    rw [show (⟨#[116, 114, 117, 101]⟩ : ByteArray).data.toList = [116, 114, 117, 101] from rfl, h2]
    go_wp2_with fail
    refine (Tryz.strings_HasPrefix _ _ _).mono ?_
    rintro e0 w1 ⟨rfl, rfl⟩
    rw [show (⟨#[102, 97, 108, 115, 101]⟩ : ByteArray).data.toList = [102, 97, 108, 115, 101] from rfl, h3]
    go_wp2_with fail
    refine (HC.out _ (h.below (wv_below w))).mono ?_
    rintro e0 w2 ⟨rfl, hb2⟩
    have HF : Hid (Fr w w2) := Fr.of hb2
    obtain ⟨⟨d0, d1, d2, f0, f1, f2⟩, -⟩ := HF.out
    clear hb2
    go_wp2
    try simp only [Exit.inBlock, Exit.then]
    exact bodyPost_ret (results_v3 rfl _ _ w.heap.size rfl ((HF.out.z.three.set _ _ _).set _ _ _)) rfl ⟨rfl, set3_below (set3_below HF.out.b _ _ _) _ _ _⟩
  · rw [show scW k n S R e = .tuple #[v0, .string ⟨#[]⟩, .int .i64 e] from if_neg he]
    have he' : (e != 0) = true := by rw [bne_iff_ne]; exact he
    clear he
    go_enter Tryz.func10, Tryz.ntmps10
    go_wp2_with fail
    refine (Tryz.strings_HasPrefix _ _ _).mono ?_
    rintro e0 w1 ⟨rfl, rfl⟩
    rw [show (⟨#[34]⟩ : ByteArray).data.toList = [34] from rfl, h0]
    go_wp2_with fail
    refine (Tryz.strings_HasPrefix _ _ _).mono ?_
    rintro e0 w1 ⟨rfl, rfl⟩
    rw [show (⟨#[120, 39]⟩ : ByteArray).data.toList = [120, 39] from rfl, h1]
    go_wp2_with fail
    refine (Tryz.strings_HasPrefix _ _ _).mono ?_
    rintro e0 w1 ⟨rfl, rfl⟩
    rw [show (⟨#[116, 114, 117, 101]⟩ : ByteArray).data.toList = [116, 114, 117, 101] from rfl, h2]
    go_wp2_with fail
    refine (Tryz.strings_HasPrefix _ _ _).mono ?_
    rintro e0 w1 ⟨rfl, rfl⟩
    rw [show (⟨#[102, 97, 108, 115, 101]⟩ : ByteArray).data.toList = [102, 97, 108, 115, 101] from rfl, h3]
    go_wp2_with fail
    refine (HC.out _ (h.below (wv_below w))).mono ?_
    rintro e0 w2 ⟨rfl, hb2⟩
    have HF : Hid (Fr w w2) := Fr.of hb2
    obtain ⟨⟨d0, d1, d2, f0, f1, f2⟩, -⟩ := HF.out
    clear hb2
    go_wp2
    try simp only [Exit.inBlock, Exit.then]
    exact bodyPost_ret (results_v3 rfl _ _ w.heap.size rfl ((HF.out.z.three.set _ _ _).set _ _ _)) rfl ⟨rfl, set3_below (set3_below HF.out.b _ _ _) _ _ _⟩
set_option maxRecDepth 100000 in
set_option maxHeartbeats 2000000 in
theorem scan_iw (s : ByteArray) (w : World) (h : VE w) (h0 : Lib.hasPrefix s.data.toList [34] = false) (h1 : Lib.hasPrefix s.data.toList [120, 39] = false) (h2 : Lib.hasPrefix s.data.toList [116, 114, 117, 101] = false) (h3 : Lib.hasPrefix s.data.toList [102, 97, 108, 115, 101] = false) (k n : Int) (S R : ByteArray) (e : Int)
    (HC : Hid (∀ w, VE w → Calls Tryz.prog 31 #[.string s] w fun e0 w' => e0 = .returned (.tuple #[vv k n S, .string R, .int .i64 e]) ∧ Below w.heap.size w w')) :
    Calls Tryz.prog 10 #[.string s] w fun e0 w' => e0 = .returned (scW k n S R e) ∧ Below w.heap.size w w' := by
  by_cases he : e = 0
  · subst he
    rw [show scW k n S R 0 = .tuple #[vv k n S, .string R, .int .i64 0] from rfl]
    go_enter Tryz.func10, Tryz.ntmps10
    go_wp2_with fail
    refine (Tryz.strings_HasPrefix _ _ _).mono ?_
    rintro e0 w1 ⟨rfl, rfl⟩
    rw [show (⟨#[34]⟩ : ByteArray).data.toList = [34] from rfl, h0]
    go_wp2_with fail
    refine (Tryz.strings_HasPrefix _ _ _).mono ?_
    rintro e0 w1 ⟨rfl, rfl⟩
    rw [show (⟨#[120, 39]⟩ : ByteArray).data.toList = [120, 39] from rfl, h1]
    go_wp2_with fail
    refine (Tryz.strings_HasPrefix _ _ _).mono ?_
    rintro e0 w1 ⟨rfl, rfl⟩
    rw [show (⟨#[116, 114, 117, 101]⟩ : ByteArray).data.toList = [116, 114, 117, 101] from rfl, h2]
    go_wp2_with fail
    refine (Tryz.strings_HasPrefix _ _ _).mono ?_
    rintro e0 w1 ⟨rfl, rfl⟩
    rw [show (⟨#[102, 97, 108, 115, 101]⟩ : ByteArray).data.toList = [102, 97, 108, 115, 101] from rfl, h3]
    go_wp2_with fail
    refine (HC.out _ (h.below (wv_below w))).mono ?_
    rintro e0 w2 ⟨rfl, hb2⟩
    have HF : Hid (Fr w w2) := Fr.of hb2
    obtain ⟨⟨d0, d1, d2, f0, f1, f2⟩, -⟩ := HF.out
    clear hb2
    go_wp2
    try simp only [Exit.inBlock, Exit.then]
    exact bodyPost_ret (results_v3 rfl _ _ w.heap.size rfl ((HF.out.z.three.set _ _ _).set _ _ _)) rfl ⟨rfl, set3_below (set3_below HF.out.b _ _ _) _ _ _⟩
  · rw [show scW k n S R e = .tuple #[v0, .string ⟨#[]⟩, .int .i64 e] from if_neg he]
    have he' : (e != 0) = true := by rw [bne_iff_ne]; exact he
    clear he
    go_enter Tryz.func10, Tryz.ntmps10
    go_wp2_with fail
    refine (Tryz.strings_HasPrefix _ _ _).mono ?_
    rintro e0 w1 ⟨rfl, rfl⟩
    rw [show (⟨#[34]⟩ : ByteArray).data.toList = [34] from rfl, h0]
    go_wp2_with fail
    refine (Tryz.strings_HasPrefix _ _ _).mono ?_
    rintro e0 w1 ⟨rfl, rfl⟩
    rw [show (⟨#[120, 39]⟩ : ByteArray).data.toList = [120, 39] from rfl, h1]
    go_wp2_with fail
    refine (Tryz.strings_HasPrefix _ _ _).mono ?_
    rintro e0 w1 ⟨rfl, rfl⟩
    rw [show (⟨#[116, 114, 117, 101]⟩ : ByteArray).data.toList = [116, 114, 117, 101] from rfl, h2]
    go_wp2_with fail
    refine (Tryz.strings_HasPrefix _ _ _).mono ?_
    rintro e0 w1 ⟨rfl, rfl⟩
    rw [show (⟨#[102, 97, 108, 115, 101]⟩ : ByteArray).data.toList = [102, 97, 108, 115, 101] from rfl, h3]
    go_wp2_with fail
    refine (HC.out _ (h.below (wv_below w))).mono ?_
    rintro e0 w2 ⟨rfl, hb2⟩
    have HF : Hid (Fr w w2) := Fr.of hb2
    obtain ⟨⟨d0, d1, d2, f0, f1, f2⟩, -⟩ := HF.out
    clear hb2
    go_wp2
    try simp only [Exit.inBlock, Exit.then]
    exact bodyPost_ret (results_v3 rfl _ _ w.heap.size rfl ((HF.out.z.three.set _ _ _).set _ _ _)) rfl ⟨rfl, set3_below (set3_below HF.out.b _ _ _) _ _ _⟩
theorem scan_any (s : ByteArray) (w : World) (hs : s.size ≤ 1000000) (h : VE w) :
    Calls Tryz.prog 10 #[.string s] w fun e w' => e = .returned (scV (scn s.data.toList)) ∧ Below w.heap.size w w' := by
  have hx : ∀ m, m ≤ s.size → (s.extract m s.size).size ≤ 1000000 := fun m hm => by rw [ByteArray.size_extract]; omega
  have fin : ∀ (x : Sc), scn s.data.toList = x → (Calls Tryz.prog 10 #[.string s] w fun e0 w' => e0 = .returned (scW x.k x.n (str x.s) (str x.r) x.e) ∧ Below w.heap.size w w') → Calls Tryz.prog 10 #[.string s] w fun e w' => e = .returned (scV (scn s.data.toList)) ∧ Below w.heap.size w w' := fun x hx hc => by
    subst hx
    rw [scW_is (bad_or _)] at hc
    exact hc
  by_cases h0 : Lib.hasPrefix s.data.toList [34] = true
  · have hz := pre_len h0
    rw [← Lib.size_eq] at hz
    refine fin (scT (s.data.toList.drop 1)) (by unfold scn; rw [if_pos h0]) (scan_qw s w h h0 hz _ _ _ _ _ fun w hw => ?_)
    rw [← sub_list]
    exact scanText_any _ w (hx 1 hz) hw.u hw.t hw.e
  have h0' : Lib.hasPrefix s.data.toList [34] = false := by simpa using h0
  by_cases h1 : Lib.hasPrefix s.data.toList [120, 39] = true
  · have hz := pre_len h1
    rw [← Lib.size_eq] at hz
    refine fin (scX (s.data.toList.drop 2)) (by unfold scn; rw [if_neg h0, if_pos h1]) (scan_xw s w h h0' h1 hz _ _ _ _ _ fun w hw => ?_)
    rw [← sub_list]
    exact scanBytes_any _ w (hx 2 hz) hw.m
  have h1' : Lib.hasPrefix s.data.toList [120, 39] = false := by simpa using h1
  by_cases h2 : Lib.hasPrefix s.data.toList [116, 114, 117, 101] = true
  · have hz := pre_len h2
    rw [← Lib.size_eq] at hz
    refine fin (scB 1 (s.data.toList.drop 4)) (by unfold scn; rw [if_neg h0, if_neg h1, if_pos h2]) (scan_tw s w h h0' h1' h2 hz _ _ _ _ _ fun w hw => ?_)
    rw [← sub_list]
    exact scanBool_any 1 _ w hw.u
  have h2' : Lib.hasPrefix s.data.toList [116, 114, 117, 101] = false := by simpa using h2
  by_cases h3 : Lib.hasPrefix s.data.toList [102, 97, 108, 115, 101] = true
  · have hz := pre_len h3
    rw [← Lib.size_eq] at hz
    refine fin (scB 0 (s.data.toList.drop 5)) (by unfold scn; rw [if_neg h0, if_neg h1, if_neg h2, if_pos h3]) (scan_fw s w h h0' h1' h2' h3 hz _ _ _ _ _ fun w hw => ?_)
    rw [← sub_list]
    exact scanBool_any 0 _ w hw.u
  have h3' : Lib.hasPrefix s.data.toList [102, 97, 108, 115, 101] = false := by simpa using h3
  refine fin (scI (Lib.hasPrefix s.data.toList [45]) (Lib.trimPrefix s.data.toList [45])) ?_ (scan_iw s w h h0' h1' h2' h3' _ _ _ _ _ fun w hw => scanInt_any s w hs)
  unfold scn
  rw [if_neg h0, if_neg h1, if_neg h2, if_neg h3]
  unfold Lib.trimPrefix
  cases hp : Lib.hasPrefix s.data.toList [45]
  · rfl
  · rfl
/-- What Parse answers. -/
def prs (l : List UInt8) : Sc := if (scn l).e = 0 then (if (scn l).r = [] then scn l else .bad 3) else .bad (scn l).e
set_option maxRecDepth 100000 in
set_option maxHeartbeats 2000000 in
theorem parse_any (s : ByteArray) (w : World) (hs : s.size ≤ 1000000) (h : VE w) :
    Calls Tryz.prog 12 #[.string s] w fun e w' => e = .returned (.tuple #[vv (prs s.data.toList).k (prs s.data.toList).n (str (prs s.data.toList).s), .int .i64 (prs s.data.toList).e]) ∧ Below w.heap.size w w' := by
  have HC : Hid (∀ w, VE w → Calls Tryz.prog 10 #[.string s] w fun e w' => e = .returned (scV (scn s.data.toList)) ∧ Below w.heap.size w w') := fun w hw => scan_any s w hs hw
  unfold prs
  generalize scn s.data.toList = x at *
  obtain ⟨k, n, S, R, e⟩ := x
  simp only [scV] at HC ⊢
  by_cases he : e = 0
  · subst he
    by_cases hR : R = []
    · subst hR
      simp only [if_true]
      rw [show str [] = ⟨#[]⟩ from rfl] at HC
      generalize str S = T at *
      go_enter Tryz.func12, Tryz.ntmps12
      go_wp2_with fail
      refine (HC.out _ (h.below (wv_below w))).mono ?_
      rintro e0 w2 ⟨rfl, hb2⟩
      have HF : Hid (Fr w w2) := Fr.of hb2
      obtain ⟨⟨d0, d1, d2, f0, f1, f2⟩, -⟩ := HF.out
      have hlt : w.heap.size < w2.heap.size := by have := hb2.size; simp at this; omega
      have hne : w2.heap.size ≠ w.heap.size := by omega
      clear hb2
      go_wp2
      try simp only [Exit.inBlock, Exit.then]
      refine bodyPost_ret (results_v2 rfl _ _ w.heap.size rfl ((HF.out.z.three.set _ _ _).alloc _)) rfl ⟨rfl, (set3_below HF.out.b _ _ _).alloc ?_ _⟩
      have := HF.out.b.size
      simpa using this
    · simp only [if_true, hR, if_false]
      have hR0 : (str R).size ≠ 0 := by rw [str_size]; exact fun e => hR (List.eq_nil_of_length_eq_zero e)
      have he := empty_not _ hR0
      generalize str S = T at *
      generalize str R = Y at *
      clear hR hR0
      rw [show str [] = ⟨#[]⟩ from rfl]
      go_enter Tryz.func12, Tryz.ntmps12
      go_wp2_with fail
      refine (HC.out _ (h.below (wv_below w))).mono ?_
      rintro e0 w2 ⟨rfl, hb2⟩
      have HF : Hid (Fr w w2) := Fr.of hb2
      obtain ⟨⟨d0, d1, d2, f0, f1, f2⟩, -⟩ := HF.out
      have hlt : w.heap.size < w2.heap.size := by have := hb2.size; simp at this; omega
      have hne : w2.heap.size ≠ w.heap.size := by omega
      clear hb2
      go_wp2
      try simp only [Exit.inBlock, Exit.then]
      refine bodyPost_ret (results_v2 rfl _ _ w.heap.size rfl ((HF.out.z.three.set _ _ _).alloc _)) rfl ⟨rfl, (set3_below HF.out.b _ _ _).alloc ?_ _⟩
      have := HF.out.b.size
      simpa using this
  · simp only [he, if_false]
    have he' : (e != 0) = true := by rw [bne_iff_ne]; exact he
    rw [show str [] = ⟨#[]⟩ from rfl]
    generalize str S = T at *
    generalize str R = Y at *
    clear he
    go_enter Tryz.func12, Tryz.ntmps12
    go_wp2_with fail
    refine (HC.out _ (h.below (wv_below w))).mono ?_
    rintro e0 w2 ⟨rfl, hb2⟩
    have HF : Hid (Fr w w2) := Fr.of hb2
    obtain ⟨⟨d0, d1, d2, f0, f1, f2⟩, -⟩ := HF.out
    have hlt : w.heap.size < w2.heap.size := by have := hb2.size; simp at this; omega
    have hne : w2.heap.size ≠ w.heap.size := by omega
    clear hb2
    go_wp2
    try simp only [Exit.inBlock, Exit.then]
    refine bodyPost_ret (results_v2 rfl _ _ w.heap.size rfl ((HF.out.z.three.set _ _ _).alloc _)) rfl ⟨rfl, (set3_below HF.out.b _ _ _).alloc ?_ _⟩
    have := HF.out.b.size
    simpa using this
end Go.Proofs.YtdendpckihckeaaGreatDoor
