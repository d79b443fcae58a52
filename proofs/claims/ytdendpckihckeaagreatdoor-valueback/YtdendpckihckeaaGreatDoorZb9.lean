/- value.goesOn, scanBool, Scan, Parse at any text: walks. -/
import Derived.Test.YtdendpckihckeaaGreatDoorZb8
import Derived.Test.YtdendpckihckeaaGreatDoorZb3
import Derived.Shelf.Small.Strs
import Derived.Shelf.LaysM
import Derived.Shelf.Strconv.Itoa3
import Derived.Test.YtdendpckihckeaaGreatDoorProg
namespace Go.Proofs.YtdendpckihckeaaGreatDoor
open Go.RowKit

theorem goes_go (s : ByteArray) : goesL s.data.toList = (letterN (Lib.decodeGo s).1 || (decide (48 ≤ (Lib.decodeGo s).1 ∧ (Lib.decodeGo s).1 ≤ 57) || ((Lib.decodeGo s).1 == 95 || (Lib.decodeGo s).1 == 45))) := by
  by_cases hz : s.size = 0
  · have ed : Lib.decodeGo s = (65533, 0) := by unfold Lib.decodeGo; rw [if_pos hz]
    have e : s.data.toList = [] := List.eq_nil_of_length_eq_zero (by rw [← Lib.size_eq]; exact hz)
    rw [ed, e]
    decide +kernel
  · rw [dec_same s hz]
    rfl
set_option maxRecDepth 100000 in
set_option maxHeartbeats 2000000 in
theorem goesOn_any (s : ByteArray) (w : World) (hU : UT w) :
    Calls Tryz.prog 61 #[.string s] w fun e w' => e = .returned (.bool (goesL s.data.toList)) ∧ Below w.heap.size w w' := by
  have HD : Hid (∀ w, UT w → Calls Tryz.prog 87 #[.string s] w fun e w' => e = .returned (.tuple #[.int .i32 (Lib.decodeGo s).1, .int .i64 (Lib.decodeGo s).2]) ∧ Below w.heap.size w w') := fun w h => Tryz.utf8_DecodeRuneInString s w h
  have hcl : (Lib.decodeGo s).1 ≤ 1114111 := by have := (decGo_ok s).1; unfold scal at this; omega
  rw [goes_go]
  generalize (Lib.decodeGo s).1 = c at *
  generalize (Lib.decodeGo s).2 = d at *
  rw [← letterZ_nat]
  have HL : Hid (∀ w : World, Calls Tryz.prog 92 #[.int .i32 (c : Int)] w fun e w' => e = .returned (.bool (letterZ c)) ∧ w' = w) := fun w => letter_any c w
  generalize letterZ (c : Int) = L at *
  cases L
  · have k1 : (decide ((48 : Int) ≤ c) = true ∧ decide ((c : Int) ≤ 57) = true ∧ 48 ≤ c ∧ c ≤ 57) ∨ (decide ((48 : Int) ≤ c) = true ∧ decide ((c : Int) ≤ 57) = false ∧ ¬ (48 ≤ c ∧ c ≤ 57)) ∨ (decide ((48 : Int) ≤ c) = false ∧ ¬ (48 ≤ c ∧ c ≤ 57)) := by
      by_cases h1 : 48 ≤ c
      · by_cases h2 : c ≤ 57
        · exact .inl ⟨by simp; omega, by simp; omega, h1, h2⟩
        · exact .inr (.inl ⟨by simp; omega, by simp; omega, by omega⟩)
      · exact .inr (.inr ⟨by simp; omega, by omega⟩)
    have k2 : (c = 95 ∧ ((c : Int) == 95) = true) ∨ (((c : Int) == 95) = false ∧ (c == 95) = false) := by
      by_cases h : c = 95
      · exact .inl ⟨h, by subst h; rfl⟩
      · exact .inr ⟨by rw [beq_eq_false_iff_ne]; omega, by rw [beq_eq_false_iff_ne]; exact h⟩
    have k3 : (c = 45 ∧ ((c : Int) == 45) = true) ∨ (((c : Int) == 45) = false ∧ (c == 45) = false) := by
      by_cases h : c = 45
      · exact .inl ⟨h, by subst h; rfl⟩
      · exact .inr ⟨by rw [beq_eq_false_iff_ne]; omega, by rw [beq_eq_false_iff_ne]; exact h⟩
    rcases k1 with ⟨a1, a2, a3, a4⟩ | ⟨a1, a2, a3⟩ | ⟨a1, a3⟩
    · have HR : Hid ((false || (decide (48 ≤ c ∧ c ≤ 57) || (c == 95 || c == 45))) = true) := by show _ = _; rw [decide_eq_true ⟨a3, a4⟩]; rfl
      rw [HR.out]
      clear k2 k3 HR
      go_enter Tryz.func61, Tryz.ntmps61
      go_wp2_with fail
      refine (HD.out _ hU).mono ?_
      rintro e w1 ⟨rfl, hb1⟩
      go_wp2_with (go_at_call 92; refine (HL.out _).mono ?_; rintro e w' ⟨rfl, rfl⟩)
      go_ret
      exact ⟨rfl, hb1⟩
    all_goals
      have HR : Hid ((false || (decide (48 ≤ c ∧ c ≤ 57) || (c == 95 || c == 45))) = (c == 95 || c == 45)) := by show _ = _; rw [decide_eq_false a3]; rfl
      rw [HR.out]
      clear HR a3
      rcases k2 with ⟨rfl, -⟩ | ⟨k2, k2'⟩
      · go_enter Tryz.func61, Tryz.ntmps61
        go_wp2_with fail
        refine (HD.out _ hU).mono ?_
        rintro e w1 ⟨rfl, hb1⟩
        go_wp2_with (go_at_call 92; refine (HL.out _).mono ?_; rintro e w' ⟨rfl, rfl⟩)
        go_ret
        exact ⟨rfl, hb1⟩
      · rw [k2', Bool.false_or]
        rcases k3 with ⟨rfl, -⟩ | ⟨k3, k3'⟩
        · go_enter Tryz.func61, Tryz.ntmps61
          go_wp2_with fail
          refine (HD.out _ hU).mono ?_
          rintro e w1 ⟨rfl, hb1⟩
          go_wp2_with (go_at_call 92; refine (HL.out _).mono ?_; rintro e w' ⟨rfl, rfl⟩)
          go_ret
          exact ⟨rfl, hb1⟩
        · rw [k3']
          clear k2' k3'
          go_enter Tryz.func61, Tryz.ntmps61
          go_wp2_with fail
          refine (HD.out _ hU).mono ?_
          rintro e w1 ⟨rfl, hb1⟩
          go_wp2_with (go_at_call 92; refine (HL.out _).mono ?_; rintro e w' ⟨rfl, rfl⟩)
          go_ret
          exact ⟨rfl, hb1⟩
  · rw [Bool.true_or]
    go_enter Tryz.func61, Tryz.ntmps61
    go_wp2_with fail
    refine (HD.out _ hU).mono ?_
    rintro e w1 ⟨rfl, hb1⟩
    go_wp2_with (go_at_call 92; refine (HL.out _).mono ?_; rintro e w' ⟨rfl, rfl⟩)
    go_ret
    exact ⟨rfl, hb1⟩
set_option maxRecDepth 100000 in
set_option maxHeartbeats 2000000 in
theorem scanBool_any (n : Int) (s : ByteArray) (w : World) (hU : UT w) :
    Calls Tryz.prog 30 #[.int .i64 n, .string s] w fun e w' => e = .returned (scV (scB n s.data.toList)) ∧ Below w.heap.size w w' := by
  have HS : Hid (str s.data.toList = s) := str_of s
  have HG : Hid (∀ w, UT w → Calls Tryz.prog 61 #[.string s] w fun e w' => e = .returned (.bool (goesL s.data.toList)) ∧ Below w.heap.size w w') := fun w h => goesOn_any s w h
  unfold scB
  cases hB : goesL s.data.toList
  all_goals
    rw [hB] at HG
    clear hB
    go_enter Tryz.func30, Tryz.ntmps30
    go_wp2_with fail
    refine (HG.out _ (Utf8Tabs_below hU (wv_below w))).mono ?_
    rintro e w1 ⟨rfl, hb1⟩
    have HF : Hid (Fr w w1) := Fr.of hb1
    obtain ⟨⟨d0, d1, d2, f0, f1, f2⟩, -⟩ := HF.out
    clear hb1
    go_wp2
    try simp only [Exit.inBlock, Exit.then]
    refine bodyPost_ret (results_v3 rfl _ _ w.heap.size rfl (HF.out.z.three.set _ _ _)) rfl ⟨?_, set3_below HF.out.b _ _ _⟩
  · simp only [scV, HS.out]
    rfl
  · rfl
/-- What the scanners ask of the world. -/
structure VE (w : World) : Prop where
  u : UT w
  t : T16 w
  m : ML w
  e : ES w
theorem VE.below {w w' : World} (h : VE w) (hb : Below w.heap.size w w') : VE w' := ⟨Utf8Tabs_below h.u hb, T16_below h.t hb, ML_below h.m hb, ES_below h.e hb⟩
theorem sub_list (s : ByteArray) (m : Nat) : (s.extract m s.size).data.toList = s.data.toList.drop m := by rw [ext_from, str_data]
theorem pre_len {l p : List UInt8} (h : Lib.hasPrefix l p = true) : p.length ≤ l.length := (List.isPrefixOf_iff_prefix.1 h).length_le
theorem sc_ok (x : Sc) (h : x.e ≠ 0) (hx : ∃ e, x = .bad e) : x = .bad x.e := by obtain ⟨e, rfl⟩ := hx; rfl
theorem bad_or (l : List UInt8) : (scn l).e = 0 ∨ scn l = .bad (scn l).e := by
  have hB : ∀ n l, (scB n l).e = 0 ∨ scB n l = .bad (scB n l).e := fun n l => by unfold scB; split <;> simp
  have hI : ∀ b l, (scI b l).e = 0 ∨ scI b l = .bad (scI b l).e := fun b l => by unfold scI; (repeat' split) <;> simp
  have hT : ∀ l, (scT l).e = 0 ∨ scT l = .bad (scT l).e := fun l => by unfold scT; (repeat' split) <;> simp
  have hX : ∀ l, (scX l).e = 0 ∨ scX l = .bad (scX l).e := fun l => by unfold scX; (repeat' split) <;> simp
  unfold scn
  repeat' split
  · exact hT _
  · exact hX _
  · exact hB _ _
  · exact hB _ _
  · exact hI _ _
  · exact hI _ _
/-- A scanner's answer, its error asked. -/
def scW (k n : Int) (S R : ByteArray) (e : Int) : Value := if e = 0 then .tuple #[vv k n S, .string R, .int .i64 0] else .tuple #[v0, .string ⟨#[]⟩, .int .i64 e]
theorem scW_is {x : Sc} (h : x.e = 0 ∨ x = .bad x.e) : scW x.k x.n (str x.s) (str x.r) x.e = scV x := by
  unfold scW
  by_cases e : x.e = 0
  · rw [if_pos e, scV, e]
  · rw [if_neg e]
    rcases h with h | h
    · exact absurd h e
    · rw [h]; rfl
set_option maxRecDepth 100000 in
set_option maxHeartbeats 2000000 in
theorem scan_qw (s : ByteArray) (w : World) (h : VE w) (h0 : Lib.hasPrefix s.data.toList [34] = true) (hz : 1 ≤ s.size) (k n : Int) (S R : ByteArray) (e : Int)
    (HC : Hid (∀ w, VE w → Calls Tryz.prog 28 #[.string (s.extract 1 s.size)] w fun e0 w' => e0 = .returned (.tuple #[vv k n S, .string R, .int .i64 e]) ∧ Below w.heap.size w w')) :
    Calls Tryz.prog 10 #[.string s] w fun e0 w' => e0 = .returned (scW k n S R e) ∧ Below w.heap.size w w' := by
  have hz' : (1 : Int) ≤ s.size := by omega
  by_cases he : e = 0
  · subst he
    rw [show scW k n S R 0 = .tuple #[vv k n S, .string R, .int .i64 0] from rfl]
    go_enter Tryz.func10, Tryz.ntmps10
    go_wp2_with fail
    refine (Tryz.strings_HasPrefix _ _ _).mono ?_
    rintro e0 w1 ⟨rfl, rfl⟩
    rw [show (⟨#[34]⟩ : ByteArray).data.toList = [34] from rfl, h0]
    go_wp2_with fail
    refine (HC.out _ (h.below (wv_below w))).mono ?_
    rintro e0 w2 ⟨rfl, hb2⟩
    have HF : Hid (Fr w w2) := Fr.of hb2
    obtain ⟨⟨d0, d1, d2, f0, f1, f2⟩, -⟩ := HF.out
    clear hb2
    go_wp2
    try simp only [Exit.inBlock, Exit.then]
    exact bodyPost_ret (results_v3 rfl _ _ w.heap.size rfl ((HF.out.z.three.set _ _ _).set _ _ _)) rfl ⟨rfl, set3_below (set3_below HF.out.b _ _ _) _ _ _⟩
  · rw [show scW k n S R e = .tuple #[v0, .string ⟨#[]⟩, .int .i64 e] from if_neg he]
    have he' : (e != 0) = true := by rw [bne_iff_ne]; exact he
    clear he
    go_enter Tryz.func10, Tryz.ntmps10
    go_wp2_with fail
    refine (Tryz.strings_HasPrefix _ _ _).mono ?_
    rintro e0 w1 ⟨rfl, rfl⟩
    rw [show (⟨#[34]⟩ : ByteArray).data.toList = [34] from rfl, h0]
    go_wp2_with fail
    refine (HC.out _ (h.below (wv_below w))).mono ?_
    rintro e0 w2 ⟨rfl, hb2⟩
    have HF : Hid (Fr w w2) := Fr.of hb2
    obtain ⟨⟨d0, d1, d2, f0, f1, f2⟩, -⟩ := HF.out
    clear hb2
    go_wp2
    try simp only [Exit.inBlock, Exit.then]
    exact bodyPost_ret (results_v3 rfl _ _ w.heap.size rfl ((HF.out.z.three.set _ _ _).set _ _ _)) rfl ⟨rfl, set3_below (set3_below HF.out.b _ _ _) _ _ _⟩
set_option maxRecDepth 100000 in
set_option maxHeartbeats 2000000 in
theorem scan_xw (s : ByteArray) (w : World) (h : VE w) (h0 : Lib.hasPrefix s.data.toList [34] = false) (h1 : Lib.hasPrefix s.data.toList [120, 39] = true) (hz : 2 ≤ s.size) (k n : Int) (S R : ByteArray) (e : Int)
    (HC : Hid (∀ w, VE w → Calls Tryz.prog 29 #[.string (s.extract 2 s.size)] w fun e0 w' => e0 = .returned (.tuple #[vv k n S, .string R, .int .i64 e]) ∧ Below w.heap.size w w')) :
    Calls Tryz.prog 10 #[.string s] w fun e0 w' => e0 = .returned (scW k n S R e) ∧ Below w.heap.size w w' := by
  have hz' : (2 : Int) ≤ s.size := by omega
  by_cases he : e = 0
  · subst he
    rw [show scW k n S R 0 = .tuple #[vv k n S, .string R, .int .i64 0] from rfl]
    go_enter Tryz.func10, Tryz.ntmps10
    go_wp2_with fail
    refine (Tryz.strings_HasPrefix _ _ _).mono ?_
    rintro e0 w1 ⟨rfl, rfl⟩
    rw [show (⟨#[34]⟩ : ByteArray).data.toList = [34] from rfl, h0]
    go_wp2_with fail
    refine (Tryz.strings_HasPrefix _ _ _).mono ?_
    rintro e0 w1 ⟨rfl, rfl⟩
    rw [show (⟨#[120, 39]⟩ : ByteArray).data.toList = [120, 39] from rfl, h1]
    go_wp2_with fail
    refine (HC.out _ (h.below (wv_below w))).mono ?_
    rintro e0 w2 ⟨rfl, hb2⟩
    have HF : Hid (Fr w w2) := Fr.of hb2
    obtain ⟨⟨d0, d1, d2, f0, f1, f2⟩, -⟩ := HF.out
    clear hb2
    go_wp2
    try simp only [Exit.inBlock, Exit.then]
    exact bodyPost_ret (results_v3 rfl _ _ w.heap.size rfl ((HF.out.z.three.set _ _ _).set _ _ _)) rfl ⟨rfl, set3_below (set3_below HF.out.b _ _ _) _ _ _⟩
  · rw [show scW k n S R e = .tuple #[v0, .string ⟨#[]⟩, .int .i64 e] from if_neg he]
    have he' : (e != 0) = true := by rw [bne_iff_ne]; exact he
    clear he
    go_enter Tryz.func10, Tryz.ntmps10
    go_wp2_with fail
    refine (Tryz.strings_HasPrefix _ _ _).mono ?_
    rintro e0 w1 ⟨rfl, rfl⟩
    rw [show (⟨#[34]⟩ : ByteArray).data.toList = [34] from rfl, h0]
    go_wp2_with fail
    refine (Tryz.strings_HasPrefix _ _ _).mono ?_
    rintro e0 w1 ⟨rfl, rfl⟩
    rw [show (⟨#[120, 39]⟩ : ByteArray).data.toList = [120, 39] from rfl, h1]
    go_wp2_with fail
    refine (HC.out _ (h.below (wv_below w))).mono ?_
    rintro e0 w2 ⟨rfl, hb2⟩
    have HF : Hid (Fr w w2) := Fr.of hb2
    obtain ⟨⟨d0, d1, d2, f0, f1, f2⟩, -⟩ := HF.out
    clear hb2
    go_wp2
    try simp only [Exit.inBlock, Exit.then]
    exact bodyPost_ret (results_v3 rfl _ _ w.heap.size rfl ((HF.out.z.three.set _ _ _).set _ _ _)) rfl ⟨rfl, set3_below (set3_below HF.out.b _ _ _) _ _ _⟩
set_option maxRecDepth 100000 in
set_option maxHeartbeats 2000000 in
theorem scan_tw (s : ByteArray) (w : World) (h : VE w) (h0 : Lib.hasPrefix s.data.toList [34] = false) (h1 : Lib.hasPrefix s.data.toList [120, 39] = false) (h2 : Lib.hasPrefix s.data.toList [116, 114, 117, 101] = true) (hz : 4 ≤ s.size) (k n : Int) (S R : ByteArray) (e : Int)
    (HC : Hid (∀ w, VE w → Calls Tryz.prog 30 #[.int .i64 1, .string (s.extract 4 s.size)] w fun e0 w' => e0 = .returned (.tuple #[vv k n S, .string R, .int .i64 e]) ∧ Below w.heap.size w w')) :
    Calls Tryz.prog 10 #[.string s] w fun e0 w' => e0 = .returned (scW k n S R e) ∧ Below w.heap.size w w' := by
  have hz' : (4 : Int) ≤ s.size := by omega
  by_cases he : e = 0
  · subst he
    rw [show scW k n S R 0 = .tuple #[vv k n S, .string R, .int .i64 0] from rfl]
    go_enter Tryz.func10, Tryz.ntmps10
    go_wp2_with fail
    refine (Tryz.strings_HasPrefix _ _ _).mono ?_
    rintro e0 w1 ⟨rfl, rfl⟩
    rw [show (⟨#[34]⟩ : ByteArray).data.toList = [34] from rfl, h0]
    go_wp2_with fail
    refine (Tryz.strings_HasPrefix _ _ _).mono ?_
    rintro e0 w1 ⟨rfl, rfl⟩
    rw [show (⟨#[120, 39]⟩ : ByteArray).data.toList = [120, 39] from rfl, h1]
    go_wp2_with fail
    refine (Tryz.strings_HasPrefix _ _ _).mono ?_
    rintro e0 w1 ⟨rfl, rfl⟩
    rw [show (⟨#[116, 114, 117, 101]⟩ : ByteArray).data.toList = [116, 114, 117, 101] from rfl, h2]
    go_wp2_with fail
    refine (HC.out _ (h.below (wv_below w))).mono ?_
    rintro e0 w2 ⟨rfl, hb2⟩
    have HF : Hid (Fr w w2) := Fr.of hb2
    obtain ⟨⟨d0, d1, d2, f0, f1, f2⟩, -⟩ := HF.out
    clear hb2
    go_wp2
    try simp only [Exit.inBlock, Exit.then]
    exact bodyPost_ret (results_v3 rfl _ _ w.heap.size rfl ((HF.out.z.three.set _ _ _).set _ _ _)) rfl ⟨rfl, set3_below (set3_below HF.out.b _ _ _) _ _ _⟩
  · rw [show scW k n S R e = .tuple #[v0, .string ⟨#[]⟩, .int .i64 e] from if_neg he]
    have he' : (e != 0) = true := by rw [bne_iff_ne]; exact he
    clear he
    go_enter Tryz.func10, Tryz.ntmps10
    go_wp2_with fail
    refine (Tryz.strings_HasPrefix _ _ _).mono ?_
    rintro e0 w1 ⟨rfl, rfl⟩
    rw [show (⟨#[34]⟩ : ByteArray).data.toList = [34] from rfl, h0]
    go_wp2_with fail
    refine (Tryz.strings_HasPrefix _ _ _).mono ?_
    rintro e0 w1 ⟨rfl, rfl⟩
    rw [show (⟨#[120, 39]⟩ : ByteArray).data.toList = [120, 39] from rfl, h1]
    go_wp2_with fail
    refine (Tryz.strings_HasPrefix _ _ _).mono ?_
    rintro e0 w1 ⟨rfl, rfl⟩
    rw [show (⟨#[116, 114, 117, 101]⟩ : ByteArray).data.toList = [116, 114, 117, 101] from rfl, h2]
    go_wp2_with fail
    refine (HC.out _ (h.below (wv_below w))).mono ?_
    rintro e0 w2 ⟨rfl, hb2⟩
    have HF : Hid (Fr w w2) := Fr.of hb2
    obtain ⟨⟨d0, d1, d2, f0, f1, f2⟩, -⟩ := HF.out
    clear hb2
    go_wp2
    try simp only [Exit.inBlock, Exit.then]
    exact bodyPost_ret (results_v3 rfl _ _ w.heap.size rfl ((HF.out.z.three.set _ _ _).set _ _ _)) rfl ⟨rfl, set3_below (set3_below HF.out.b _ _ _) _ _ _⟩
set_option maxRecDepth 100000 in
set_option maxHeartbeats 2000000 in
theorem scan_fw (s : ByteArray) (w : World) (h : VE w) (h0 : Lib.hasPrefix s.data.toList [34] = false) (h1 : Lib.hasPrefix s.data.toList [120, 39] = false) (h2 : Lib.hasPrefix s.data.toList [116, 114, 117, 101] = false) (h3 : Lib.hasPrefix s.data.toList [102, 97, 108, 115, 101] = true) (hz : 5 ≤ s.size) (k n : Int) (S R : ByteArray) (e : Int)
    (HC : Hid (∀ w, VE w → Calls Tryz.prog 30 #[.int .i64 0, .string (s.extract 5 s.size)] w fun e0 w' => e0 = .returned (.tuple #[vv k n S, .string R, .int .i64 e]) ∧ Below w.heap.size w w')) :
    Calls Tryz.prog 10 #[.string s] w fun e0 w' => e0 = .returned (scW k n S R e) ∧ Below w.heap.size w w' := by
  have hz' : (5 : Int) ≤ s.size := by omega
  by_cases he : e = 0
  · subst he
    rw [show scW k n S R 0 = .tuple #[vv k n S, .string R, .int .i64 0] from rfl]
    go_enter Tryz.func10, Tryz.ntmps10
    go_wp2_with fail
    refine (Tryz.strings_HasPrefix _ _ _).mono ?_
    rintro e0 w1 ⟨rfl, rfl⟩
    rw [show (⟨#[34]⟩ : ByteArray).data.toList = [34] from rfl, h0]
    go_wp2_with fail
    refine (Tryz.strings_HasPrefix _ _ _).mono ?_
    rintro e0 w1 ⟨rfl, rfl⟩
    rw [show (⟨#[120, 39]⟩ : ByteArray).data.toList = [120, 39] from rfl, h1]
    go_wp2_with fail
    refine (Tryz.strings_HasPrefix _ _ _).mono ?_
    rintro e0 w1 ⟨rfl, rfl⟩
    rw [show (⟨#[116, 114, 117, 101]⟩ : ByteArray).data.toList = [116, 114, 117, 101] from rfl, h2]
    go_wp2_with fail
    refine (Tryz.strings_HasPrefix _ _ _).mono ?_
    rintro e0 w1 ⟨rfl, rfl⟩
    rw [show (⟨#[102, 97, 108, 115, 101]⟩ : ByteArray).data.toList = [102, 97, 108, 115, 101] from rfl, h3]
    go_wp2_with fail
    refine (HC.out _ (h.below (wv_below w))).mono ?_
    rintro e0 w2 ⟨rfl, hb2⟩
    have HF : Hid (Fr w w2) := Fr.of hb2
    obtain ⟨⟨d0, d1, d2, f0, f1, f2⟩, -⟩ := HF.out
    clear hb2
    go_wp2
    try simp only [Exit.inBlock, Exit.then]
    exact bodyPost_ret (results_v3 rfl _ _ w.heap.size rfl ((HF.out.z.three.set _ _ _).set _ _ _)) rfl ⟨rfl, set3_below (set3_below HF.out.b _ _ _) _ _ _⟩
  · rw [show scW k n S R e = .tuple #[v0, .string ⟨#[]⟩, .int .i64 e] from if_neg he]
    have he' : (e != 0) = true := by rw [bne_iff_ne]; exact he
    clear he
    go_enter Tryz.func10, Tryz.ntmps10
    go_wp2_with fail
    refine (Tryz.strings_HasPrefix _ _ _).mono ?_
    rintro e0 w1 ⟨rfl, rfl⟩
    rw [show (⟨#[34]⟩ : ByteArray).data.toList = [34] from rfl, h0]
    go_wp2_with fail
    refine (Tryz.strings_HasPrefix _ _ _).mono ?_
    rintro e0 w1 ⟨rfl, rfl⟩
    rw [show (⟨#[120, 39]⟩ : ByteArray).data.toList = [120, 39] from rfl, h1]
    go_wp2_with fail
    refine (Tryz.strings_HasPrefix _ _ _).mono ?_
    rintro e0 w1 ⟨rfl, rfl⟩
    rw [show (⟨#[116, 114, 117, 101]⟩ : ByteArray).data.toList = [116, 114, 117, 101] from rfl, h2]
    go_wp2_with fail
    refine (Tryz.strings_HasPrefix _ _ _).mono ?_
    rintro e0 w1 ⟨rfl, rfl⟩
    rw [show (⟨#[102, 97, 108, 115, 101]⟩ : ByteArray).data.toList = [102, 97, 108, 115, 101] from rfl, h3]
    go_wp2_with fail
    refine (HC.out _ (h.below (wv_below w))).mono ?_
    rintro e0 w2 ⟨rfl, hb2⟩
    have HF : Hid (Fr w w2) := Fr.of hb2
    obtain ⟨⟨d0, d1, d2, f0, f1, f2⟩, -⟩ := HF.out
    clear hb2
    go_wp2
    try simp only [Exit.inBlock, Exit.then]
    exact bodyPost_ret (results_v3 rfl _ _ w.heap.size rfl ((HF.out.z.three.set _ _ _).set _ _ _)) rfl ⟨rfl, set3_below (set3_below HF.out.b _ _ _) _ _ _⟩
set_option maxRecDepth 100000 in
set_option maxHeartbeats 2000000 in
theorem scan_iw (s : ByteArray) (w : World) (h : VE w) (h0 : Lib.hasPrefix s.data.toList [34] = false) (h1 : Lib.hasPrefix s.data.toList [120, 39] = false) (h2 : Lib.hasPrefix s.data.toList [116, 114, 117, 101] = false) (h3 : Lib.hasPrefix s.data.toList [102, 97, 108, 115, 101] = false) (k n : Int) (S R : ByteArray) (e : Int)
    (HC : Hid (∀ w, VE w → Calls Tryz.prog 31 #[.string s] w fun e0 w' => e0 = .returned (.tuple #[vv k n S, .string R, .int .i64 e]) ∧ Below w.heap.size w w')) :
    Calls Tryz.prog 10 #[.string s] w fun e0 w' => e0 = .returned (scW k n S R e) ∧ Below w.heap.size w w' := by
  by_cases he : e = 0
  · subst he
    rw [show scW k n S R 0 = .tuple #[vv k n S, .string R, .int .i64 0] from rfl]
    go_enter Tryz.func10, Tryz.ntmps10
    go_wp2_with fail
    refine (Tryz.strings_HasPrefix _ _ _).mono ?_
    rintro e0 w1 ⟨rfl, rfl⟩
    rw [show (⟨#[34]⟩ : ByteArray).data.toList = [34] from rfl, h0]
    go_wp2_with fail
    refine (Tryz.strings_HasPrefix _ _ _).mono ?_
    rintro e0 w1 ⟨rfl, rfl⟩
    rw [show (⟨#[120, 39]⟩ : ByteArray).data.toList = [120, 39] from rfl, h1]
    go_wp2_with fail
    refine (Tryz.strings_HasPrefix _ _ _).mono ?_
    rintro e0 w1 ⟨rfl, rfl⟩
    rw [show (⟨#[116, 114, 117, 101]⟩ : ByteArray).data.toList = [116, 114, 117, 101] from rfl, h2]
    go_wp2_with fail
    refine (Tryz.strings_HasPrefix _ _ _).mono ?_
    rintro e0 w1 ⟨rfl, rfl⟩
    rw [show (⟨#[102, 97, 108, 115, 101]⟩ : ByteArray).data.toList = [102, 97, 108, 115, 101] from rfl, h3]
    go_wp2_with fail
    refine (HC.out _ (h.below (wv_below w))).mono ?_
    rintro e0 w2 ⟨rfl, hb2⟩
    have HF : Hid (Fr w w2) := Fr.of hb2
    obtain ⟨⟨d0, d1, d2, f0, f1, f2⟩, -⟩ := HF.out
    clear hb2
    go_wp2
    try simp only [Exit.inBlock, Exit.then]
    exact bodyPost_ret (results_v3 rfl _ _ w.heap.size rfl ((HF.out.z.three.set _ _ _).set _ _ _)) rfl ⟨rfl, set3_below (set3_below HF.out.b _ _ _) _ _ _⟩
  · rw [show scW k n S R e = .tuple #[v0, .string ⟨#[]⟩, .int .i64 e] from if_neg he]
    have he' : (e != 0) = true := by rw [bne_iff_ne]; exact he
    clear he
    go_enter Tryz.func10, Tryz.ntmps10
    go_wp2_with fail
    refine (Tryz.strings_HasPrefix _ _ _).mono ?_
    rintro e0 w1 ⟨rfl, rfl⟩
    rw [show (⟨#[34]⟩ : ByteArray).data.toList = [34] from rfl, h0]
    go_wp2_with fail
    refine (Tryz.strings_HasPrefix _ _ _).mono ?_
    rintro e0 w1 ⟨rfl, rfl⟩
    rw [show (⟨#[120, 39]⟩ : ByteArray).data.toList = [120, 39] from rfl, h1]
    go_wp2_with fail
    refine (Tryz.strings_HasPrefix _ _ _).mono ?_
    rintro e0 w1 ⟨rfl, rfl⟩
    rw [show (⟨#[116, 114, 117, 101]⟩ : ByteArray).data.toList = [116, 114, 117, 101] from rfl, h2]
    go_wp2_with fail
    refine (Tryz.strings_HasPrefix _ _ _).mono ?_
    rintro e0 w1 ⟨rfl, rfl⟩
    rw [show (⟨#[102, 97, 108, 115, 101]⟩ : ByteArray).data.toList = [102, 97, 108, 115, 101] from rfl, h3]
    go_wp2_with fail
    refine (HC.out _ (h.below (wv_below w))).mono ?_
    rintro e0 w2 ⟨rfl, hb2⟩
    have HF : Hid (Fr w w2) := Fr.of hb2
    obtain ⟨⟨d0, d1, d2, f0, f1, f2⟩, -⟩ := HF.out
    clear hb2
    go_wp2
    try simp only [Exit.inBlock, Exit.then]
    exact bodyPost_ret (results_v3 rfl _ _ w.heap.size rfl ((HF.out.z.three.set _ _ _).set _ _ _)) rfl ⟨rfl, set3_below (set3_below HF.out.b _ _ _) _ _ _⟩
theorem scan_any (s : ByteArray) (w : World) (hs : s.size ≤ 1000000) (h : VE w) :
    Calls Tryz.prog 10 #[.string s] w fun e w' => e = .returned (scV (scn s.data.toList)) ∧ Below w.heap.size w w' := by
  have hx : ∀ m, m ≤ s.size → (s.extract m s.size).size ≤ 1000000 := fun m hm => by rw [ByteArray.size_extract]; omega
  have fin : ∀ (x : Sc), scn s.data.toList = x → (Calls Tryz.prog 10 #[.string s] w fun e0 w' => e0 = .returned (scW x.k x.n (str x.s) (str x.r) x.e) ∧ Below w.heap.size w w') → Calls Tryz.prog 10 #[.string s] w fun e w' => e = .returned (scV (scn s.data.toList)) ∧ Below w.heap.size w w' := fun x hx hc => by
    subst hx
    rw [scW_is (bad_or _)] at hc
    exact hc
  by_cases h0 : Lib.hasPrefix s.data.toList [34] = true
  · have hz := pre_len h0
    rw [← Lib.size_eq] at hz
    refine fin (scT (s.data.toList.drop 1)) (by unfold scn; rw [if_pos h0]) (scan_qw s w h h0 hz _ _ _ _ _ fun w hw => ?_)
    rw [← sub_list]
    exact scanText_any _ w (hx 1 hz) hw.u hw.t hw.e
  have h0' : Lib.hasPrefix s.data.toList [34] = false := by simpa using h0
  by_cases h1 : Lib.hasPrefix s.data.toList [120, 39] = true
  · have hz := pre_len h1
    rw [← Lib.size_eq] at hz
    refine fin (scX (s.data.toList.drop 2)) (by unfold scn; rw [if_neg h0, if_pos h1]) (scan_xw s w h h0' h1 hz _ _ _ _ _ fun w hw => ?_)
    rw [← sub_list]
    exact scanBytes_any _ w (hx 2 hz) hw.m
  have h1' : Lib.hasPrefix s.data.toList [120, 39] = false := by simpa using h1
  by_cases h2 : Lib.hasPrefix s.data.toList [116, 114, 117, 101] = true
  · have hz := pre_len h2
    rw [← Lib.size_eq] at hz
    refine fin (scB 1 (s.data.toList.drop 4)) (by unfold scn; rw [if_neg h0, if_neg h1, if_pos h2]) (scan_tw s w h h0' h1' h2 hz _ _ _ _ _ fun w hw => ?_)
    rw [← sub_list]
    exact scanBool_any 1 _ w hw.u
  have h2' : Lib.hasPrefix s.data.toList [116, 114, 117, 101] = false := by simpa using h2
  by_cases h3 : Lib.hasPrefix s.data.toList [102, 97, 108, 115, 101] = true
  · have hz := pre_len h3
    rw [← Lib.size_eq] at hz
    refine fin (scB 0 (s.data.toList.drop 5)) (by unfold scn; rw [if_neg h0, if_neg h1, if_neg h2, if_pos h3]) (scan_fw s w h h0' h1' h2' h3 hz _ _ _ _ _ fun w hw => ?_)
    rw [← sub_list]
    exact scanBool_any 0 _ w hw.u
  have h3' : Lib.hasPrefix s.data.toList [102, 97, 108, 115, 101] = false := by simpa using h3
  refine fin (scI (Lib.hasPrefix s.data.toList [45]) (Lib.trimPrefix s.data.toList [45])) ?_ (scan_iw s w h h0' h1' h2' h3' _ _ _ _ _ fun w hw => scanInt_any s w hs)
  unfold scn
  rw [if_neg h0, if_neg h1, if_neg h2, if_neg h3]
  unfold Lib.trimPrefix
  cases hp : Lib.hasPrefix s.data.toList [45]
  · rfl
  · rfl
/-- What Parse answers. -/
def prs (l : List UInt8) : Sc := if (scn l).e = 0 then (if (scn l).r = [] then scn l else .bad 3) else .bad (scn l).e
set_option maxRecDepth 100000 in
set_option maxHeartbeats 2000000 in
theorem parse_any (s : ByteArray) (w : World) (hs : s.size ≤ 1000000) (h : VE w) :
    Calls Tryz.prog 12 #[.string s] w fun e w' => e = .returned (.tuple #[vv (prs s.data.toList).k (prs s.data.toList).n (str (prs s.data.toList).s), .int .i64 (prs s.data.toList).e]) ∧ Below w.heap.size w w' := by
  have HC : Hid (∀ w, VE w → Calls Tryz.prog 10 #[.string s] w fun e w' => e = .returned (scV (scn s.data.toList)) ∧ Below w.heap.size w w') := fun w hw => scan_any s w hs hw
  unfold prs
  generalize scn s.data.toList = x at *
  obtain ⟨k, n, S, R, e⟩ := x
  simp only [scV] at HC ⊢
  by_cases he : e = 0
  · subst he
    by_cases hR : R = []
    · subst hR
      simp only [if_true]
      rw [show str [] = ⟨#[]⟩ from rfl] at HC
      generalize str S = T at *
      go_enter Tryz.func12, Tryz.ntmps12
      go_wp2_with fail
      refine (HC.out _ (h.below (wv_below w))).mono ?_
      rintro e0 w2 ⟨rfl, hb2⟩
      have HF : Hid (Fr w w2) := Fr.of hb2
      obtain ⟨⟨d0, d1, d2, f0, f1, f2⟩, -⟩ := HF.out
      have hlt : w.heap.size < w2.heap.size := by have := hb2.size; simp at this; omega
      have hne : w2.heap.size ≠ w.heap.size := by omega
      clear hb2
      go_wp2
      try simp only [Exit.inBlock, Exit.then]
      refine bodyPost_ret (results_v2 rfl _ _ w.heap.size rfl ((HF.out.z.three.set _ _ _).alloc _)) rfl ⟨rfl, (set3_below HF.out.b _ _ _).alloc ?_ _⟩
      have := HF.out.b.size
      simpa using this
    · simp only [if_true, hR, if_false]
      have hR0 : (str R).size ≠ 0 := by rw [str_size]; exact fun e => hR (List.eq_nil_of_length_eq_zero e)
      have he := empty_not _ hR0
      generalize str S = T at *
      generalize str R = Y at *
      clear hR hR0
      rw [show str [] = ⟨#[]⟩ from rfl]
      go_enter Tryz.func12, Tryz.ntmps12
      go_wp2_with fail
      refine (HC.out _ (h.below (wv_below w))).mono ?_
      rintro e0 w2 ⟨rfl, hb2⟩
      have HF : Hid (Fr w w2) := Fr.of hb2
      obtain ⟨⟨d0, d1, d2, f0, f1, f2⟩, -⟩ := HF.out
      have hlt : w.heap.size < w2.heap.size := by have := hb2.size; simp at this; omega
      have hne : w2.heap.size ≠ w.heap.size := by omega
      clear hb2
      go_wp2
      try simp only [Exit.inBlock, Exit.then]
      refine bodyPost_ret (results_v2 rfl _ _ w.heap.size rfl ((HF.out.z.three.set _ _ _).alloc _)) rfl ⟨rfl, (set3_below HF.out.b _ _ _).alloc ?_ _⟩
      have := HF.out.b.size
      simpa using this
  · simp only [he, if_false]
    have he' : (e != 0) = true := by rw [bne_iff_ne]; exact he
    rw [show str [] = ⟨#[]⟩ from rfl]
    generalize str S = T at *
    generalize str R = Y at *
    clear he
    go_enter Tryz.func12, Tryz.ntmps12
    go_wp2_with fail
    refine (HC.out _ (h.below (wv_below w))).mono ?_
    rintro e0 w2 ⟨rfl, hb2⟩
    have HF : Hid (Fr w w2) := Fr.of hb2
    obtain ⟨⟨d0, d1, d2, f0, f1, f2⟩, -⟩ := HF.out
    have hlt : w.heap.size < w2.heap.size := by have := hb2.size; simp at this; omega
    have hne : w2.heap.size ≠ w.heap.size := by omega
    clear hb2
    go_wp2
    try simp only [Exit.inBlock, Exit.then]
    refine bodyPost_ret (results_v2 rfl _ _ w.heap.size rfl ((HF.out.z.three.set _ _ _).alloc _)) rfl ⟨rfl, (set3_below HF.out.b _ _ _).alloc ?_ _⟩
    have := HF.out.b.size
    simpa using this
end Go.Proofs.YtdendpckihckeaaGreatDoor
/- value.showText of any text: its walk. -/
namespace Go.Proofs.YtdendpckihckeaaGreatDoor
open Go.RowKit

def shws (l : List Nat) : List UInt8 := l.flatMap shR
theorem shR_len (c : Nat) : (shR c).length ≤ 6 := by
  unfold shR
  split
  · decide
  split
  · decide
  split
  · decide
  split
  · decide
  split
  · decide
  split
  · exact Nat.le_of_lt (by decide : 5 < 6)
  split
  · exact Nat.le_refl 6
  · have := enc_len4 c; omega
/-- What holds of showText's loop at every round. -/
def StRl (s : ByteArray) (w : World) (k0 : Nat) (wr : World) : Prop :=
  ∃ (pos : Nat) (acc : List UInt8), IsB w.heap.size w.heap.size (Lib.byteCells (34 :: acc)) wr ∧ wr.heap[k0]? = some (.stringIter s pos) ∧ Below w.heap.size w wr ∧ w.heap.size < wr.heap.size ∧ acc ++ shws (rns (s.data.toList.drop pos)) = shws (rns s.data.toList) ∧ acc.length ≤ 6 * pos

set_option maxRecDepth 100000 in
set_option maxHeartbeats 4000000 in
theorem showText_all (s : ByteArray) (w : World) (hs : s.size ≤ 1000000) (hT : T16 w) :
    Calls Tryz.prog 41 #[.string s] w fun e w' => e = .returned (.string (str (34 :: shws (rns s.data.toList) ++ [34]))) ∧ Below w.heap.size w w' := by
  go_enter Tryz.func41, Tryz.ntmps41
  go_wp2_with fail
  refine (writeByte_k w.heap.size w.heap.size [] 34 _ (Lib.IsBuilderF.of (Lib.fresh_isBuilder _ _ w)) (by simp) (by first | simp | omega | skip)).mono ?_
  rintro e w1 ⟨rfl, hI1, hb1, ok1⟩
  have hs1 := hb1.size
  have hs1' : w.heap.size < w1.heap.size := by first | omega | (simp at hs1; omega)
  have hB1 : Below w.heap.size w w1 := ((Below.refl _ _).alloc (Nat.le_refl _) _).trans hb1
  clear hb1 ok1 hs1
  go_wp2_with fail
  go_loopw [] (fun wr => StRl s w w1.heap.size wr) (fun wr => s.size - wr.iterPos w1.heap.size)
  case atStart =>
    exact ⟨0, [], IsB_alloc hI1 _, World.iter_heap w1 s 0, hB1.alloc (by omega) _, Nat.lt_of_lt_of_le hs1' ((Below.refl w1.heap.size w1).alloc (Nat.le_refl _) (.stringIter s 0)).size, rfl, Nat.le_refl _⟩
  case round =>
    obtain ⟨pos, acc, hI, hit, hbw, hws, hck, hal⟩ := hrel
    have HC : Hid (acc ++ shws (rns (s.data.toList.drop pos)) = shws (rns s.data.toList)) := hck
    clear hck
    have hsz : w1.heap.size < wr.heap.size := (Array.getElem?_eq_some_iff.1 hit).1
    by_cases hp : pos < s.size
    · have hnx : ∀ ty, (Instr.next (.pointer (some ⟨w1.heap.size, 0, none⟩)) true ty).run Tryz.prog wr = _ := fun ty => Lib.run_next_any_at wr w1.heap.size s pos ty hit hp
      have hwd := Lib.decode_width_pos s pos hp
      have hit2 := Lib.iterAt_heap wr w1.heap.size s pos (pos + (Utf8.decode s pos).2) hit
      have hbw2 := Lib.below_iterAt hbw (k := w1.heap.size) (by omega) s (pos + (Utf8.decode s pos).2)
      have hI2 := IsB_iter hI hit (pos + (Utf8.decode s pos).2)
      have hszI : (wr.iterAt w1.heap.size s (pos + (Utf8.decode s pos).2)).heap.size = wr.heap.size := Lib.iterAt_size ..
      have hrl := Lib.rune_le s pos
      have hrn : Hid (rns (s.data.toList.drop pos) = (Utf8.decode s pos).1 :: rns (s.data.toList.drop (pos + (Utf8.decode s pos).2))) := rns_at s pos hp
      have hsc : Hid (scal (Utf8.decode s pos).1) := rns_scal (s.data.toList.drop pos) _ (by rw [hrn.out]; simp)
      have hmeas : Hid (s.size - (pos + (Utf8.decode s pos).2) < s.size - wr.iterPos w1.heap.size) := by
        show _ < _
        rw [iterPos_of hit]; omega
      have hwl : pos + (Utf8.decode s pos).2 ≤ s.size := by
        have hne : s.data.toList.drop pos ≠ [] := by
          intro e
          have := congrArg List.length e
          rw [List.length_drop, Array.length_toList] at this
          have e2 : s.data.size = s.size := rfl
          simp at this
          omega
        have h1 := Lib.decodeL_le _ hne
        rw [Lib.decodeL_drop, List.length_drop, Array.length_toList] at h1
        have e2 : s.data.size = s.size := rfl
        omega
      generalize (Utf8.decode s pos).1 = c at *
      generalize (Utf8.decode s pos).2 = d at *
      generalize hW : wr.iterAt w1.heap.size s (pos + d) = W at *
      have hcl := shR_len c
      have HC2 : Hid ((acc ++ shR c) ++ shws (rns (s.data.toList.drop (pos + d))) = shws (rns s.data.toList)) := by
        show _ = _; rw [← HC.out, hrn.out]; simp [shws]
      clear HC hrn hW hI hbw
      go_wp2_with fail
      refine (showRune_all c _ hsc.out (T16_below hT hbw2)).mono ?_
      rintro e w3 ⟨rfl, hb3⟩
      have hI3 := IsB_below hI2 hb3
      have hit3 := (hb3.block _ (Array.getElem?_eq_some_iff.1 hit2).1).trans hit2
      have hbw3 := hbw2.trans (hb3.mono (by omega))
      have hs3 := hb3.size
      have hzs : (str (shR c)).size ≤ 6 := by rw [str_size]; exact hcl
      clear hb3 hI2 hit2 hbw2
      go_wp2_with fail
      refine (writeString_k w.heap.size w.heap.size _ (str (shR c)) _ hI3 (by rw [Lib.byteCells_length, List.length_cons]; omega) (by omega)).mono ?_
      rintro e w4 ⟨rfl, hI4, hb4, ok4⟩
      have hit4 : Hid (w4.heap[w1.heap.size]? = some (.stringIter s (pos + d))) := iter_kept ok4 hit3 (IsB_ne hI3 hit3)
      have hmW : Hid (w4.iterPos w1.heap.size = pos + d) := iterPos_of hit4.out
      have HI : Hid (IsB w.heap.size w.heap.size (Lib.byteCells (34 :: (acc ++ shR c))) w4) := by
        rw [Lib.strCells_eq, str_data, ← Lib.byteCells_append, List.cons_append] at hI4
        exact hI4
      have HB : Hid (Below w.heap.size w w4) := hbw3.trans hb4
      have hs4 := hb4.size
      clear hI4 hb4 ok4 hI3 hit3 hbw3
      go_wp2
      go_roundw
      case rel => exact ⟨pos + d, acc ++ shR c, HI.out, hit4.out, HB.out, by omega, HC2.out, by rw [List.length_append]; omega⟩
      case measure => rw [hmW.out]; exact hmeas.out
    · have hnx : ∀ ty, (Instr.next (.pointer (some ⟨w1.heap.size, 0, none⟩)) true ty).run Tryz.prog wr = _ := fun ty => Lib.run_next_end_at wr w1.heap.size s pos ty hit hp
      have HC2 : Hid (acc = shws (rns s.data.toList)) := by show _ = _; rw [← HC.out, rns_end s pos hp]; simp [shws]
      have hpl : acc.length ≤ 10000000 := by
        have h3 := rns_len_le s.data.toList.length s.data.toList
        have e : s.data.toList.length = s.size := Array.length_toList
        have h4 : (rns s.data.toList).length ≤ s.data.toList.length := h3
        have h5 : ∀ l : List Nat, (shws l).length ≤ 6 * l.length := by
          intro l
          induction l with
          | nil => simp [shws]
          | cons c l ih => have := shR_len c; simp only [shws, List.flatMap_cons, List.length_append, List.length_cons] at ih ⊢; omega
        have h6 := h5 (rns s.data.toList)
        rw [HC2.out]
        omega
      clear HC
      go_wp2_with fail
      refine (writeByte_k w.heap.size w.heap.size _ 34 _ hI (by rw [Lib.byteCells_length, List.length_cons]; omega) (by omega)).mono ?_
      rintro e w3 ⟨rfl, hI3, hb3, ok3⟩
      have hs3 := hb3.size
      have hI4 : IsB w.heap.size w.heap.size (Lib.byteCells (34 :: acc ++ [34])) w3 := by
        have := cells_byte (34 :: acc) 34
        rw [← this]
        exact hI3
      have hB3 := hbw.trans hb3
      clear hI3 hb3 ok3
      go_wp2_with fail
      refine (Tryz.Builder_String_any_k w.heap.size w.heap.size (34 :: acc ++ [34]) _ hI4 (by omega)).mono ?_
      rintro e w4 ⟨rfl, hI5, hb5, ok5⟩
      have HB : Hid (Below w.heap.size w w4) := hB3.trans hb5
      clear hI5 hb5 ok5 hI4
      go_wp2
      go_ret
      refine ⟨?_, HB.out⟩
      rw [← HC2.out]
      rfl

end Go.Proofs.YtdendpckihckeaaGreatDoor
/- The shelf's contract of strconv.Itoa, at this program, laid by the shelf's tool in plain words. -/
namespace Go.Proofs
open Go.Shelf
def Tryz.laysM171_ren : Go.Shelf.Ren := ⟨fun | 171 => 38 | 243 => 70 | 246 => 99 | 283 => 119 | 284 => 120 | 285 => 121 | 286 => 122 | 129 => 134 | 317 => 133 | 318 => 135 | 319 => 136 | 320 => 123 | 337 => 137 | 338 => 138 | n => n, fun | 3 => 3 | 9 => 9 | 2 => 2 | 4 => 4 | 171 => 140 | 0 => 0 | 53 => 128 | 37 => 85 | 5 => 5 | 173 => 143 | 212 => 151 | 51 => 136 | 20 => 20 | 213 => 152 | 46 => 99 | 232 => 161 | 233 => 162 | n => n, fun | 17 => 3 | 18 => 4 | 19 => 5 | n => n⟩
theorem Tryz.laysM171 : Go.Proofs.LaysM.n171 Tryz.prog Tryz.laysM171_ren := {
  mixed := by kernel_rfl
  f129 := Tryz.func134.trans (congrArg some (by kernel_rfl))
  f171 := Tryz.func38.trans (congrArg some (by kernel_rfl))
  f243 := Tryz.func70.trans (congrArg some (by kernel_rfl))
  f246 := Tryz.func99.trans (congrArg some (by kernel_rfl))
  f283 := Tryz.func119.trans (congrArg some (by kernel_rfl))
  f284 := Tryz.func120.trans (congrArg some (by kernel_rfl))
  f285 := Tryz.func121.trans (congrArg some (by kernel_rfl))
  f286 := Tryz.func122.trans (congrArg some (by kernel_rfl))
  f317 := Tryz.func133.trans (congrArg some (by kernel_rfl))
  f318 := Tryz.func135.trans (congrArg some (by kernel_rfl))
  f319 := Tryz.func136.trans (congrArg some (by kernel_rfl))
  f320 := Tryz.func123.trans (congrArg some (by kernel_rfl))
  f337 := Tryz.func137.trans (congrArg some (by kernel_rfl))
  f338 := Tryz.func138.trans (congrArg some (by kernel_rfl))
  t0 := Tryz.underlying0
  a0 := Tryz.isAgg0
  z0 := Tryz.sizeOf0
  v0 := Tryz.zeroValue0
  t2 := Tryz.underlying2
  a2 := Tryz.isAgg2
  z2 := Tryz.sizeOf2
  v2 := Tryz.zeroValue2
  t3 := Tryz.underlying3
  a3 := Tryz.isAgg3
  z3 := Tryz.sizeOf3
  v3 := Tryz.zeroValue3
  t4 := Tryz.underlying4
  a4 := Tryz.isAgg4
  z4 := Tryz.sizeOf4
  v4 := Tryz.zeroValue4
  t5 := Tryz.underlying5
  a5 := Tryz.isAgg5
  z5 := Tryz.sizeOf5
  v5 := Tryz.zeroValue5
  t9 := Tryz.underlying9
  a9 := Tryz.isAgg9
  z9 := Tryz.sizeOf9
  v9 := Tryz.zeroValue9
  t20 := Tryz.underlying20
  a20 := Tryz.isAgg20
  z20 := Tryz.sizeOf20
  v20 := Tryz.zeroValue20
  t37 := Tryz.underlying85
  a37 := Tryz.isAgg85
  z37 := Tryz.sizeOf85
  v37 := Tryz.zeroValue85
  t46 := Tryz.underlying99
  a46 := Tryz.isAgg99
  z46 := Tryz.sizeOf99
  v46 := Tryz.zeroValue99
  t51 := Tryz.underlying136
  a51 := Tryz.isAgg136
  z51 := Tryz.sizeOf136
  v51 := Tryz.zeroValue136
  t53 := Tryz.underlying128
  a53 := Tryz.isAgg128
  z53 := Tryz.sizeOf128
  v53 := Tryz.zeroValue128
  t171 := Tryz.underlying140
  a171 := Tryz.isAgg140
  z171 := Tryz.sizeOf140
  v171 := Tryz.zeroValue140
  t173 := Tryz.underlying143
  a173 := Tryz.isAgg143
  z173 := Tryz.sizeOf143
  v173 := Tryz.zeroValue143
  t212 := Tryz.underlying151
  a212 := Tryz.isAgg151
  z212 := Tryz.sizeOf151
  v212 := Tryz.zeroValue151
  t213 := Tryz.underlying152
  a213 := Tryz.isAgg152
  z213 := Tryz.sizeOf152
  t232 := Tryz.underlying161
  a232 := Tryz.isAgg161
  z232 := Tryz.sizeOf161
  v232 := Tryz.zeroValue161
  t233 := Tryz.underlying162
  a233 := Tryz.isAgg162
  z233 := Tryz.sizeOf162
  v233 := Tryz.zeroValue162
  g17 := by kernel_rfl
  g18 := by kernel_rfl
  g19 := by kernel_rfl
  i0 := by kernel_rfl
  i2 := by kernel_rfl
  i3 := by kernel_rfl
  i4 := by kernel_rfl
  i5 := by kernel_rfl
  i9 := by kernel_rfl
  i20 := by kernel_rfl
  i37 := by kernel_rfl
  i46 := by kernel_rfl
  i51 := by kernel_rfl
  i53 := by kernel_rfl
  i171 := by kernel_rfl
  i173 := by kernel_rfl
  i212 := by kernel_rfl
  i232 := by kernel_rfl
  i233 := by kernel_rfl
  m17 := by kernel_rfl
  m18 := by kernel_rfl
  m19 := by kernel_rfl }
open Go.RowKit in
theorem Tryz.strconv_Itoa (n : Int) (h0 : -9223372036854775808 ≤ n) (h1 : n ≤ 9223372036854775807) (w : World) (htab : Lib.TabIs Tryz.prog w "internal/strconv.uint64pow10" .u64 Lib.pow10Tab) :
    Calls Tryz.prog 38 #[.int .i64 n] w fun e w' => e = .returned (.string ⟨(Lib.itoa n).toArray⟩) ∧ ∃ k os, w' = Sort.grow (w.drewN k) os := Any.strconv_Itoa Tryz.laysM171 n h0 h1 w htab
end Go.Proofs
