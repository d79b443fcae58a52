/- name.compareRunes, Compare, Same: walks. -/
import Derived.Test.YtjamkfkbajhefaaGreatDoorZk1
import Derived.Test.YtjamkfkbajhefaaGreatDoorZk0
namespace Go.Proofs.YtjamkfkbajhefaaGreatDoor
open Go.RowKit

theorem nan_any (c : Int) (w : World) :
    Calls Tryz.prog 106 #[.int .i32 c] w fun e w' => e = .returned (.bool false) ∧ w' = w := by
  go_enter Tryz.func106, Tryz.ntmps106
  go_wp2
  go_ret
  exact ⟨by simp, rfl⟩
def ordN (a b : Nat) : Int := if a < b then -1 else if b < a then 1 else 0
set_option maxHeartbeats 1000000 in
theorem cmpRune_any (a b : Nat) (w : World) :
    Calls Tryz.prog 77 #[.int .i32 (a : Nat), .int .i32 (b : Nat)] w fun e w' => e = .returned (.int .i64 (ordN a b)) ∧ w' = w := by
  by_cases h1 : a < b
  · have h1' : (a : Int) < b := by omega
    have e : ordN a b = -1 := if_pos h1
    rw [e]
    go_enter Tryz.func77, Tryz.ntmps77
    go_wp2_with (go_at_call 106; refine (nan_any _ _).mono ?_; rintro e w' ⟨rfl, rfl⟩)
    go_ret
    exact ⟨rfl, rfl⟩
  · have h1' : ¬ (a : Int) < b := by omega
    by_cases h2 : b < a
    · have h2' : (b : Int) < a := by omega
      have e : ordN a b = 1 := by rw [ordN, if_neg h1, if_pos h2]
      rw [e]
      go_enter Tryz.func77, Tryz.ntmps77
      go_wp2_with (go_at_call 106; refine (nan_any _ _).mono ?_; rintro e w' ⟨rfl, rfl⟩)
      go_ret
      exact ⟨rfl, rfl⟩
    · have h2' : ¬ (b : Int) < a := by omega
      have e : ordN a b = 0 := by rw [ordN, if_neg h1, if_neg h2]
      rw [e]
      go_enter Tryz.func77, Tryz.ntmps77
      go_wp2_with (go_at_call 106; refine (nan_any _ _).mono ?_; rintro e w' ⟨rfl, rfl⟩)
      go_ret
      exact ⟨rfl, rfl⟩

def smalls (l : List UInt8) : List Nat := (rns l).map smallN
def CrRel (a b : ByteArray) (C : Int) (w : World) (t : Value) (wr : World) : Prop :=
  ∃ (pos : Nat) (B : ByteArray), t = .string B ∧ B.size ≤ b.size ∧ wr.heap[w.heap.size]? = some (.stringIter a pos) ∧ Below w.heap.size w wr ∧ cmpR (smalls (a.data.toList.drop pos)) (smalls B.data.toList) = C
theorem dec_go (B : ByteArray) (h : B.size ≠ 0) : Lib.decodeGo B = Utf8.decode B 0 := if_neg h
theorem smalls_ne (B : ByteArray) (h : B.size ≠ 0) : smalls B.data.toList = smallN (Utf8.decode B 0).1 :: smalls ((B.extract (Utf8.decode B 0).2 B.size).data.toList) := by
  have e := rns_at B 0 (by omega)
  rw [List.drop_zero, Nat.zero_add] at e
  unfold smalls
  rw [e, List.map_cons, ext_list]
theorem smalls_nil (B : ByteArray) (h : B.size = 0) : smalls B.data.toList = [] := by
  have : B.data.toList = [] := List.eq_nil_of_length_eq_zero (by rw [Array.length_toList]; exact h)
  rw [this]
  rfl
theorem wid_le (B : ByteArray) (h : B.size ≠ 0) : (Utf8.decode B 0).2 ≤ B.size := by
  have hne : B.data.toList ≠ [] := by
    intro e
    have := congrArg List.length e
    rw [Array.length_toList] at this
    exact h this
  have h1 := Lib.decodeL_le _ hne
  have e : Lib.decodeL B.data.toList = Utf8.decode B 0 := by have := Lib.decodeL_drop B 0; rwa [List.drop_zero] at this
  rw [e, Array.length_toList] at h1
  exact h1
theorem empty_is (B : ByteArray) (h : B.size = 0) : B.toList.isEmpty = true := by
  rw [ByteArray.toList_eq]
  have : B.data.toList = [] := List.eq_nil_of_length_eq_zero (by rw [Array.length_toList]; exact h)
  rw [this]; rfl
theorem empty_not (B : ByteArray) (h : B.size ≠ 0) : B.toList.isEmpty = false := by
  rw [ByteArray.toList_eq]
  cases e : B.data.toList with
  | nil => exact absurd (by have := congrArg List.length e; rwa [Array.length_toList] at this) h
  | cons b l => rfl
theorem ext_size (B : ByteArray) (k : Nat) : (B.extract k B.size).size ≤ B.size := by rw [ByteArray.size_extract]; omega

set_option maxRecDepth 100000 in
set_option maxHeartbeats 2000000 in
theorem cmpRunes_any (a b : ByteArray) (w : World) (hT : UT w) :
    Calls Tryz.prog 47 #[.string a, .string b] w fun e w' => e = .returned (.int .i64 (cmpR (smalls a.data.toList) (smalls b.data.toList))) ∧ Below w.heap.size w w' := by
  obtain ⟨C, HC⟩ : ∃ C, Hid (cmpR (smalls a.data.toList) (smalls b.data.toList) = C) := ⟨_, rfl⟩
  rw [HC.out]
  go_enter Tryz.func47, Tryz.ntmps47
  go_wp2
  go_loopw [1] (fun t wr => CrRel a b C w t wr) (fun _ wr => a.size - wr.iterPos w.heap.size)
  case atStart =>
    refine ⟨0, b, rfl, Nat.le_refl _, ?_, (Below.refl _ _).alloc (Nat.le_refl _) _, HC.out⟩
    have := World.iter_heap w a 0
    simpa using this
  case round =>
    obtain ⟨pos, B, rfl, hB, hit, hbw, hck⟩ := hrel
    have HK : Hid (cmpR (smalls (a.data.toList.drop pos)) (smalls B.data.toList) = C) := hck
    clear hck HC
    have hsz : w.heap.size < wr.heap.size := (Array.getElem?_eq_some_iff.1 hit).1
    by_cases hp : pos < a.size
    · have hnx : ∀ ty, (Instr.next (.pointer (some ⟨w.heap.size, 0, none⟩)) true ty).run Tryz.prog wr = _ := fun ty => Lib.run_next_any_at wr w.heap.size a pos ty hit hp
      have hwd := Lib.decode_width_pos a pos hp
      have hit2 := Lib.iterAt_heap wr w.heap.size a pos (pos + (Utf8.decode a pos).2) hit
      have hbw2 := Lib.below_iterAt hbw (k := w.heap.size) (Nat.le_refl _) a (pos + (Utf8.decode a pos).2)
      have hrl := Lib.rune_le a pos
      have hrn : Hid (smalls (a.data.toList.drop pos) = smallN (Utf8.decode a pos).1 :: smalls (a.data.toList.drop (pos + (Utf8.decode a pos).2))) := by show _ = _; unfold smalls; rw [rns_at a pos hp]; rfl
      have hmeas : Hid (a.size - (pos + (Utf8.decode a pos).2) < a.size - wr.iterPos w.heap.size) := by
        show _ < _
        rw [iterPos_of hit]; omega
      generalize (Utf8.decode a pos).1 = c at *
      generalize (Utf8.decode a pos).2 = d at *
      generalize hW : wr.iterAt w.heap.size a (pos + d) = W at *
      have hmW : Hid (W.iterPos w.heap.size = pos + d) := iterPos_of hit2
      have hszW : w.heap.size < W.heap.size := (Array.getElem?_eq_some_iff.1 hit2).1
      clear hW hit hbw
      by_cases h0 : B.size = 0
      · have he := empty_is B h0
        have HR : Hid (1 = C) := by show _ = _; rw [← HK.out, hrn.out, smalls_nil B h0]; rfl
        clear HK hrn
        go_wp2_with fail
        go_ret
        exact ⟨by rw [← HR.out]; rfl, hbw2⟩
      · have he := empty_not B h0
        have hdg := dec_go B h0
        have hsn : Hid _ := smalls_ne B h0
        have hwl := wid_le B h0
        have hrb := Lib.rune_le B 0
        have hex := ext_size B (Utf8.decode B 0).2
        generalize (Utf8.decode B 0) = dc at *
        obtain ⟨x, y⟩ := dc
        simp only at hwl hrb hex
        have HK2 : Hid (cmpR (smallN c :: smalls (a.data.toList.drop (pos + d))) (smallN x :: smalls ((B.extract y B.size).data.toList)) = C) := by show _ = _; rw [← hrn.out, ← hsn.out]; exact HK.out
        clear hrn hsn HK
        go_wp2_with fail
        refine (Tryz.utf8_DecodeRuneInString B _ (Utf8Tabs_below hT hbw2)).mono ?_
        rintro e w3 ⟨rfl, hb3⟩
        rw [show (Lib.decodeGo B).1 = x by rw [hdg], show (Lib.decodeGo B).2 = y by rw [hdg]]
        have hbw3 := hbw2.trans (hb3.mono hbw2.size)
        have hit3 : Hid (w3.heap[w.heap.size]? = some (.stringIter a (pos + d))) := (hb3.block _ hszW).trans hit2
        have hmW3 : Hid (w3.iterPos w.heap.size = pos + d) := iterPos_of hit3.out
        clear hb3 hbw2 hit2 hdg
        by_cases h1 : smallN c < smallN x
        · have ho : ordN (smallN c) (smallN x) = -1 := if_pos h1
          have HR : Hid (-1 = C) := by show _ = _; rw [← HK2.out, cmpR, if_pos h1]
          clear HK2 h1
          go_wp2_with (first | (go_at_call 78; refine (small_any _ _ (by omega) (by omega)).mono ?_; rintro e w' ⟨rfl, rfl⟩; rw [smallZ_nat]) | (go_at_call 77; refine (cmpRune_any _ _ _).mono ?_; rintro e w' ⟨rfl, rfl⟩; rw [ho]))
          go_ret
          exact ⟨by rw [← HR.out]; rfl, hbw3⟩
        · by_cases h2 : smallN x < smallN c
          · have ho : ordN (smallN c) (smallN x) = 1 := by rw [ordN, if_neg h1, if_pos h2]
            have HR : Hid (1 = C) := by show _ = _; rw [← HK2.out, cmpR, if_neg h1, if_pos h2]
            clear HK2 h1 h2
            go_wp2_with (first | (go_at_call 78; refine (small_any _ _ (by omega) (by omega)).mono ?_; rintro e w' ⟨rfl, rfl⟩; rw [smallZ_nat]) | (go_at_call 77; refine (cmpRune_any _ _ _).mono ?_; rintro e w' ⟨rfl, rfl⟩; rw [ho]))
            go_ret
            exact ⟨by rw [← HR.out]; rfl, hbw3⟩
          · have ho : ordN (smallN c) (smallN x) = 0 := by rw [ordN, if_neg h1, if_neg h2]
            have HR : Hid (cmpR (smalls (a.data.toList.drop (pos + d))) (smalls ((B.extract y B.size).data.toList)) = C) := by show _ = _; rw [← HK2.out, cmpR, if_neg h1, if_neg h2]
            clear HK2 h1 h2
            go_wp2_with (first | (go_at_call 78; refine (small_any _ _ (by omega) (by omega)).mono ?_; rintro e w' ⟨rfl, rfl⟩; rw [smallZ_nat]) | (go_at_call 77; refine (cmpRune_any _ _ _).mono ?_; rintro e w' ⟨rfl, rfl⟩; rw [ho]))
            go_roundw
            case rel => exact ⟨pos + d, B.extract y B.size, rfl, by omega, hit3.out, hbw3, HR.out⟩
            case measure => rw [hmW3.out]; exact hmeas.out
    · have hnx : ∀ ty, (Instr.next (.pointer (some ⟨w.heap.size, 0, none⟩)) true ty).run Tryz.prog wr = _ := fun ty => Lib.run_next_end_at wr w.heap.size a pos ty hit hp
      have hn : smalls (a.data.toList.drop pos) = [] := by unfold smalls; rw [rns_end a pos hp]; rfl
      by_cases h0 : B.size = 0
      · have HR : Hid (0 = C) := by show _ = _; rw [← HK.out, hn, smalls_nil B h0]; rfl
        have hz : (B.size : Int) = 0 := by omega
        clear HK hn
        go_wp2_with fail
        go_ret
        exact ⟨by rw [← HR.out]; rfl, hbw⟩
      · have HR : Hid (-1 = C) := by show _ = _; rw [← HK.out, hn, smalls_ne B h0]; rfl
        have hm : min (B.size : Int) 1 = 1 := by omega
        clear HK hn
        go_wp2_with fail
        go_ret
        exact ⟨by rw [← HR.out]; rfl, hbw⟩

theorem smalls_scal (l : List UInt8) : ∀ c ∈ smalls l, scal c := by
  intro c hc
  obtain ⟨x, hx, rfl⟩ := List.mem_map.1 hc
  exact smallN_scal (rns_scal l x hx)
theorem cmpL_runes {a b : List UInt8} (ha : Lib.validD a = true) (hb : Lib.validD b = true) : cmpR (smalls a) (smalls b) = cmpL a b := by
  unfold cmpL
  rw [foldL, foldL, if_pos ha, if_pos hb]
  exact (cmp_enc _ _ (smalls_scal a) (smalls_scal b)).symm

set_option maxHeartbeats 1000000 in
theorem compare_any (a b : ByteArray) (w : World) (ha : a.size ≤ 1000000) (hb : b.size ≤ 1000000) (hT : UT w) :
    Calls Tryz.prog 21 #[.string a, .string b] w fun e w' => e = .returned (.int .i64 (cmpL a.data.toList b.data.toList)) ∧ Below w.heap.size w w' := by
  by_cases va : Lib.validD a.data.toList = true
  · by_cases vb : Lib.validD b.data.toList = true
    · have HC : Hid (cmpR (smalls a.data.toList) (smalls b.data.toList) = cmpL a.data.toList b.data.toList) := cmpL_runes va vb
      go_enter Tryz.func21, Tryz.ntmps21
      go_wp2_with fail
      refine (Tryz.utf8_ValidString a _ (by omega) hT).mono ?_
      rintro e w1 ⟨rfl, hb1⟩
      rw [va]
      go_wp2_with fail
      refine (Tryz.utf8_ValidString b _ (by omega) (Utf8Tabs_below hT hb1)).mono ?_
      rintro e w2 ⟨rfl, hb2⟩
      rw [vb]
      have hbb := hb1.trans (hb2.mono hb1.size)
      clear hb1 hb2
      go_wp2_with fail
      refine (cmpRunes_any a b _ (Utf8Tabs_below hT hbb)).mono ?_
      rintro e w3 ⟨rfl, hb3⟩
      rw [HC.out]
      have hbb3 : Hid (Below w.heap.size w w3) := hbb.trans (hb3.mono hbb.size)
      clear hbb hb3
      go_wp2
      go_ret
      exact ⟨rfl, hbb3.out⟩
    · have vb' : Lib.validD b.data.toList = false := by simpa using vb
      go_enter Tryz.func21, Tryz.ntmps21
      go_wp2_with fail
      refine (Tryz.utf8_ValidString a _ (by omega) hT).mono ?_
      rintro e w1 ⟨rfl, hb1⟩
      rw [va]
      go_wp2_with fail
      refine (Tryz.utf8_ValidString b _ (by omega) (Utf8Tabs_below hT hb1)).mono ?_
      rintro e w2 ⟨rfl, hb2⟩
      rw [vb']
      have hbb := hb1.trans (hb2.mono hb1.size)
      clear hb1 hb2
      go_wp2_with fail
      refine (fold_any a _ ha (Utf8Tabs_below hT hbb)).mono ?_
      rintro e w3 ⟨rfl, hb3⟩
      have hbb3 := hbb.trans (hb3.mono hbb.size)
      clear hbb hb3
      go_wp2_with fail
      refine (fold_any b _ hb (Utf8Tabs_below hT hbb3)).mono ?_
      rintro e w4 ⟨rfl, hb4⟩
      have hbb4 : Hid (Below w.heap.size w w4) := hbb3.trans (hb4.mono hbb3.size)
      clear hbb3 hb4
      go_wp2_with fail
      refine (Tryz.strings_Compare _ _ _).mono ?_
      rintro e w5 ⟨rfl, rfl⟩
      rw [str_data, str_data]
      go_wp2
      go_ret
      exact ⟨rfl, hbb4.out⟩
  · have va' : Lib.validD a.data.toList = false := by simpa using va
    go_enter Tryz.func21, Tryz.ntmps21
    go_wp2_with fail
    refine (Tryz.utf8_ValidString a _ (by omega) hT).mono ?_
    rintro e w1 ⟨rfl, hbb⟩
    rw [va']
    go_wp2_with fail
    refine (fold_any a _ ha (Utf8Tabs_below hT hbb)).mono ?_
    rintro e w3 ⟨rfl, hb3⟩
    have hbb3 := hbb.trans (hb3.mono hbb.size)
    clear hbb hb3
    go_wp2_with fail
    refine (fold_any b _ hb (Utf8Tabs_below hT hbb3)).mono ?_
    rintro e w4 ⟨rfl, hb4⟩
    have hbb4 : Hid (Below w.heap.size w w4) := hbb3.trans (hb4.mono hbb3.size)
    clear hbb3 hb4
    go_wp2_with fail
    refine (Tryz.strings_Compare _ _ _).mono ?_
    rintro e w5 ⟨rfl, rfl⟩
    rw [str_data, str_data]
    go_wp2
    go_ret
    exact ⟨rfl, hbb4.out⟩

theorem cb_zero : ∀ (a b : List UInt8), Lib.compareBytes a b = 0 → a = b
  | [], [] => fun _ => rfl
  | [], b :: l => by simp [Lib.compareBytes]
  | a :: k, [] => by simp [Lib.compareBytes]
  | a :: k, b :: l => by
    simp only [Lib.compareBytes]
    split
    · intro h; cases h
    split
    · intro h; cases h
    · rename_i h1 h2
      intro h
      have e : a = b := UInt8.le_antisymm (UInt8.not_lt.1 h2) (UInt8.not_lt.1 h1)
      rw [e, cb_zero k l h]
theorem cb_self : ∀ l : List UInt8, Lib.compareBytes l l = 0
  | [] => rfl
  | b :: l => by simp [Lib.compareBytes, cb_self l]
theorem cmp_same (a b : List UInt8) : (cmpL a b == 0) = sameL a b := by
  rw [Bool.eq_iff_iff, beq_iff_eq, sameL, decide_eq_true_eq]
  exact ⟨cb_zero _ _, fun h => by unfold cmpL; rw [h]; exact cb_self _⟩
set_option maxHeartbeats 1000000 in
theorem same_any (a b : ByteArray) (w : World) (ha : a.size ≤ 1000000) (hb : b.size ≤ 1000000) (hT : UT w) :
    Calls Tryz.prog 29 #[.string a, .string b] w fun e w' => e = .returned (.bool (sameL a.data.toList b.data.toList)) ∧ Below w.heap.size w w' := by
  by_cases h : a = b
  · subst h
    have e : sameL a.data.toList a.data.toList = true := by simp [sameL]
    rw [e]
    have e2 : (a.toList == a.toList) = true := beq_self_eq_true _
    go_enter Tryz.func29, Tryz.ntmps29
    go_wp2
    go_ret
    exact ⟨rfl, Below.refl _ _⟩
  · have e2 : (a.toList == b.toList) = false := by
      rw [beq_eq_false_iff_ne, ByteArray.toList_eq, ByteArray.toList_eq]
      exact fun e => h (ba_eq e)
    have HS : Hid ((cmpL a.data.toList b.data.toList == 0) = sameL a.data.toList b.data.toList) := cmp_same _ _
    go_enter Tryz.func29, Tryz.ntmps29
    go_wp2_with fail
    refine (compare_any a b _ ha hb hT).mono ?_
    rintro e w1 ⟨rfl, hb1⟩
    go_wp2
    go_ret
    exact ⟨by rw [← HS.out]; rfl, hb1⟩
end Go.Proofs.YtjamkfkbajhefaaGreatDoor
/- isWord, isMark, ended, takes, opWord, opOf: walks. -/
namespace Go.Proofs.YtjamkfkbajhefaaGreatDoor.F
open Go.RowKit

def PcOk : Pc → Prop
  | .word _ s => s.size ≤ 1000000
  | .mark _ s => s.size ≤ 1000000
  | .lit _ _ _ s => s.size ≤ 1000000
  | .fin _ => True
/-- Is a piece this word? -/
def isW : Pc → ByteArray → Bool
  | .word _ s, u => sameL s.data.toList u.data.toList
  | _, _ => false
theorem ta_word_word (p : Int) (s : ByteArray) (W : World) : (Instr.typeAssert (.iface 156 (.agg #[.int .i64 p, .string s])) 120 156 true).run Tryz.prog W = .ok (.tuple #[.agg #[.int .i64 p, .string s], .bool true]) W := by kernel_rfl
theorem ta_word_literal (p : Int) (s : ByteArray) (W : World) : (Instr.typeAssert (.iface 156 (.agg #[.int .i64 p, .string s])) 120 159 true).run Tryz.prog W = .ok (.tuple #[.agg #[.int .i64 0, .int .i64 0, .int .i64 0, .string ⟨#[]⟩], .bool false]) W := by kernel_rfl
theorem ta_word_end (p : Int) (s : ByteArray) (W : World) : (Instr.typeAssert (.iface 156 (.agg #[.int .i64 p, .string s])) 120 154 true).run Tryz.prog W = .ok (.tuple #[.agg #[.int .i64 0], .bool false]) W := by kernel_rfl
theorem ta_mark_word (p : Int) (s : ByteArray) (W : World) : (Instr.typeAssert (.iface 157 (.agg #[.int .i64 p, .string s])) 120 156 true).run Tryz.prog W = .ok (.tuple #[.agg #[.int .i64 0, .string ⟨#[]⟩], .bool false]) W := by kernel_rfl
theorem ta_mark_mark (p : Int) (s : ByteArray) (W : World) : (Instr.typeAssert (.iface 157 (.agg #[.int .i64 p, .string s])) 120 157 true).run Tryz.prog W = .ok (.tuple #[.agg #[.int .i64 p, .string s], .bool true]) W := by kernel_rfl
theorem ta_mark_literal (p : Int) (s : ByteArray) (W : World) : (Instr.typeAssert (.iface 157 (.agg #[.int .i64 p, .string s])) 120 159 true).run Tryz.prog W = .ok (.tuple #[.agg #[.int .i64 0, .int .i64 0, .int .i64 0, .string ⟨#[]⟩], .bool false]) W := by kernel_rfl
theorem ta_mark_end (p : Int) (s : ByteArray) (W : World) : (Instr.typeAssert (.iface 157 (.agg #[.int .i64 p, .string s])) 120 154 true).run Tryz.prog W = .ok (.tuple #[.agg #[.int .i64 0], .bool false]) W := by kernel_rfl
theorem ta_literal_word (p k n : Int) (s : ByteArray) (W : World) : (Instr.typeAssert (.iface 159 (.agg #[.int .i64 p, .int .i64 k, .int .i64 n, .string s])) 120 156 true).run Tryz.prog W = .ok (.tuple #[.agg #[.int .i64 0, .string ⟨#[]⟩], .bool false]) W := by kernel_rfl
theorem ta_literal_literal (p k n : Int) (s : ByteArray) (W : World) : (Instr.typeAssert (.iface 159 (.agg #[.int .i64 p, .int .i64 k, .int .i64 n, .string s])) 120 159 true).run Tryz.prog W = .ok (.tuple #[.agg #[.int .i64 p, .int .i64 k, .int .i64 n, .string s], .bool true]) W := by kernel_rfl
theorem ta_literal_end (p k n : Int) (s : ByteArray) (W : World) : (Instr.typeAssert (.iface 159 (.agg #[.int .i64 p, .int .i64 k, .int .i64 n, .string s])) 120 154 true).run Tryz.prog W = .ok (.tuple #[.agg #[.int .i64 0], .bool false]) W := by kernel_rfl
theorem ta_end_word (p : Int) (W : World) : (Instr.typeAssert (.iface 154 (.agg #[.int .i64 p])) 120 156 true).run Tryz.prog W = .ok (.tuple #[.agg #[.int .i64 0, .string ⟨#[]⟩], .bool false]) W := by kernel_rfl
theorem ta_end_literal (p : Int) (W : World) : (Instr.typeAssert (.iface 154 (.agg #[.int .i64 p])) 120 159 true).run Tryz.prog W = .ok (.tuple #[.agg #[.int .i64 0, .int .i64 0, .int .i64 0, .string ⟨#[]⟩], .bool false]) W := by kernel_rfl
theorem ta_end_end (p : Int) (W : World) : (Instr.typeAssert (.iface 154 (.agg #[.int .i64 p])) 120 154 true).run Tryz.prog W = .ok (.tuple #[.agg #[.int .i64 p], .bool true]) W := by kernel_rfl
set_option maxRecDepth 100000 in
set_option maxHeartbeats 1000000 in
theorem isWord_any (x : Pc) (u : ByteArray) (w : World) (hx : PcOk x) (hu : u.size ≤ 1000000) (hT : UT w) : Calls Tryz.prog 67 #[x.v, .string u] w fun e w' => e = .returned (.bool (isW x u)) ∧ Below w.heap.size w w' := by
  cases x with
  | word p s =>
    have ha := ta_word_word p s
    show Calls Tryz.prog 67 #[.iface 156 (.agg #[.int .i64 p, .string s]), .string u] w fun e w' => e = .returned (.bool (sameL s.data.toList u.data.toList)) ∧ Below w.heap.size w w'
    have hs : s.size ≤ 1000000 := hx
    obtain ⟨w1, hw1⟩ : ∃ w1, w1 = w.alloc (.cells #[.int .i64 p, .string s] 156) := ⟨_, rfl⟩
    have HB : Hid (Below w.heap.size w w1) := by show Below _ _ _; rw [hw1]; exact al_f _ _
    have HS : Hid (Calls Tryz.prog 29 #[.string s, .string u] w1 fun e w' => e = .returned (.bool (sameL s.data.toList u.data.toList)) ∧ Below w1.heap.size w1 w') := same_any s u w1 hs hu (Utf8Tabs_below hT HB.out)
    generalize sameL s.data.toList u.data.toList = X at *
    clear hs hx hu hT
    go_enter Tryz.func67, Tryz.ntmps67
    go_wp2_with fail
    rw [← hw1]
    clear hw1
    refine HS.out.mono ?_
    rintro e w2 ⟨rfl, hb⟩
    have HB2 : Hid (Below w.heap.size w w2) := HB.out.trans (hb.mono HB.out.size)
    clear hb
    go_wp2
    go_ret
    exact ⟨rfl, HB2.out⟩
  | mark p s =>
    have ha := ta_mark_word p s
    show Calls Tryz.prog 67 #[.iface 157 (.agg #[.int .i64 p, .string s]), .string u] w fun e w' => e = .returned (.bool (false)) ∧ Below w.heap.size w w'
    go_enter Tryz.func67, Tryz.ntmps67
    go_wp2
    go_ret
    exact ⟨rfl, al_f _ _⟩
  | lit p k n s =>
    have ha := ta_literal_word p k n s
    show Calls Tryz.prog 67 #[.iface 159 (.agg #[.int .i64 p, .int .i64 k, .int .i64 n, .string s]), .string u] w fun e w' => e = .returned (.bool (false)) ∧ Below w.heap.size w w'
    go_enter Tryz.func67, Tryz.ntmps67
    go_wp2
    go_ret
    exact ⟨rfl, al_f _ _⟩
  | fin p =>
    have ha := ta_end_word p
    show Calls Tryz.prog 67 #[.iface 154 (.agg #[.int .i64 p]), .string u] w fun e w' => e = .returned (.bool (false)) ∧ Below w.heap.size w w'
    go_enter Tryz.func67, Tryz.ntmps67
    go_wp2
    go_ret
    exact ⟨rfl, al_f _ _⟩
/-- What is wrong where the text must end. -/
def endE : Pc → Int × Int
  | .fin _ => (0, 0)
  | x => (x.at, 3)
set_option maxRecDepth 100000 in
set_option maxHeartbeats 1000000 in
theorem ended_any (x : Pc) (w : World) : Calls Tryz.prog 68 #[x.v] w fun e w' => e = .returned (ftV (endE x).1 (endE x).2) ∧ Below w.heap.size w w' := by
  have HW : Hid (∀ W, Calls Tryz.prog 97 #[x.v, .int .i64 3] W fun e w' => e = .returned (ftV x.at 3) ∧ Below W.heap.size W w') := fun W => wrong_any x 3 W
  cases x with
  | word p s =>
    have ha := ta_word_end p s
    have HW2 : Hid (∀ W, Calls Tryz.prog 97 #[.iface 156 (.agg #[.int .i64 p, .string s]), .int .i64 3] W fun e w' => e = .returned (ftV p 3) ∧ Below W.heap.size W w') := HW
    show Calls Tryz.prog 68 #[.iface 156 (.agg #[.int .i64 p, .string s])] w fun e w' => e = .returned (ftV p 3) ∧ Below w.heap.size w w'
    clear HW
    obtain ⟨w1, hw1⟩ : ∃ w1, w1 = w.alloc (.cells #[.int .i64 0, .int .i64 0] 83) := ⟨_, rfl⟩
    obtain ⟨w2, hw2⟩ : ∃ w2, w2 = w1.alloc (.cells #[.int .i64 0] 154) := ⟨_, rfl⟩
    have HB1 : Hid (Below w.heap.size w w1) := by show Below _ _ _; rw [hw1]; exact al_f _ _
    have hn1 : w1.heap[w.heap.size]? = some (.cells #[.int .i64 0, .int .i64 0] 83 (0, 0)) := by rw [hw1]; exact nw_at _ _
    have HB2 : Hid (Below w1.heap.size w1 w2) := by show Below _ _ _; rw [hw2]; exact al_f _ _
    have HC : Hid (∀ W, Below w2.heap.size w2 W → W.heap[w.heap.size]? = some (.cells #[.int .i64 0, .int .i64 0] 83 (0, 0))) := fun W hb => ((HB2.out.trans (hb.mono HB2.out.size)).block _ (Array.getElem?_eq_some_iff.1 hn1).1).trans hn1
    clear hn1
    go_enter Tryz.func68, Tryz.ntmps68
    go_wp2_with fail
    rw [← hw1, ← hw2]
    clear hw1 hw2
    refine (HW2.out w2).mono ?_
    rintro e w3 ⟨rfl, hb⟩
    have HB3 : Hid (Below w.heap.size w w3) := HB1.out.trans ((HB2.out.trans (hb.mono HB2.out.size)).mono HB1.out.size)
    have hk := HC.out w3 hb
    have c0 : w3.cell? ⟨w.heap.size, 0, none⟩ = some (.int .i64 0) := by rw [Lib.cell_of_heap hk]; rfl
    have c1 : w3.cell? ⟨w.heap.size, 1, none⟩ = some (.int .i64 0) := by rw [Lib.cell_of_heap hk]; rfl
    have fz : ∀ j, w3.frozen? ⟨w.heap.size, j, none⟩ = false := fun j => Lib.frozen_of_heap hk j
    clear hk hb
    go_wp2
    refine bodyPost_ret (v := ftV p 3) ?_ rfl ⟨rfl, ?_⟩
    · rw [results_f1 rfl]; go_simp
    · exact (HB3.out.setCell (p := ⟨w.heap.size, 0, none⟩) (Nat.le_refl _) _).setCell (p := ⟨w.heap.size, 1, none⟩) (Nat.le_refl _) _
  | mark p s =>
    have ha := ta_mark_end p s
    have HW2 : Hid (∀ W, Calls Tryz.prog 97 #[.iface 157 (.agg #[.int .i64 p, .string s]), .int .i64 3] W fun e w' => e = .returned (ftV p 3) ∧ Below W.heap.size W w') := HW
    show Calls Tryz.prog 68 #[.iface 157 (.agg #[.int .i64 p, .string s])] w fun e w' => e = .returned (ftV p 3) ∧ Below w.heap.size w w'
    clear HW
    obtain ⟨w1, hw1⟩ : ∃ w1, w1 = w.alloc (.cells #[.int .i64 0, .int .i64 0] 83) := ⟨_, rfl⟩
    obtain ⟨w2, hw2⟩ : ∃ w2, w2 = w1.alloc (.cells #[.int .i64 0] 154) := ⟨_, rfl⟩
    have HB1 : Hid (Below w.heap.size w w1) := by show Below _ _ _; rw [hw1]; exact al_f _ _
    have hn1 : w1.heap[w.heap.size]? = some (.cells #[.int .i64 0, .int .i64 0] 83 (0, 0)) := by rw [hw1]; exact nw_at _ _
    have HB2 : Hid (Below w1.heap.size w1 w2) := by show Below _ _ _; rw [hw2]; exact al_f _ _
    have HC : Hid (∀ W, Below w2.heap.size w2 W → W.heap[w.heap.size]? = some (.cells #[.int .i64 0, .int .i64 0] 83 (0, 0))) := fun W hb => ((HB2.out.trans (hb.mono HB2.out.size)).block _ (Array.getElem?_eq_some_iff.1 hn1).1).trans hn1
    clear hn1
    go_enter Tryz.func68, Tryz.ntmps68
    go_wp2_with fail
    rw [← hw1, ← hw2]
    clear hw1 hw2
    refine (HW2.out w2).mono ?_
    rintro e w3 ⟨rfl, hb⟩
    have HB3 : Hid (Below w.heap.size w w3) := HB1.out.trans ((HB2.out.trans (hb.mono HB2.out.size)).mono HB1.out.size)
    have hk := HC.out w3 hb
    have c0 : w3.cell? ⟨w.heap.size, 0, none⟩ = some (.int .i64 0) := by rw [Lib.cell_of_heap hk]; rfl
    have c1 : w3.cell? ⟨w.heap.size, 1, none⟩ = some (.int .i64 0) := by rw [Lib.cell_of_heap hk]; rfl
    have fz : ∀ j, w3.frozen? ⟨w.heap.size, j, none⟩ = false := fun j => Lib.frozen_of_heap hk j
    clear hk hb
    go_wp2
    refine bodyPost_ret (v := ftV p 3) ?_ rfl ⟨rfl, ?_⟩
    · rw [results_f1 rfl]; go_simp
    · exact (HB3.out.setCell (p := ⟨w.heap.size, 0, none⟩) (Nat.le_refl _) _).setCell (p := ⟨w.heap.size, 1, none⟩) (Nat.le_refl _) _
  | lit p k n s =>
    have ha := ta_literal_end p k n s
    have HW2 : Hid (∀ W, Calls Tryz.prog 97 #[.iface 159 (.agg #[.int .i64 p, .int .i64 k, .int .i64 n, .string s]), .int .i64 3] W fun e w' => e = .returned (ftV p 3) ∧ Below W.heap.size W w') := HW
    show Calls Tryz.prog 68 #[.iface 159 (.agg #[.int .i64 p, .int .i64 k, .int .i64 n, .string s])] w fun e w' => e = .returned (ftV p 3) ∧ Below w.heap.size w w'
    clear HW
    obtain ⟨w1, hw1⟩ : ∃ w1, w1 = w.alloc (.cells #[.int .i64 0, .int .i64 0] 83) := ⟨_, rfl⟩
    obtain ⟨w2, hw2⟩ : ∃ w2, w2 = w1.alloc (.cells #[.int .i64 0] 154) := ⟨_, rfl⟩
    have HB1 : Hid (Below w.heap.size w w1) := by show Below _ _ _; rw [hw1]; exact al_f _ _
    have hn1 : w1.heap[w.heap.size]? = some (.cells #[.int .i64 0, .int .i64 0] 83 (0, 0)) := by rw [hw1]; exact nw_at _ _
    have HB2 : Hid (Below w1.heap.size w1 w2) := by show Below _ _ _; rw [hw2]; exact al_f _ _
    have HC : Hid (∀ W, Below w2.heap.size w2 W → W.heap[w.heap.size]? = some (.cells #[.int .i64 0, .int .i64 0] 83 (0, 0))) := fun W hb => ((HB2.out.trans (hb.mono HB2.out.size)).block _ (Array.getElem?_eq_some_iff.1 hn1).1).trans hn1
    clear hn1
    go_enter Tryz.func68, Tryz.ntmps68
    go_wp2_with fail
    rw [← hw1, ← hw2]
    clear hw1 hw2
    refine (HW2.out w2).mono ?_
    rintro e w3 ⟨rfl, hb⟩
    have HB3 : Hid (Below w.heap.size w w3) := HB1.out.trans ((HB2.out.trans (hb.mono HB2.out.size)).mono HB1.out.size)
    have hk := HC.out w3 hb
    have c0 : w3.cell? ⟨w.heap.size, 0, none⟩ = some (.int .i64 0) := by rw [Lib.cell_of_heap hk]; rfl
    have c1 : w3.cell? ⟨w.heap.size, 1, none⟩ = some (.int .i64 0) := by rw [Lib.cell_of_heap hk]; rfl
    have fz : ∀ j, w3.frozen? ⟨w.heap.size, j, none⟩ = false := fun j => Lib.frozen_of_heap hk j
    clear hk hb
    go_wp2
    refine bodyPost_ret (v := ftV p 3) ?_ rfl ⟨rfl, ?_⟩
    · rw [results_f1 rfl]; go_simp
    · exact (HB3.out.setCell (p := ⟨w.heap.size, 0, none⟩) (Nat.le_refl _) _).setCell (p := ⟨w.heap.size, 1, none⟩) (Nat.le_refl _) _
  | fin p =>
    have ha := ta_end_end p
    have HW2 : Hid (∀ W, Calls Tryz.prog 97 #[.iface 154 (.agg #[.int .i64 p]), .int .i64 3] W fun e w' => e = .returned (ftV p 3) ∧ Below W.heap.size W w') := HW
    show Calls Tryz.prog 68 #[.iface 154 (.agg #[.int .i64 p])] w fun e w' => e = .returned (ftV 0 0) ∧ Below w.heap.size w w'
    clear HW
    go_enter Tryz.func68, Tryz.ntmps68
    go_wp2
    refine bodyPost_ret (v := ftV 0 0) ?_ rfl ⟨rfl, ?_⟩
    · rw [results_f1 rfl]; go_simp
    · exact ((al_f _ _).alloc (by simp) _)
/-- Can values of a kind be asked so? -/
def tkB (o k : Int) : Bool := if 4 ≤ o ∧ o ≤ 7 then decide (k ≠ 3) else if o = 8 then decide (k = 2) || decide (k = 4) else true
set_option maxRecDepth 100000 in
set_option maxHeartbeats 1000000 in
theorem takes_any (o k : Int) (w : World) : Calls Tryz.prog 112 #[.int .i64 o, .int .i64 k] w fun e w' => e = .returned (.bool (tkB o k)) ∧ w' = w := by
  by_cases h4 : o = 4
  · subst h4
    have E : tkB 4 k = decide (k ≠ 3) := rfl
    rw [E]
    by_cases k3 : k = 3
    · subst k3
      go_enter Tryz.func112, Tryz.ntmps112
      go_wp2
      go_ret
      exact ⟨rfl, rfl⟩
    · rw [decide_eq_true k3]
      go_enter Tryz.func112, Tryz.ntmps112
      go_wp2
      go_ret
      exact ⟨by simp [k3], rfl⟩
  by_cases h5 : o = 5
  · subst h5
    have E : tkB 5 k = decide (k ≠ 3) := rfl
    rw [E]
    by_cases k3 : k = 3
    · subst k3
      go_enter Tryz.func112, Tryz.ntmps112
      go_wp2
      go_ret
      exact ⟨rfl, rfl⟩
    · rw [decide_eq_true k3]
      go_enter Tryz.func112, Tryz.ntmps112
      go_wp2
      go_ret
      exact ⟨by simp [k3], rfl⟩
  by_cases h6 : o = 6
  · subst h6
    have E : tkB 6 k = decide (k ≠ 3) := rfl
    rw [E]
    by_cases k3 : k = 3
    · subst k3
      go_enter Tryz.func112, Tryz.ntmps112
      go_wp2
      go_ret
      exact ⟨rfl, rfl⟩
    · rw [decide_eq_true k3]
      go_enter Tryz.func112, Tryz.ntmps112
      go_wp2
      go_ret
      exact ⟨by simp [k3], rfl⟩
  by_cases h7 : o = 7
  · subst h7
    have E : tkB 7 k = decide (k ≠ 3) := rfl
    rw [E]
    by_cases k3 : k = 3
    · subst k3
      go_enter Tryz.func112, Tryz.ntmps112
      go_wp2
      go_ret
      exact ⟨rfl, rfl⟩
    · rw [decide_eq_true k3]
      go_enter Tryz.func112, Tryz.ntmps112
      go_wp2
      go_ret
      exact ⟨by simp [k3], rfl⟩
  by_cases h8 : o = 8
  · subst h8
    have E : tkB 8 k = (decide (k = 2) || decide (k = 4)) := rfl
    rw [E]
    by_cases k2 : k = 2
    · subst k2
      go_enter Tryz.func112, Tryz.ntmps112
      go_wp2
      go_ret
      exact ⟨rfl, rfl⟩
    · by_cases k4 : k = 4
      · subst k4
        go_enter Tryz.func112, Tryz.ntmps112
        go_wp2
        go_ret
        exact ⟨rfl, rfl⟩
      · rw [decide_eq_false k2, decide_eq_false k4]
        go_enter Tryz.func112, Tryz.ntmps112
        go_wp2
        go_ret
        exact ⟨by simp [k2, k4], rfl⟩
  have E : tkB o k = true := by unfold tkB; rw [if_neg (by omega), if_neg h8]
  rw [E]
  go_enter Tryz.func112, Tryz.ntmps112
  go_wp2
  go_ret
  exact ⟨rfl, rfl⟩
/-- The word or mark of an op. -/
def opW (k : Int) : ByteArray := if k = 2 then ⟨#[61]⟩ else if k = 3 then ⟨#[33, 61]⟩ else if k = 4 then ⟨#[60]⟩ else if k = 5 then ⟨#[60, 61]⟩ else if k = 6 then ⟨#[62]⟩ else if k = 7 then ⟨#[62, 61]⟩ else if k = 8 then ⟨#[112, 114, 101, 102, 105, 120]⟩ else ⟨#[]⟩
set_option maxRecDepth 100000 in
set_option maxHeartbeats 1000000 in
theorem opWord_any (k : Int) (w : World) : Calls Tryz.prog 111 #[.int .i64 k] w fun e w' => e = .returned (.string (opW k)) ∧ w' = w := by
  by_cases h2 : k = 2
  · subst h2
    go_enter Tryz.func111, Tryz.ntmps111
    go_wp2
    go_ret
    exact ⟨rfl, rfl⟩
  by_cases h3 : k = 3
  · subst h3
    go_enter Tryz.func111, Tryz.ntmps111
    go_wp2
    go_ret
    exact ⟨rfl, rfl⟩
  by_cases h4 : k = 4
  · subst h4
    go_enter Tryz.func111, Tryz.ntmps111
    go_wp2
    go_ret
    exact ⟨rfl, rfl⟩
  by_cases h5 : k = 5
  · subst h5
    go_enter Tryz.func111, Tryz.ntmps111
    go_wp2
    go_ret
    exact ⟨rfl, rfl⟩
  by_cases h6 : k = 6
  · subst h6
    go_enter Tryz.func111, Tryz.ntmps111
    go_wp2
    go_ret
    exact ⟨rfl, rfl⟩
  by_cases h7 : k = 7
  · subst h7
    go_enter Tryz.func111, Tryz.ntmps111
    go_wp2
    go_ret
    exact ⟨rfl, rfl⟩
  by_cases h8 : k = 8
  · subst h8
    go_enter Tryz.func111, Tryz.ntmps111
    go_wp2
    go_ret
    exact ⟨rfl, rfl⟩
  have E : opW k = ⟨#[]⟩ := by unfold opW; rw [if_neg h2, if_neg h3, if_neg h4, if_neg h5, if_neg h6, if_neg h7, if_neg h8]
  rw [E]
  go_enter Tryz.func111, Tryz.ntmps111
  go_wp2
  go_ret
  exact ⟨rfl, rfl⟩
/-- How a word or mark asks; 0: it is none. -/
def opF (s : ByteArray) : Int := if (opW 2).data.toList == s.data.toList then 2 else if (opW 3).data.toList == s.data.toList then 3 else if (opW 4).data.toList == s.data.toList then 4 else if (opW 5).data.toList == s.data.toList then 5 else if (opW 6).data.toList == s.data.toList then 6 else if (opW 7).data.toList == s.data.toList then 7 else if (opW 8).data.toList == s.data.toList then 8 else 0
end Go.Proofs.YtjamkfkbajhefaaGreatDoor.F
