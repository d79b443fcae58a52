/- name.compareRunes, Compare, Same: walks. -/
import Derived.Test.YtlndgepoekllkaaGreatDoorZk1
import Derived.Test.YtlndgepoekllkaaGreatDoorZk2
import Derived.RegionTactic
import Derived.Deep.QuietTactic
import Derived.BigQuiet
import Derived.Test.YtlndgepoekllkaaGreatDoorZk0
import Derived.Deep.RegionHeld3
import Derived.Laws.ResultCell
namespace Go.Proofs.YtlndgepoekllkaaGreatDoor
open Go.RowKit

theorem nan_any (c : Int) (w : World) :
    Calls Tryz.prog 123 #[.int .i32 c] w fun e w' => e = .returned (.bool false) ∧ w' = w := by
  go_enter Tryz.func123, Tryz.ntmps123
  go_wp2
  go_ret
  exact ⟨by simp, rfl⟩
def ordN (a b : Nat) : Int := if a < b then -1 else if b < a then 1 else 0
set_option maxHeartbeats 1000000 in
theorem cmpRune_any (a b : Nat) (w : World) :
    Calls Tryz.prog 101 #[.int .i32 (a : Nat), .int .i32 (b : Nat)] w fun e w' => e = .returned (.int .i64 (ordN a b)) ∧ w' = w := by
  by_cases h1 : a < b
  · have h1' : (a : Int) < b := by omega
    have e : ordN a b = -1 := if_pos h1
    rw [e]
    go_enter Tryz.func101, Tryz.ntmps101
    go_wp2_with (go_at_call 123; refine (nan_any _ _).mono ?_; rintro e w' ⟨rfl, rfl⟩)
    go_ret
    exact ⟨rfl, rfl⟩
  · have h1' : ¬ (a : Int) < b := by omega
    by_cases h2 : b < a
    · have h2' : (b : Int) < a := by omega
      have e : ordN a b = 1 := by rw [ordN, if_neg h1, if_pos h2]
      rw [e]
      go_enter Tryz.func101, Tryz.ntmps101
      go_wp2_with (go_at_call 123; refine (nan_any _ _).mono ?_; rintro e w' ⟨rfl, rfl⟩)
      go_ret
      exact ⟨rfl, rfl⟩
    · have h2' : ¬ (b : Int) < a := by omega
      have e : ordN a b = 0 := by rw [ordN, if_neg h1, if_neg h2]
      rw [e]
      go_enter Tryz.func101, Tryz.ntmps101
      go_wp2_with (go_at_call 123; refine (nan_any _ _).mono ?_; rintro e w' ⟨rfl, rfl⟩)
      go_ret
      exact ⟨rfl, rfl⟩

def smalls (l : List UInt8) : List Nat := (rns l).map smallN
def CrRel (a b : ByteArray) (C : Int) (w : World) (t : Value) (wr : World) : Prop :=
  ∃ (pos : Nat) (B : ByteArray), t = .string B ∧ B.size ≤ b.size ∧ wr.heap[w.heap.size]? = some (.stringIter a pos) ∧ Below w.heap.size w wr ∧ cmpR (smalls (a.data.toList.drop pos)) (smalls B.data.toList) = C
theorem dec_go (B : ByteArray) (h : B.size ≠ 0) : Lib.decodeGo B = Utf8.decode B 0 := if_neg h
theorem smalls_ne (B : ByteArray) (h : B.size ≠ 0) : smalls B.data.toList = smallN (Utf8.decode B 0).1 :: smalls ((B.extract (Utf8.decode B 0).2 B.size).data.toList) := by
  have e := rns_at B 0 (by omega)
  rw [List.drop_zero, Nat.zero_add] at e
  unfold smalls
  rw [e, List.map_cons, ext_list]
theorem smalls_nil (B : ByteArray) (h : B.size = 0) : smalls B.data.toList = [] := by
  have : B.data.toList = [] := List.eq_nil_of_length_eq_zero (by rw [Array.length_toList]; exact h)
  rw [this]
  rfl
theorem wid_le (B : ByteArray) (h : B.size ≠ 0) : (Utf8.decode B 0).2 ≤ B.size := by
  have hne : B.data.toList ≠ [] := by
    intro e
    have := congrArg List.length e
    rw [Array.length_toList] at this
    exact h this
  have h1 := Lib.decodeL_le _ hne
  have e : Lib.decodeL B.data.toList = Utf8.decode B 0 := by have := Lib.decodeL_drop B 0; rwa [List.drop_zero] at this
  rw [e, Array.length_toList] at h1
  exact h1
theorem empty_is (B : ByteArray) (h : B.size = 0) : B.toList.isEmpty = true := by
  rw [ByteArray.toList_eq]
  have : B.data.toList = [] := List.eq_nil_of_length_eq_zero (by rw [Array.length_toList]; exact h)
  rw [this]; rfl
theorem empty_not (B : ByteArray) (h : B.size ≠ 0) : B.toList.isEmpty = false := by
  rw [ByteArray.toList_eq]
  cases e : B.data.toList with
  | nil => exact absurd (by have := congrArg List.length e; rwa [Array.length_toList] at this) h
  | cons b l => rfl
theorem ext_size (B : ByteArray) (k : Nat) : (B.extract k B.size).size ≤ B.size := by rw [ByteArray.size_extract]; omega

set_option maxRecDepth 100000 in
set_option maxHeartbeats 2000000 in
theorem cmpRunes_any (a b : ByteArray) (w : World) (hT : UT w) :
    Calls Tryz.prog 82 #[.string a, .string b] w fun e w' => e = .returned (.int .i64 (cmpR (smalls a.data.toList) (smalls b.data.toList))) ∧ Below w.heap.size w w' := by
  obtain ⟨C, HC⟩ : ∃ C, Hid (cmpR (smalls a.data.toList) (smalls b.data.toList) = C) := ⟨_, rfl⟩
  rw [HC.out]
  go_enter Tryz.func82, Tryz.ntmps82
  go_wp2
  go_loopw [1] (fun t wr => CrRel a b C w t wr) (fun _ wr => a.size - wr.iterPos w.heap.size)
  case atStart =>
    refine ⟨0, b, rfl, Nat.le_refl _, ?_, (Below.refl _ _).alloc (Nat.le_refl _) _, HC.out⟩
    have := World.iter_heap w a 0
    simpa using this
  case round =>
    obtain ⟨pos, B, rfl, hB, hit, hbw, hck⟩ := hrel
    have HK : Hid (cmpR (smalls (a.data.toList.drop pos)) (smalls B.data.toList) = C) := hck
    clear hck HC
    have hsz : w.heap.size < wr.heap.size := (Array.getElem?_eq_some_iff.1 hit).1
    by_cases hp : pos < a.size
    · have hnx : ∀ ty, (Instr.next (.pointer (some ⟨w.heap.size, 0, none⟩)) true ty).run Tryz.prog wr = _ := fun ty => Lib.run_next_any_at wr w.heap.size a pos ty hit hp
      have hwd := Lib.decode_width_pos a pos hp
      have hit2 := Lib.iterAt_heap wr w.heap.size a pos (pos + (Utf8.decode a pos).2) hit
      have hbw2 := Lib.below_iterAt hbw (k := w.heap.size) (Nat.le_refl _) a (pos + (Utf8.decode a pos).2)
      have hrl := Lib.rune_le a pos
      have hrn : Hid (smalls (a.data.toList.drop pos) = smallN (Utf8.decode a pos).1 :: smalls (a.data.toList.drop (pos + (Utf8.decode a pos).2))) := by show _ = _; unfold smalls; rw [rns_at a pos hp]; rfl
      have hmeas : Hid (a.size - (pos + (Utf8.decode a pos).2) < a.size - wr.iterPos w.heap.size) := by
        show _ < _
        rw [iterPos_of hit]; omega
      generalize (Utf8.decode a pos).1 = c at *
      generalize (Utf8.decode a pos).2 = d at *
      generalize hW : wr.iterAt w.heap.size a (pos + d) = W at *
      have hmW : Hid (W.iterPos w.heap.size = pos + d) := iterPos_of hit2
      have hszW : w.heap.size < W.heap.size := (Array.getElem?_eq_some_iff.1 hit2).1
      clear hW hit hbw
      by_cases h0 : B.size = 0
      · have he := empty_is B h0
        have HR : Hid (1 = C) := by show _ = _; rw [← HK.out, hrn.out, smalls_nil B h0]; rfl
        clear HK hrn
        go_wp2_with fail
        go_ret
        exact ⟨by rw [← HR.out]; rfl, hbw2⟩
      · have he := empty_not B h0
        have hdg := dec_go B h0
        have hsn : Hid _ := smalls_ne B h0
        have hwl := wid_le B h0
        have hrb := Lib.rune_le B 0
        have hex := ext_size B (Utf8.decode B 0).2
        generalize (Utf8.decode B 0) = dc at *
        obtain ⟨x, y⟩ := dc
        simp only at hwl hrb hex
        have HK2 : Hid (cmpR (smallN c :: smalls (a.data.toList.drop (pos + d))) (smallN x :: smalls ((B.extract y B.size).data.toList)) = C) := by show _ = _; rw [← hrn.out, ← hsn.out]; exact HK.out
        clear hrn hsn HK
        go_wp2_with fail
        refine (Tryz.utf8_DecodeRuneInString B _ (Utf8Tabs_below hT hbw2)).mono ?_
        rintro e w3 ⟨rfl, hb3⟩
        rw [show (Lib.decodeGo B).1 = x by rw [hdg], show (Lib.decodeGo B).2 = y by rw [hdg]]
        have hbw3 := hbw2.trans (hb3.mono hbw2.size)
        have hit3 : Hid (w3.heap[w.heap.size]? = some (.stringIter a (pos + d))) := (hb3.block _ hszW).trans hit2
        have hmW3 : Hid (w3.iterPos w.heap.size = pos + d) := iterPos_of hit3.out
        clear hb3 hbw2 hit2 hdg
        by_cases h1 : smallN c < smallN x
        · have ho : ordN (smallN c) (smallN x) = -1 := if_pos h1
          have HR : Hid (-1 = C) := by show _ = _; rw [← HK2.out, cmpR, if_pos h1]
          clear HK2 h1
          go_wp2_with (first | (go_at_call 102; refine (small_any _ _ (by omega) (by omega)).mono ?_; rintro e w' ⟨rfl, rfl⟩; rw [smallZ_nat]) | (go_at_call 101; refine (cmpRune_any _ _ _).mono ?_; rintro e w' ⟨rfl, rfl⟩; rw [ho]))
          go_ret
          exact ⟨by rw [← HR.out]; rfl, hbw3⟩
        · by_cases h2 : smallN x < smallN c
          · have ho : ordN (smallN c) (smallN x) = 1 := by rw [ordN, if_neg h1, if_pos h2]
            have HR : Hid (1 = C) := by show _ = _; rw [← HK2.out, cmpR, if_neg h1, if_pos h2]
            clear HK2 h1 h2
            go_wp2_with (first | (go_at_call 102; refine (small_any _ _ (by omega) (by omega)).mono ?_; rintro e w' ⟨rfl, rfl⟩; rw [smallZ_nat]) | (go_at_call 101; refine (cmpRune_any _ _ _).mono ?_; rintro e w' ⟨rfl, rfl⟩; rw [ho]))
            go_ret
            exact ⟨by rw [← HR.out]; rfl, hbw3⟩
          · have ho : ordN (smallN c) (smallN x) = 0 := by rw [ordN, if_neg h1, if_neg h2]
            have HR : Hid (cmpR (smalls (a.data.toList.drop (pos + d))) (smalls ((B.extract y B.size).data.toList)) = C) := by show _ = _; rw [← HK2.out, cmpR, if_neg h1, if_neg h2]
            clear HK2 h1 h2
            go_wp2_with (first | (go_at_call 102; refine (small_any _ _ (by omega) (by omega)).mono ?_; rintro e w' ⟨rfl, rfl⟩; rw [smallZ_nat]) | (go_at_call 101; refine (cmpRune_any _ _ _).mono ?_; rintro e w' ⟨rfl, rfl⟩; rw [ho]))
            go_roundw
            case rel => exact ⟨pos + d, B.extract y B.size, rfl, by omega, hit3.out, hbw3, HR.out⟩
            case measure => rw [hmW3.out]; exact hmeas.out
    · have hnx : ∀ ty, (Instr.next (.pointer (some ⟨w.heap.size, 0, none⟩)) true ty).run Tryz.prog wr = _ := fun ty => Lib.run_next_end_at wr w.heap.size a pos ty hit hp
      have hn : smalls (a.data.toList.drop pos) = [] := by unfold smalls; rw [rns_end a pos hp]; rfl
      by_cases h0 : B.size = 0
      · have HR : Hid (0 = C) := by show _ = _; rw [← HK.out, hn, smalls_nil B h0]; rfl
        have hz : (B.size : Int) = 0 := by omega
        clear HK hn
        go_wp2_with fail
        go_ret
        exact ⟨by rw [← HR.out]; rfl, hbw⟩
      · have HR : Hid (-1 = C) := by show _ = _; rw [← HK.out, hn, smalls_ne B h0]; rfl
        have hm : min (B.size : Int) 1 = 1 := by omega
        clear HK hn
        go_wp2_with fail
        go_ret
        exact ⟨by rw [← HR.out]; rfl, hbw⟩

theorem smalls_scal (l : List UInt8) : ∀ c ∈ smalls l, scal c := by
  intro c hc
  obtain ⟨x, hx, rfl⟩ := List.mem_map.1 hc
  exact smallN_scal (rns_scal l x hx)
theorem cmpL_runes {a b : List UInt8} (ha : Lib.validD a = true) (hb : Lib.validD b = true) : cmpR (smalls a) (smalls b) = cmpL a b := by
  unfold cmpL
  rw [foldL, foldL, if_pos ha, if_pos hb]
  exact (cmp_enc _ _ (smalls_scal a) (smalls_scal b)).symm

set_option maxHeartbeats 1000000 in
theorem compare_any (a b : ByteArray) (w : World) (ha : a.size ≤ 1000000) (hb : b.size ≤ 1000000) (hT : UT w) :
    Calls Tryz.prog 55 #[.string a, .string b] w fun e w' => e = .returned (.int .i64 (cmpL a.data.toList b.data.toList)) ∧ Below w.heap.size w w' := by
  by_cases va : Lib.validD a.data.toList = true
  · by_cases vb : Lib.validD b.data.toList = true
    · have HC : Hid (cmpR (smalls a.data.toList) (smalls b.data.toList) = cmpL a.data.toList b.data.toList) := cmpL_runes va vb
      go_enter Tryz.func55, Tryz.ntmps55
      go_wp2_with fail
      refine (Tryz.utf8_ValidString a _ (by omega) hT).mono ?_
      rintro e w1 ⟨rfl, hb1⟩
      rw [va]
      go_wp2_with fail
      refine (Tryz.utf8_ValidString b _ (by omega) (Utf8Tabs_below hT hb1)).mono ?_
      rintro e w2 ⟨rfl, hb2⟩
      rw [vb]
      have hbb := hb1.trans (hb2.mono hb1.size)
      clear hb1 hb2
      go_wp2_with fail
      refine (cmpRunes_any a b _ (Utf8Tabs_below hT hbb)).mono ?_
      rintro e w3 ⟨rfl, hb3⟩
      rw [HC.out]
      have hbb3 : Hid (Below w.heap.size w w3) := hbb.trans (hb3.mono hbb.size)
      clear hbb hb3
      go_wp2
      go_ret
      exact ⟨rfl, hbb3.out⟩
    · have vb' : Lib.validD b.data.toList = false := by simpa using vb
      go_enter Tryz.func55, Tryz.ntmps55
      go_wp2_with fail
      refine (Tryz.utf8_ValidString a _ (by omega) hT).mono ?_
      rintro e w1 ⟨rfl, hb1⟩
      rw [va]
      go_wp2_with fail
      refine (Tryz.utf8_ValidString b _ (by omega) (Utf8Tabs_below hT hb1)).mono ?_
      rintro e w2 ⟨rfl, hb2⟩
      rw [vb']
      have hbb := hb1.trans (hb2.mono hb1.size)
      clear hb1 hb2
      go_wp2_with fail
      refine (fold_any a _ ha (Utf8Tabs_below hT hbb)).mono ?_
      rintro e w3 ⟨rfl, hb3⟩
      have hbb3 := hbb.trans (hb3.mono hbb.size)
      clear hbb hb3
      go_wp2_with fail
      refine (fold_any b _ hb (Utf8Tabs_below hT hbb3)).mono ?_
      rintro e w4 ⟨rfl, hb4⟩
      have hbb4 : Hid (Below w.heap.size w w4) := hbb3.trans (hb4.mono hbb3.size)
      clear hbb3 hb4
      go_wp2_with fail
      refine (Tryz.strings_Compare _ _ _).mono ?_
      rintro e w5 ⟨rfl, rfl⟩
      rw [str_data, str_data]
      go_wp2
      go_ret
      exact ⟨rfl, hbb4.out⟩
  · have va' : Lib.validD a.data.toList = false := by simpa using va
    go_enter Tryz.func55, Tryz.ntmps55
    go_wp2_with fail
    refine (Tryz.utf8_ValidString a _ (by omega) hT).mono ?_
    rintro e w1 ⟨rfl, hbb⟩
    rw [va']
    go_wp2_with fail
    refine (fold_any a _ ha (Utf8Tabs_below hT hbb)).mono ?_
    rintro e w3 ⟨rfl, hb3⟩
    have hbb3 := hbb.trans (hb3.mono hbb.size)
    clear hbb hb3
    go_wp2_with fail
    refine (fold_any b _ hb (Utf8Tabs_below hT hbb3)).mono ?_
    rintro e w4 ⟨rfl, hb4⟩
    have hbb4 : Hid (Below w.heap.size w w4) := hbb3.trans (hb4.mono hbb3.size)
    clear hbb3 hb4
    go_wp2_with fail
    refine (Tryz.strings_Compare _ _ _).mono ?_
    rintro e w5 ⟨rfl, rfl⟩
    rw [str_data, str_data]
    go_wp2
    go_ret
    exact ⟨rfl, hbb4.out⟩

theorem cb_zero : ∀ (a b : List UInt8), Lib.compareBytes a b = 0 → a = b
  | [], [] => fun _ => rfl
  | [], b :: l => by simp [Lib.compareBytes]
  | a :: k, [] => by simp [Lib.compareBytes]
  | a :: k, b :: l => by
    simp only [Lib.compareBytes]
    split
    · intro h; cases h
    split
    · intro h; cases h
    · rename_i h1 h2
      intro h
      have e : a = b := UInt8.le_antisymm (UInt8.not_lt.1 h2) (UInt8.not_lt.1 h1)
      rw [e, cb_zero k l h]
theorem cb_self : ∀ l : List UInt8, Lib.compareBytes l l = 0
  | [] => rfl
  | b :: l => by simp [Lib.compareBytes, cb_self l]
theorem cmp_same (a b : List UInt8) : (cmpL a b == 0) = sameL a b := by
  rw [Bool.eq_iff_iff, beq_iff_eq, sameL, decide_eq_true_eq]
  exact ⟨cb_zero _ _, fun h => by unfold cmpL; rw [h]; exact cb_self _⟩
set_option maxHeartbeats 1000000 in
theorem same_any (a b : ByteArray) (w : World) (ha : a.size ≤ 1000000) (hb : b.size ≤ 1000000) (hT : UT w) :
    Calls Tryz.prog 107 #[.string a, .string b] w fun e w' => e = .returned (.bool (sameL a.data.toList b.data.toList)) ∧ Below w.heap.size w w' := by
  by_cases h : a = b
  · subst h
    have e : sameL a.data.toList a.data.toList = true := by simp [sameL]
    rw [e]
    have e2 : (a.toList == a.toList) = true := beq_self_eq_true _
    go_enter Tryz.func107, Tryz.ntmps107
    go_wp2
    go_ret
    exact ⟨rfl, Below.refl _ _⟩
  · have e2 : (a.toList == b.toList) = false := by
      rw [beq_eq_false_iff_ne, ByteArray.toList_eq, ByteArray.toList_eq]
      exact fun e => h (ba_eq e)
    have HS : Hid ((cmpL a.data.toList b.data.toList == 0) = sameL a.data.toList b.data.toList) := cmp_same _ _
    go_enter Tryz.func107, Tryz.ntmps107
    go_wp2_with fail
    refine (compare_any a b _ ha hb hT).mono ?_
    rintro e w1 ⟨rfl, hb1⟩
    go_wp2
    go_ret
    exact ⟨by rw [← HS.out]; rfl, hb1⟩
end Go.Proofs.YtlndgepoekllkaaGreatDoor
/- Fields and attributes, plainly; schema.onePart, mayBe, byName: walks. -/
namespace Go.Proofs.YtlndgepoekllkaaGreatDoor
open Go.RowKit

/-- A field. -/
structure Fd where
  n : ByteArray
  k : Int
  m : Bool
/-- An attribute. -/
structure At where
  n : ByteArray
  k : Int
  v : Int
  s : ByteArray
def enF (x : Fd) : List Value := [.string x.n, .int .i64 x.k, .bool x.m]
abbrev fV (x : Fd) : Value := .agg #[.string x.n, .int .i64 x.k, .bool x.m]
/-- Is a text a name of one part? -/
def oneP (s : ByteArray) : Bool := decide (checkL s.data.toList = 0) && decide ((cutB s.data.toList).length = 1)
def mayF (x : Fd) : Bool := decide (1 ≤ x.k) && (decide (x.k < 5) && oneP x.n)
set_option maxRecDepth 100000 in
theorem onePart_any (s : ByteArray) (w : World) (hs : s.size ≤ 1000000) (hM : ML w) :
    Calls Tryz.prog 87 #[.string s] w fun e w' => e = .returned (.bool (oneP s)) ∧ Below w.heap.size w w' := by
  by_cases hc : checkL s.data.toList = 0
  · have e0 : oneP s = decide ((cutB s.data.toList).length = 1) := by unfold oneP; rw [decide_eq_true hc, Bool.true_and]
    rw [e0]
    have HP : Hid (Calls Tryz.prog 106 #[.string s] w fun e w' => PaPost (cutB s.data.toList) w e w') := parts_ok s w hs hM hc
    clear e0
    generalize cutB s.data.toList = L at *
    go_enter Tryz.func87, Tryz.ntmps87
    go_wp2_with fail
    refine HP.out.mono ?_
    rintro e w1 ⟨v, rfl, hr, hb⟩
    obtain ⟨a, cap, rfl⟩ := hr.form
    have HB : Hid (Below w.heap.size w w1) := hb
    have HE : Hid (((L.length : Int) == 1) = decide (L.length = 1)) := by show _ = _; rw [Bool.eq_iff_iff]; simp; omega
    clear hr hb
    go_wp2
    go_ret
    exact ⟨by rw [← HE.out]; rfl, HB.out⟩
  · have e0 : oneP s = false := by unfold oneP; rw [decide_eq_false hc, Bool.false_and]
    rw [e0]
    go_enter Tryz.func87, Tryz.ntmps87
    go_wp2_with fail
    refine (parts_no s _ hs hc).mono ?_
    rintro e w1 ⟨rfl, hb⟩
    have HB : Hid (Below w.heap.size w w1) := hb
    clear hb
    go_wp2
    go_ret
    exact ⟨rfl, HB.out⟩
theorem al_b (w : World) (o : Obj) : Below w.heap.size w (w.alloc o) := (Below.refl _ _).alloc (Nat.le_refl _) o
set_option maxRecDepth 100000 in
theorem mayBe_any (x : Fd) (w : World) (hs : x.n.size ≤ 1000000) (hM : ML w) :
    Calls Tryz.prog 61 #[fV x] w fun e w' => e = .returned (.bool (mayF x)) ∧ Below w.heap.size w w' := by
  obtain ⟨s, k, m⟩ := x
  have hA := al_b w (.cells #[.string s, .int .i64 k, .bool m] 94)
  have HP := onePart_any s (w.alloc (.cells #[.string s, .int .i64 k, .bool m] 94)) hs (ML_below hM hA)
  have HPh : Hid (Calls Tryz.prog 87 #[.string s] (w.alloc (.cells #[.string s, .int .i64 k, .bool m] 94)) fun e w' => e = .returned (.bool (oneP s)) ∧ Below (w.alloc (.cells #[.string s, .int .i64 k, .bool m] 94)).heap.size (w.alloc (.cells #[.string s, .int .i64 k, .bool m] 94)) w') := HP
  have HA : Hid (Below w.heap.size w (w.alloc (.cells #[.string s, .int .i64 k, .bool m] 94))) := hA
  clear HP hA
  show Calls _ _ _ _ fun e w' => e = .returned (.bool (decide (1 ≤ k) && (decide (k < 5) && oneP s))) ∧ _
  by_cases h1 : 1 ≤ k
  · by_cases h5 : k < 5
    · rw [decide_eq_true h1, decide_eq_true h5, Bool.true_and, Bool.true_and]
      go_enter Tryz.func61, Tryz.ntmps61
      go_wp2_with fail
      refine HPh.out.mono ?_
      rintro e w1 ⟨rfl, hb⟩
      have HB : Hid (Below w.heap.size w w1) := HA.out.trans (hb.mono HA.out.size)
      clear hb
      go_wp2
      go_ret
      exact ⟨rfl, HB.out⟩
    · rw [decide_eq_true h1, decide_eq_false h5, Bool.true_and, Bool.false_and]
      go_enter Tryz.func61, Tryz.ntmps61
      go_wp2
      go_ret
      exact ⟨rfl, HA.out⟩
  · rw [decide_eq_false h1, Bool.false_and]
    go_enter Tryz.func61, Tryz.ntmps61
    go_wp2
    go_ret
    exact ⟨rfl, HA.out⟩
set_option maxRecDepth 100000 in
theorem byName_any (x y : Fd) (w : World) (hx : x.n.size ≤ 1000000) (hy : y.n.size ≤ 1000000) (hT : UT w) :
    Calls Tryz.prog 62 #[fV x, fV y] w fun e w' => e = .returned (.int .i64 (cmpL x.n.data.toList y.n.data.toList)) ∧ Below w.heap.size w w' := by
  obtain ⟨s, k, m⟩ := x
  obtain ⟨s', k', m'⟩ := y
  have hA := (al_b w (.cells #[.string s, .int .i64 k, .bool m] 94)).trans ((al_b (w.alloc (.cells #[.string s, .int .i64 k, .bool m] 94)) (.cells #[.string s', .int .i64 k', .bool m'] 94)).mono (al_b w _).size)
  have HC : Hid (Calls Tryz.prog 55 #[.string s, .string s'] ((w.alloc (.cells #[.string s, .int .i64 k, .bool m] 94)).alloc (.cells #[.string s', .int .i64 k', .bool m'] 94)) fun e w' => e = .returned (.int .i64 (cmpL s.data.toList s'.data.toList)) ∧ Below ((w.alloc (.cells #[.string s, .int .i64 k, .bool m] 94)).alloc (.cells #[.string s', .int .i64 k', .bool m'] 94)).heap.size ((w.alloc (.cells #[.string s, .int .i64 k, .bool m] 94)).alloc (.cells #[.string s', .int .i64 k', .bool m'] 94)) w') :=
    compare_any s s' _ hx hy (Utf8Tabs_below hT hA)
  have HA : Hid (Below w.heap.size w ((w.alloc (.cells #[.string s, .int .i64 k, .bool m] 94)).alloc (.cells #[.string s', .int .i64 k', .bool m'] 94))) := hA
  clear hA
  show Calls _ _ _ _ fun e w' => e = .returned (.int .i64 (cmpL s.data.toList s'.data.toList)) ∧ _
  generalize cmpL s.data.toList s'.data.toList = c at *
  go_enter Tryz.func62, Tryz.ntmps62
  go_wp2_with fail
  refine HC.out.mono ?_
  rintro e w1 ⟨rfl, hb⟩
  have HB : Hid (Below w.heap.size w w1) := HA.out.trans (hb.mono HA.out.size)
  clear hb
  go_wp2
  go_ret
  exact ⟨rfl, HB.out⟩
end Go.Proofs.YtlndgepoekllkaaGreatDoor
/- value.Check: its walk, beside the names (VH over again). -/
namespace Go.Proofs.YtlndgepoekllkaaGreatDoor
open Go.RowKit

/-- May it be? -/
def chkV (k n : Int) (s : ByteArray) : Bool :=
  if k = 1 then decide (s.size = 0) && decide (-9007199254740991 ≤ n ∧ n ≤ 9007199254740991)
  else if k = 2 then decide (n = 0) && (decide (s.size ≤ 200) && Lib.validD s.data.toList)
  else if k = 3 then decide (s.size = 0) && decide (n = 0 ∨ n = 1)
  else if k = 4 then decide (n = 0) && decide (s.size ≤ 200)
  else false
end Go.Proofs.YtlndgepoekllkaaGreatDoor
/- schema.Check: its walk. -/
namespace Go.Proofs.YtlndgepoekllkaaGreatDoor
open Go.RowKit

def fCells (l : List Fd) : List Value := l.flatMap enF
theorem fCells_len (l : List Fd) : (fCells l).length = l.length * 3 := by
  induction l with
  | nil => rfl
  | cons d D ih => rw [fCells, List.flatMap_cons, List.length_append, List.length_cons]; rw [fCells] at ih; rw [ih]; show 3 + _ = _; omega
theorem fCells_get : ∀ (l : List Fd) (k : Nat) (h : k < l.length) (i : Nat), i < 3 → (fCells l)[k * 3 + i]? = (enF l[k])[i]?
  | [], k, h, _, _ => absurd h (by simp)
  | d :: D, 0, _, i, hi => by
    rw [fCells, List.flatMap_cons, Nat.zero_mul, Nat.zero_add, List.getElem?_append_left (by show i < 3; exact hi)]
    rfl
  | d :: D, k + 1, h, i, hi => by
    have z : (enF d).length = 3 := rfl
    rw [fCells, List.flatMap_cons, List.getElem?_append_right (by omega), show (k + 1) * 3 + i - (enF d).length = k * 3 + i by omega]
    have := fCells_get D k (by simpa using h) i hi
    rw [fCells] at this
    rw [this]
    rfl
theorem f_at {w : World} {a : Option Addr} {cap : Nat} {l : List Fd} (h : IsRow w 3 (.slice a l.length cap) l.length (fCells l)) (h0 : 0 < l.length) :
    ∃ b off, a = some ⟨b, off, none⟩ ∧ b < w.heap.size ∧ l.length ≤ cap ∧ ∀ (k : Nat) (hk : k < l.length), w.cell? ⟨b, off + k * 3, none⟩ = some (.string l[k].n) ∧ w.cell? ⟨b, off + k * 3 + 1, none⟩ = some (.int .i64 l[k].k) ∧ w.cell? ⟨b, off + k * 3 + 2, none⟩ = some (.bool l[k].m) := by
  obtain ⟨b, off, cap', hv, hlt, q1, q2, hc⟩ := h.open (by omega)
  simp only [Value.slice.injEq] at hv
  refine ⟨b, off, hv.1, hlt, by omega, fun k hk => ⟨?_, ?_, ?_⟩⟩
  · have := hc (k * 3) (.string l[k].n) (by have := fCells_get l k hk 0 (by omega); rw [Nat.add_zero] at this; rw [this]; rfl)
    simpa using this
  · have := hc (k * 3 + 1) (.int .i64 l[k].k) (by rw [fCells_get l k hk 1 (by omega)]; rfl)
    rwa [← Nat.add_assoc] at this
  · have := hc (k * 3 + 2) (.bool l[k].m) (by rw [fCells_get l k hk 2 (by omega)]; rfl)
    rwa [← Nat.add_assoc] at this
/-- May the field at a place be there? -/
def okF (l : List Fd) (k : Nat) (h : k < l.length) : Prop := mayF l[k] = true ∧ ∀ (j : Nat) (e : j + 1 = k), cmpL (l[j]'(by omega)).n.data.toList l[k].n.data.toList < 0
instance (l : List Fd) (k : Nat) (h : k < l.length) : Decidable (okF l k h) := by
  unfold okF
  cases k with
  | zero => exact decidable_of_iff (mayF l[0] = true) ⟨fun h => ⟨h, fun j e => absurd e (by omega)⟩, fun h => h.1⟩
  | succ k => exact decidable_of_iff (mayF l[k + 1] = true ∧ cmpL (l[k]'(by omega)).n.data.toList l[k + 1].n.data.toList < 0) ⟨fun h => ⟨h.1, fun j e => by cases e; exact h.2⟩, fun h => ⟨h.1, h.2 k rfl⟩⟩
def chkF (l : List Fd) : Bool := decide (l.length ≤ 24) && decide (∀ (k : Nat) (h : k < l.length), okF l k h)
/-- Names are not too long to be looked at. -/
def NmF (l : List Fd) : Prop := ∀ x ∈ l, x.n.size ≤ 1000000
abbrev CK (nb b o : Nat) (x y : Fd) (w0 w : World) : Prop := w.cell? ⟨nb, 0, none⟩ = some (.string x.n) ∧ w.cell? ⟨nb, 1, none⟩ = some (.int .i64 x.k) ∧ w.cell? ⟨nb, 2, none⟩ = some (.bool x.m) ∧ nb < w.heap.size ∧
  w.cell? ⟨b, o, none⟩ = some (.string y.n) ∧ w.cell? ⟨b, o + 1, none⟩ = some (.int .i64 y.k) ∧ w.cell? ⟨b, o + 2, none⟩ = some (.bool y.m) ∧ b < w.heap.size ∧ Below w0.heap.size w0 w
theorem CK_drew {nb b o : Nat} {x y : Fd} {w0 W : World} (h : CK nb b o x y w0 W) : CK nb b o x y w0 W.drew := ⟨h.1, h.2.1, h.2.2.1, h.2.2.2.1, h.2.2.2.2.1, h.2.2.2.2.2.1, h.2.2.2.2.2.2.1, h.2.2.2.2.2.2.2.1, h.2.2.2.2.2.2.2.2.drew⟩
theorem CK_call {nb b o : Nat} {x y : Fd} {w0 W w' : World} (hb : Below W.heap.size W w') (h : CK nb b o x y w0 W) : CK nb b o x y w0 w' := by
  obtain ⟨a0, a1, a2, l1, c0, c1, c2, l2, B⟩ := h
  exact ⟨(hb.cell (p := ⟨nb, 0, none⟩) l1).trans a0, (hb.cell (p := ⟨nb, 1, none⟩) l1).trans a1, (hb.cell (p := ⟨nb, 2, none⟩) l1).trans a2, Nat.lt_of_lt_of_le l1 hb.size, (hb.cell (p := ⟨b, o, none⟩) l2).trans c0, (hb.cell (p := ⟨b, o + 1, none⟩) l2).trans c1, (hb.cell (p := ⟨b, o + 2, none⟩) l2).trans c2, Nat.lt_of_lt_of_le l2 hb.size, B.trans (hb.mono B.size)⟩
theorem CK_b {nb b o : Nat} {x y : Fd} {w0 W : World} (h : CK nb b o x y w0 W) : Below w0.heap.size w0 W := h.2.2.2.2.2.2.2.2
theorem CK_new {b o : Nat} {x y : Fd} {w0 W : World} {t : TypeId} (hB : Below w0.heap.size w0 W) (hlt : b < W.heap.size) (c0 : W.cell? ⟨b, o, none⟩ = some (.string y.n)) (c1 : W.cell? ⟨b, o + 1, none⟩ = some (.int .i64 y.k)) (c2 : W.cell? ⟨b, o + 2, none⟩ = some (.bool y.m)) :
    CK W.heap.size b o x y w0 (W.alloc (.cells #[.string x.n, .int .i64 x.k, .bool x.m] t)) := by
  have hb := al_b W (.cells #[.string x.n, .int .i64 x.k, .bool x.m] t)
  exact ⟨by simp, by simp, by simp, by simp, (hb.cell (p := ⟨b, o, none⟩) hlt).trans c0, (hb.cell (p := ⟨b, o + 1, none⟩) hlt).trans c1, (hb.cell (p := ⟨b, o + 2, none⟩) hlt).trans c2, Nat.lt_of_lt_of_le hlt hb.size, hB.trans (hb.mono hB.size)⟩
theorem chkF_no {l : List Fd} {k : Nat} (h : k < l.length) (hn : ¬ okF l k h) : chkF l = false := by
  unfold chkF
  rw [Bool.and_eq_false_iff]
  right
  rw [decide_eq_false_iff_not]
  exact fun hh => hn (hh k h)
set_option maxRecDepth 100000 in
set_option maxHeartbeats 2000000 in
theorem checkF_any (v : Value) (l : List Fd) (w : World) (hr : IsRow w 3 v l.length (fCells l)) (hl : l.length ≤ 1000000) (hn : NmF l) (hT : UT w) (hM : ML w) :
    Calls Tryz.prog 34 #[v] w fun e w' => e = .returned (.bool (chkF l)) ∧ Below w.heap.size w w' := by
  obtain ⟨a0, cap0, rfl⟩ := hr.form
  have HR : Hid (IsRow w 3 (.slice a0 l.length cap0) l.length (fCells l)) := hr
  clear hr
  by_cases h24 : l.length ≤ 24
  rotate_left
  · have e0 : chkF l = false := by unfold chkF; rw [decide_eq_false h24, Bool.false_and]
    have d24 : decide ((24 : Int) < (l.length : Int)) = true := by simp; omega
    rw [e0]
    go_enter Tryz.func34, Tryz.ntmps34
    go_wp2
    go_ret
    exact ⟨rfl, Below.refl _ _⟩
  have d24 : decide ((24 : Int) < (l.length : Int)) = false := by simp; omega
  have HK : Hid (∀ (k : Nat) (h : k < l.length) (w' : World), ML w' → Calls Tryz.prog 61 #[fV l[k]] w' fun e w'' => e = .returned (.bool (mayF l[k])) ∧ Below w'.heap.size w' w'') := fun k h w' h' => mayBe_any _ w' (hn _ (List.getElem_mem h)) h'
  have HC : Hid (∀ (j k : Nat) (h1 : j < l.length) (h : k < l.length) (w' : World), UT w' → Calls Tryz.prog 62 #[fV l[j], fV l[k]] w' fun e w'' => e = .returned (.int .i64 (cmpL l[j].n.data.toList l[k].n.data.toList)) ∧ Below w'.heap.size w' w'') := fun j k h1 h w' h' => byName_any _ _ w' (hn _ (List.getElem_mem h1)) (hn _ (List.getElem_mem h)) h'
  have HT : Hid (∀ w', Below w.heap.size w w' → UT w') := fun w' h => Utf8Tabs_below hT h
  have HM : Hid (∀ w', Below w.heap.size w w' → ML w') := fun w' h => ML_below hM h
  clear hT hM hn
  go_enter Tryz.func34, Tryz.ntmps34
  go_wp2_with fail
  go_loopw [2, 10] (fun r i wr => r = .bool false ∧ ∃ k : Nat, k ≤ l.length ∧ i = .int .i64 (k : Int) ∧ Hid (∀ (j : Nat) (h : j < l.length), j < k → okF l j h) ∧ Below w.heap.size w wr) (fun _ i _ => l.length - (intOf i).toNat)
  case atStart => exact ⟨rfl, 0, Nat.zero_le _, rfl, fun j h hj => absurd hj (Nat.not_lt_zero _), Below.refl _ _⟩
  case round =>
    obtain ⟨rfl, k, hk, rfl, HO, hB⟩ := hrel
    by_cases hlk : k < l.length
    · have dk : decide ((k : Int) < l.length) = true := by simp; omega
      obtain ⟨b, off, rfl, hlt, hcap, hc⟩ := f_at (HR.out.below hB) (by omega)
      obtain ⟨ck0, ck1, ck2⟩ := hc k hlk
      have hAl := al_b wr (.cells #[.string l[k].n, .int .i64 l[k].k, .bool l[k].m] 94)
      have HMk : Hid (∀ w', Below w.heap.size w w' → Calls Tryz.prog 61 #[fV l[k]] w' fun e w'' => e = .returned (.bool (mayF l[k])) ∧ Below w'.heap.size w' w'') := fun w' h => HK.out k hlk w' (HM.out w' h)
      cases k with
      | zero =>
        rw [Nat.zero_mul, Nat.add_zero] at ck0 ck1 ck2
        have hS : CK wr.heap.size b off l[0] l[0] w (wr.alloc (.cells #[.string l[0].n, .int .i64 l[0].k, .bool l[0].m] 94)) :=
          CK_new hB hlt ck0 ck1 ck2
        have hok : okF l 0 hlk ↔ mayF l[0] = true := ⟨fun h => h.1, fun h => ⟨h, fun j e => absurd e (by omega)⟩⟩
        have HO2 : Hid (mayF l[0] = true → ∀ (j : Nat) (h : j < l.length), j < 0 + 1 → okF l j h) := fun hm j h hj => by
          obtain rfl : j = 0 := by omega
          exact hok.2 hm
        have HNo : Hid (mayF l[0] = false → chkF l = false) := fun hm => chkF_no (k := 0) hlk fun h => by rw [hok.1 h] at hm; cases hm
        generalize mayF l[0] = r at *
        generalize l[0]'hlk = x at *
        obtain ⟨s, kk, m⟩ := x
        clear hok hc HO hAl
        have dk0 : decide ((0 : Int) < (l.length : Int)) = true := decide_eq_true (by omega)
        cases r with
        | false =>
          go_wp2_with fail
          generalize wr.alloc (.cells #[.string s, .int .i64 kk, .bool m] 94) = W at *
          refine wp_region_quiet (C := fun w' => CK wr.heap.size b off ⟨s, kk, m⟩ ⟨s, kk, m⟩ w w') (by kernel_rfl) (by kernel_rfl) (CK_drew hS) ?_
          dsimp only
          repeat (first
            | go_big_quiet_skip
            | (go_big_quiet_want
               apply Exists.intro
               refine ⟨fun W' hW' => ?_, ?_⟩
               · have hW2 : CK wr.heap.size b off ⟨s, kk, m⟩ ⟨s, kk, m⟩ w W' := hW'
                 obtain ⟨g0, g1, g2, -, g3, g4, g5, -, -⟩ := hW2
                 go_simp
                 first
                   | done
                   | rfl
                   | (go_at_call 61; refine (HMk.out W' (CK_b hW')).mono ?_; rintro e w'' ⟨rfl, hb⟩; exact ⟨rfl, CK_call hb hW'⟩)
                   | (go_at_call 62; refine (HCk.out W' (CK_b hW')).mono ?_; rintro e w'' ⟨rfl, hb⟩; exact ⟨rfl, CK_call hb hW'⟩)
               go_big_quiet_on
               try simp only [Act.put, List.setIfInBounds_toArray, List.set_cons_zero, List.set_cons_succ]))
          refine wpQuiet_nil ?_
          intro w2 hS2'
          have hS2 : CK wr.heap.size b off ⟨s, kk, m⟩ ⟨s, kk, m⟩ w w2 := hS2'
          have HBB : Hid (Below w.heap.size w _) := CK_b hS2
          clear hS hS2 hS2'
          go_wp2
          go_ret
          exact ⟨by rw [HNo.out (by trivial)]; rfl, HBB.out⟩
        | true =>
          go_wp2_with fail
          generalize wr.alloc (.cells #[.string s, .int .i64 kk, .bool m] 94) = W at *
          refine wp_region_quiet (C := fun w' => CK wr.heap.size b off ⟨s, kk, m⟩ ⟨s, kk, m⟩ w w') (by kernel_rfl) (by kernel_rfl) (CK_drew hS) ?_
          dsimp only
          repeat (first
            | go_big_quiet_skip
            | (go_big_quiet_want
               apply Exists.intro
               refine ⟨fun W' hW' => ?_, ?_⟩
               · have hW2 : CK wr.heap.size b off ⟨s, kk, m⟩ ⟨s, kk, m⟩ w W' := hW'
                 obtain ⟨g0, g1, g2, -, g3, g4, g5, -, -⟩ := hW2
                 go_simp
                 first
                   | done
                   | rfl
                   | (go_at_call 61; refine (HMk.out W' (CK_b hW')).mono ?_; rintro e w'' ⟨rfl, hb⟩; exact ⟨rfl, CK_call hb hW'⟩)
                   | (go_at_call 62; refine (HCk.out W' (CK_b hW')).mono ?_; rintro e w'' ⟨rfl, hb⟩; exact ⟨rfl, CK_call hb hW'⟩)
               go_big_quiet_on
               try simp only [Act.put, List.setIfInBounds_toArray, List.set_cons_zero, List.set_cons_succ]))
          refine wpQuiet_nil ?_
          intro w2 hS2'
          have hS2 : CK wr.heap.size b off ⟨s, kk, m⟩ ⟨s, kk, m⟩ w w2 := hS2'
          have HBB : Hid (Below w.heap.size w _) := CK_b hS2
          clear hS hS2 hS2'
          go_wp2
          go_roundw
          case rel => exact ⟨rfl, 0 + 1, by omega, by simp, HO2.out (by trivial), HBB.out⟩
          case measure => simp [intOf]; omega
      | succ j =>
        have hj : j < l.length := by omega
        obtain ⟨cj0, cj1, cj2⟩ := hc j hj
        have hS : CK wr.heap.size b (off + j * 3) l[j + 1] l[j] w (wr.alloc (.cells #[.string l[j + 1].n, .int .i64 l[j + 1].k, .bool l[j + 1].m] 94)) :=
          CK_new hB hlt cj0 cj1 cj2
        have HCk : Hid (∀ w', Below w.heap.size w w' → Calls Tryz.prog 62 #[fV l[j], fV l[j + 1]] w' fun e w'' => e = .returned (.int .i64 (cmpL l[j].n.data.toList l[j + 1].n.data.toList)) ∧ Below w'.heap.size w' w'') := fun w' h => HC.out j (j + 1) hj hlk w' (HT.out w' h)
        have hok : okF l (j + 1) hlk ↔ mayF l[j + 1] = true ∧ cmpL l[j].n.data.toList l[j + 1].n.data.toList < 0 := ⟨fun h => ⟨h.1, h.2 j rfl⟩, fun h => ⟨h.1, fun i e => by cases e; exact h.2⟩⟩
        have HO2 : Hid (mayF l[j + 1] = true → cmpL l[j].n.data.toList l[j + 1].n.data.toList < 0 → ∀ (i : Nat) (h : i < l.length), i < j + 1 + 1 → okF l i h) := fun hm hm2 i h hi => by
          by_cases e : i = j + 1
          · subst e; exact hok.2 ⟨hm, hm2⟩
          · exact HO.out i h (by omega)
        have HNo : Hid (mayF l[j + 1] = false ∨ ¬ cmpL l[j].n.data.toList l[j + 1].n.data.toList < 0 → chkF l = false) := fun hm => chkF_no (k := j + 1) hlk fun h => by
          rcases hm with hm | hm
          · rw [(hok.1 h).1] at hm; cases hm
          · exact hm (hok.1 h).2
        generalize mayF l[j + 1] = r at *
        generalize cmpL l[j].n.data.toList l[j + 1].n.data.toList = c at *
        generalize l[j + 1]'hlk = x at *
        generalize l[j]'hj = y at *
        obtain ⟨s, kk, m⟩ := x
        obtain ⟨s', kk', m'⟩ := y
        clear hok hc HO hAl
        have q1 : IntKind.i64.wrap (j : Int) = (j : Int) := by rw [IntKind.wrap_i64]; omega
        have q2 : (0 : Int) ≤ (j : Int) := by omega
        have q3 : (j : Int) < (l.length : Int) := by omega
        have q4 : (j : Int) + 1 - 1 = (j : Int) := by omega
        have q5 : decide ((0 : Int) < (j : Int) + 1) = true := decide_eq_true (by omega)
        cases r with
        | false =>
          go_wp2_with fail
          generalize wr.alloc (.cells #[.string s, .int .i64 kk, .bool m] 94) = W at *
          refine wp_region_quiet (C := fun w' => CK wr.heap.size b (off + j * 3) ⟨s, kk, m⟩ ⟨s', kk', m'⟩ w w') (by kernel_rfl) (by kernel_rfl) (CK_drew hS) ?_
          dsimp only
          repeat (first
            | go_big_quiet_skip
            | (go_big_quiet_want
               apply Exists.intro
               refine ⟨fun W' hW' => ?_, ?_⟩
               · have hW2 : CK wr.heap.size b (off + j * 3) ⟨s, kk, m⟩ ⟨s', kk', m'⟩ w W' := hW'
                 obtain ⟨g0, g1, g2, -, g3, g4, g5, -, -⟩ := hW2
                 go_simp
                 first
                   | done
                   | rfl
                   | (go_at_call 61; refine (HMk.out W' (CK_b hW')).mono ?_; rintro e w'' ⟨rfl, hb⟩; exact ⟨rfl, CK_call hb hW'⟩)
                   | (go_at_call 62; refine (HCk.out W' (CK_b hW')).mono ?_; rintro e w'' ⟨rfl, hb⟩; exact ⟨rfl, CK_call hb hW'⟩)
               go_big_quiet_on
               try simp only [Act.put, List.setIfInBounds_toArray, List.set_cons_zero, List.set_cons_succ]))
          refine wpQuiet_nil ?_
          intro w2 hS2'
          have hS2 : CK wr.heap.size b (off + j * 3) ⟨s, kk, m⟩ ⟨s', kk', m'⟩ w w2 := hS2'
          have HBB : Hid (Below w.heap.size w _) := CK_b hS2
          clear hS hS2 hS2'
          go_wp2
          go_ret
          exact ⟨by rw [HNo.out (.inl (by trivial))]; rfl, HBB.out⟩
        | true =>
          by_cases hc0 : c < 0
          · have q6 : decide ((0 : Int) ≤ c) = false := by simp; omega
            go_wp2_with fail
            generalize wr.alloc (.cells #[.string s, .int .i64 kk, .bool m] 94) = W at *
            refine wp_region_quiet (C := fun w' => CK wr.heap.size b (off + j * 3) ⟨s, kk, m⟩ ⟨s', kk', m'⟩ w w') (by kernel_rfl) (by kernel_rfl) (CK_drew hS) ?_
            dsimp only
            repeat (first
              | go_big_quiet_skip
              | (go_big_quiet_want
                 apply Exists.intro
                 refine ⟨fun W' hW' => ?_, ?_⟩
                 · have hW2 : CK wr.heap.size b (off + j * 3) ⟨s, kk, m⟩ ⟨s', kk', m'⟩ w W' := hW'
                   obtain ⟨g0, g1, g2, -, g3, g4, g5, -, -⟩ := hW2
                   go_simp
                   first
                     | done
                     | rfl
                     | (go_at_call 61; refine (HMk.out W' (CK_b hW')).mono ?_; rintro e w'' ⟨rfl, hb⟩; exact ⟨rfl, CK_call hb hW'⟩)
                     | (go_at_call 62; refine (HCk.out W' (CK_b hW')).mono ?_; rintro e w'' ⟨rfl, hb⟩; exact ⟨rfl, CK_call hb hW'⟩)
                 go_big_quiet_on
                 try simp only [Act.put, List.setIfInBounds_toArray, List.set_cons_zero, List.set_cons_succ]))
            refine wpQuiet_nil ?_
            intro w2 hS2'
            have hS2 : CK wr.heap.size b (off + j * 3) ⟨s, kk, m⟩ ⟨s', kk', m'⟩ w w2 := hS2'
            have HBB : Hid (Below w.heap.size w _) := CK_b hS2
            clear hS hS2 hS2'
            go_wp2
            go_roundw
            case rel => exact ⟨rfl, j + 1 + 1, by omega, by simp, HO2.out (by trivial) hc0, HBB.out⟩
            case measure => simp [intOf]; omega
          · have q6 : decide ((0 : Int) ≤ c) = true := by simp; omega
            go_wp2_with fail
            generalize wr.alloc (.cells #[.string s, .int .i64 kk, .bool m] 94) = W at *
            refine wp_region_quiet (C := fun w' => CK wr.heap.size b (off + j * 3) ⟨s, kk, m⟩ ⟨s', kk', m'⟩ w w') (by kernel_rfl) (by kernel_rfl) (CK_drew hS) ?_
            dsimp only
            repeat (first
              | go_big_quiet_skip
              | (go_big_quiet_want
                 apply Exists.intro
                 refine ⟨fun W' hW' => ?_, ?_⟩
                 · have hW2 : CK wr.heap.size b (off + j * 3) ⟨s, kk, m⟩ ⟨s', kk', m'⟩ w W' := hW'
                   obtain ⟨g0, g1, g2, -, g3, g4, g5, -, -⟩ := hW2
                   go_simp
                   first
                     | done
                     | rfl
                     | (go_at_call 61; refine (HMk.out W' (CK_b hW')).mono ?_; rintro e w'' ⟨rfl, hb⟩; exact ⟨rfl, CK_call hb hW'⟩)
                     | (go_at_call 62; refine (HCk.out W' (CK_b hW')).mono ?_; rintro e w'' ⟨rfl, hb⟩; exact ⟨rfl, CK_call hb hW'⟩)
                 go_big_quiet_on
                 try simp only [Act.put, List.setIfInBounds_toArray, List.set_cons_zero, List.set_cons_succ]))
            refine wpQuiet_nil ?_
            intro w2 hS2'
            have hS2 : CK wr.heap.size b (off + j * 3) ⟨s, kk, m⟩ ⟨s', kk', m'⟩ w w2 := hS2'
            have HBB : Hid (Below w.heap.size w _) := CK_b hS2
            clear hS hS2 hS2'
            go_wp2
            go_ret
            exact ⟨by rw [HNo.out (.inr hc0)]; rfl, HBB.out⟩
    · have hk' : k = l.length := by omega
      subst hk'
      have dk : decide ((l.length : Int) < l.length) = false := by simp
      have hyes : chkF l = true := by unfold chkF; rw [decide_eq_true h24, decide_eq_true (fun k h => HO.out k h h)]; rfl
      clear HO
      have HBB : Hid (Below w.heap.size w wr) := hB
      clear hB
      go_wp2
      go_ret
      exact ⟨by rw [hyes]; rfl, HBB.out⟩
end Go.Proofs.YtlndgepoekllkaaGreatDoor
/- schema.attrMayBe, schema.Attrs: walks. -/
namespace Go.Proofs.YtlndgepoekllkaaGreatDoor
open Go.RowKit

def mayA (x : At) : Bool := oneP x.n && chkV x.k x.v x.s
/-- May the attribute at a place be there? -/
def okA (l : List At) (k : Nat) (h : k < l.length) : Prop := mayA l[k] = true ∧ ∀ (j : Nat) (e : j + 1 = k), cmpL (l[j]'(by omega)).n.data.toList l[k].n.data.toList < 0
instance (l : List At) (k : Nat) (h : k < l.length) : Decidable (okA l k h) := by
  unfold okA
  cases k with
  | zero => exact decidable_of_iff (mayA l[0] = true) ⟨fun h => ⟨h, fun j e => absurd e (by omega)⟩, fun h => h.1⟩
  | succ k => exact decidable_of_iff (mayA l[k + 1] = true ∧ cmpL (l[k]'(by omega)).n.data.toList l[k + 1].n.data.toList < 0) ⟨fun h => ⟨h.1, fun j e => by cases e; exact h.2⟩, fun h => ⟨h.1, h.2 k rfl⟩⟩
end Go.Proofs.YtlndgepoekllkaaGreatDoor
/- schema.Find: its walk. -/
namespace Go.Proofs.YtlndgepoekllkaaGreatDoor
open Go.RowKit

/-- The first field of a name. -/
def getF (l : List Fd) (s : ByteArray) : Option Fd := l.find? fun x => sameL x.n.data.toList s.data.toList
theorem getF_at {l : List Fd} {s : ByteArray} {k : Nat} (h : k < l.length) (hb : ∀ (j : Nat) (hj : j < l.length), j < k → sameL l[j].n.data.toList s.data.toList = false) (hk : sameL l[k].n.data.toList s.data.toList = true) : getF l s = some l[k] := by
  unfold getF
  rw [List.find?_eq_some_iff_getElem]
  exact ⟨hk, k, h, rfl, fun j hj => by rw [hb j (by omega) hj]; rfl⟩
theorem getF_no {l : List Fd} {s : ByteArray} (hb : ∀ (j : Nat) (hj : j < l.length), sameL l[j].n.data.toList s.data.toList = false) : getF l s = none := by
  unfold getF
  rw [List.find?_eq_none]
  intro x hx
  obtain ⟨j, hj, rfl⟩ := List.getElem_of_mem hx
  rw [hb j hj]
  exact Bool.false_ne_true
theorem new_at (w : World) (o : Obj) : (w.alloc o).heap[w.heap.size]? = some o := by show (w.heap.push o)[w.heap.size]? = some o; simp
theorem z3 {w : World} {b : Nat} {x y z : Value} {t : TypeId} (h : w.heap[b]? = some (.cells #[x, y, z] t)) :
    w.cell? ⟨b, 0, none⟩ = some x ∧ w.cell? ⟨b, 1, none⟩ = some y ∧ w.cell? ⟨b, 2, none⟩ = some z ∧ w.frozen? ⟨b, 0, none⟩ = false ∧ w.frozen? ⟨b, 1, none⟩ = false ∧ w.frozen? ⟨b, 2, none⟩ = false :=
  ⟨by rw [Lib.cell_of_heap h]; rfl, by rw [Lib.cell_of_heap h]; rfl, by rw [Lib.cell_of_heap h]; rfl, by simp [World.frozen?, h], by simp [World.frozen?, h], by simp [World.frozen?, h]⟩
end Go.Proofs.YtlndgepoekllkaaGreatDoor
