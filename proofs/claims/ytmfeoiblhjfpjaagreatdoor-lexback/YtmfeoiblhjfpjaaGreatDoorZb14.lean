/- The bytes of UTF-8 stand as the runes do: plain, of no program. -/
import Derived.Test.YtmfeoiblhjfpjaaGreatDoorZb1
import Derived.Lib.Bytealg
import Derived.Test.YtmfeoiblhjfpjaaGreatDoorZb11
import Derived.Test.YtmfeoiblhjfpjaaGreatDoorZb10
import Derived.Test.YtmfeoiblhjfpjaaGreatDoorZb13
import Derived.Test.YtmfeoiblhjfpjaaGreatDoorZb5
import Derived.Lib.RuneCountTail
import Derived.RegionTactic
import Derived.Test.YtmfeoiblhjfpjaaGreatDoorZb9
import Derived.ProofKit
import Derived.PinnedBridge
import Derived.Lay
import Derived.Lib.LaidU8T
import Derived.Lib.LaidTab
import Derived.LaidMore
import Derived.Stop.LaidErr
import Derived.OpenShut
import Derived.ShutString
import Derived.ChangeOld
import Derived.Below
import Derived.Stop.Joined
import Derived.SizedLaws
import Derived.Shelf.Vars
namespace Go.Proofs.YtmfeoiblhjfpjaaGreatDoor
open Go.Lib
set_option maxRecDepth 100000

/-- How rows of runes stand. -/
def cmpR : List Nat → List Nat → Int
  | [], [] => 0
  | [], _ :: _ => -1
  | _ :: _, [] => 1
  | a :: k, b :: l => if a < b then -1 else if b < a then 1 else cmpR k l
theorem cb_lt {m n : Nat} (hn : n < 256) (h : m < n) (x y : List UInt8) : compareBytes (UInt8.ofNat m :: x) (UInt8.ofNat n :: y) = -1 := by
  have e : UInt8.ofNat m < UInt8.ofNat n := by
    rw [UInt8.lt_iff_toNat_lt, toNat_of (by omega), toNat_of hn]
    exact h
  simp [compareBytes, e]
theorem cb_eq (b : UInt8) (x y : List UInt8) : compareBytes (b :: x) (b :: y) = compareBytes x y := by
  simp [compareBytes]
theorem cb_pre : ∀ (p x y : List UInt8), compareBytes (p ++ x) (p ++ y) = compareBytes x y
  | [], _, _ => rfl
  | b :: p, x, y => by rw [List.cons_append, List.cons_append, cb_eq, cb_pre p x y]
/-- Of two first bytes, and what stands behind them. -/
theorem cb_step {m n : Nat} (hn : n < 256) (x y : List UInt8) (h : m < n ∨ (m = n ∧ compareBytes x y = -1)) : compareBytes (UInt8.ofNat m :: x) (UInt8.ofNat n :: y) = -1 := by
  rcases h with h | ⟨rfl, h⟩
  · exact cb_lt hn h x y
  · rw [cb_eq]; exact h
theorem enc_lt {c d : Nat} (hc : scal c) (hd : scal d) (h : c < d) (x y : List UInt8) : compareBytes (enc c ++ x) (enc d ++ y) = -1 := by
  have hd' := hd
  unfold scal at hd'
  by_cases d1 : d < 128
  · rw [enc1 d1, enc1 (by omega)]
    exact cb_lt (by omega) h _ _
  by_cases d2 : d < 2048
  · rw [enc2 (by omega) d2]
    by_cases c1 : c < 128
    · rw [enc1 c1]
      exact cb_lt (by omega) (by omega) _ _
    · rw [enc2 (by omega) (by omega)]
      refine cb_step (by omega) _ _ ?_
      by_cases e : c / 64 = d / 64
      · exact .inr ⟨by omega, cb_step (by omega) _ _ (.inl (by omega))⟩
      · exact .inl (by omega)
  by_cases d3 : d < 65536
  · rw [enc3 (by omega) d3 hd]
    by_cases c1 : c < 128
    · rw [enc1 c1]
      exact cb_lt (by omega) (by omega) _ _
    by_cases c2 : c < 2048
    · rw [enc2 (by omega) (by omega)]
      exact cb_lt (by omega) (by omega) _ _
    · rw [enc3 (by omega) (by omega) hc]
      refine cb_step (by omega) _ _ ?_
      by_cases e : c / 4096 = d / 4096
      · refine .inr ⟨by omega, cb_step (by omega) _ _ ?_⟩
        by_cases e2 : c / 64 % 64 = d / 64 % 64
        · exact .inr ⟨by omega, cb_step (by omega) _ _ (.inl (by omega))⟩
        · exact .inl (by omega)
      · exact .inl (by omega)
  · rw [enc4 (by omega) hd]
    by_cases c1 : c < 128
    · rw [enc1 c1]
      exact cb_lt (by omega) (by omega) _ _
    by_cases c2 : c < 2048
    · rw [enc2 (by omega) (by omega)]
      exact cb_lt (by omega) (by omega) _ _
    by_cases c3 : c < 65536
    · rw [enc3 (by omega) (by omega) hc]
      exact cb_lt (by omega) (by omega) _ _
    · rw [enc4 (by omega) hc]
      refine cb_step (by omega) _ _ ?_
      by_cases e : c / 262144 = d / 262144
      · refine .inr ⟨by omega, cb_step (by omega) _ _ ?_⟩
        by_cases e2 : c / 4096 % 64 = d / 4096 % 64
        · refine .inr ⟨by omega, cb_step (by omega) _ _ ?_⟩
          by_cases e3 : c / 64 % 64 = d / 64 % 64
          · exact .inr ⟨by omega, cb_step (by omega) _ _ (.inl (by omega))⟩
          · exact .inl (by omega)
        · exact .inl (by omega)
      · exact .inl (by omega)
theorem cb_anti : ∀ (a b : List UInt8), compareBytes a b = - compareBytes b a
  | [], [] => rfl
  | [], b :: l => by simp [compareBytes]
  | a :: k, [] => by simp [compareBytes]
  | a :: k, b :: l => by
    simp only [compareBytes]
    by_cases h1 : a < b
    · have h2 : ¬ b < a := UInt8.lt_asymm h1
      simp [h1, h2]
    · by_cases h2 : b < a
      · simp [h1, h2]
      · simp [h1, h2, cb_anti k l]
theorem enc_cons (c : Nat) : ∃ b t, enc c = b :: t := by
  have := enc_len c
  cases h : enc c with
  | nil => rw [h] at this; simp at this
  | cons b t => exact ⟨b, t, rfl⟩
/-- The bytes of runes stand as the runes. -/
theorem cmp_enc : ∀ (a b : List Nat), (∀ c ∈ a, scal c) → (∀ c ∈ b, scal c) → compareBytes (a.flatMap enc) (b.flatMap enc) = cmpR a b
  | [], [], _, _ => rfl
  | [], b :: l, _, _ => by
    obtain ⟨x, t, e⟩ := enc_cons b
    rw [List.flatMap_cons, e]
    rfl
  | a :: k, [], _, _ => by
    obtain ⟨x, t, e⟩ := enc_cons a
    rw [List.flatMap_cons, e]
    rfl
  | a :: k, b :: l, ha, hb => by
    have ih := cmp_enc k l (fun x hx => ha x (List.mem_cons_of_mem _ hx)) (fun x hx => hb x (List.mem_cons_of_mem _ hx))
    rw [List.flatMap_cons, List.flatMap_cons, cmpR]
    by_cases h1 : a < b
    · rw [if_pos h1]
      exact enc_lt (ha a (by simp)) (hb b (by simp)) h1 _ _
    · by_cases h2 : b < a
      · rw [if_neg h1, if_pos h2, cb_anti, enc_lt (hb b (by simp)) (ha a (by simp)) h2]
        rfl
      · have e : a = b := by omega
        subst e
        rw [if_neg h1, if_neg h2, cb_pre, ih]
end Go.Proofs.YtmfeoiblhjfpjaaGreatDoor
/- name.compareRunes; Compare and Same of two texts that are the same, folded: walks. -/
namespace Go.Proofs.YtmfeoiblhjfpjaaGreatDoor
open Go.RowKit

theorem nan_any (c : Int) (w : World) :
    Calls Tryz.prog 80 #[.int .i32 c] w fun e w' => e = .returned (.bool false) ∧ w' = w := by
  go_enter Tryz.func80, Tryz.ntmps80
  go_wp2
  go_ret
  exact ⟨by simp, rfl⟩
def ordN (a b : Nat) : Int := if a < b then -1 else if b < a then 1 else 0
set_option maxHeartbeats 1000000 in
theorem cmpRune_any (a b : Nat) (w : World) :
    Calls Tryz.prog 65 #[.int .i32 (a : Nat), .int .i32 (b : Nat)] w fun e w' => e = .returned (.int .i64 (ordN a b)) ∧ w' = w := by
  by_cases h1 : a < b
  · have h1' : (a : Int) < b := by omega
    have e : ordN a b = -1 := if_pos h1
    rw [e]
    go_enter Tryz.func65, Tryz.ntmps65
    go_wp2_with (go_at_call 80; refine (nan_any _ _).mono ?_; rintro e w' ⟨rfl, rfl⟩)
    go_ret
    exact ⟨rfl, rfl⟩
  · have h1' : ¬ (a : Int) < b := by omega
    by_cases h2 : b < a
    · have h2' : (b : Int) < a := by omega
      have e : ordN a b = 1 := by rw [ordN, if_neg h1, if_pos h2]
      rw [e]
      go_enter Tryz.func65, Tryz.ntmps65
      go_wp2_with (go_at_call 80; refine (nan_any _ _).mono ?_; rintro e w' ⟨rfl, rfl⟩)
      go_ret
      exact ⟨rfl, rfl⟩
    · have h2' : ¬ (b : Int) < a := by omega
      have e : ordN a b = 0 := by rw [ordN, if_neg h1, if_neg h2]
      rw [e]
      go_enter Tryz.func65, Tryz.ntmps65
      go_wp2_with (go_at_call 80; refine (nan_any _ _).mono ?_; rintro e w' ⟨rfl, rfl⟩)
      go_ret
      exact ⟨rfl, rfl⟩

def smalls (l : List UInt8) : List Nat := (rns l).map smallN
def CrRel (a b : ByteArray) (C : Int) (w : World) (t : Value) (wr : World) : Prop :=
  ∃ (pos : Nat) (B : ByteArray), t = .string B ∧ B.size ≤ b.size ∧ wr.heap[w.heap.size]? = some (.stringIter a pos) ∧ Below w.heap.size w wr ∧ cmpR (smalls (a.data.toList.drop pos)) (smalls B.data.toList) = C
theorem dec_go (B : ByteArray) (h : B.size ≠ 0) : Lib.decodeGo B = Utf8.decode B 0 := if_neg h
theorem smalls_ne (B : ByteArray) (h : B.size ≠ 0) : smalls B.data.toList = smallN (Utf8.decode B 0).1 :: smalls ((B.extract (Utf8.decode B 0).2 B.size).data.toList) := by
  have e := rns_at B 0 (by omega)
  rw [List.drop_zero, Nat.zero_add] at e
  unfold smalls
  rw [e, List.map_cons, ext_list]
theorem smalls_nil (B : ByteArray) (h : B.size = 0) : smalls B.data.toList = [] := by
  have : B.data.toList = [] := List.eq_nil_of_length_eq_zero (by rw [Array.length_toList]; exact h)
  rw [this]
  rfl
theorem wid_le (B : ByteArray) (h : B.size ≠ 0) : (Utf8.decode B 0).2 ≤ B.size := by
  have hne : B.data.toList ≠ [] := by
    intro e
    have := congrArg List.length e
    rw [Array.length_toList] at this
    exact h this
  have h1 := Lib.decodeL_le _ hne
  have e : Lib.decodeL B.data.toList = Utf8.decode B 0 := by have := Lib.decodeL_drop B 0; rwa [List.drop_zero] at this
  rw [e, Array.length_toList] at h1
  exact h1
theorem ext_size (B : ByteArray) (k : Nat) : (B.extract k B.size).size ≤ B.size := by rw [ByteArray.size_extract]; omega

set_option maxRecDepth 100000 in
set_option maxHeartbeats 2000000 in
theorem cmpRunes_any (a b : ByteArray) (w : World) (hT : UT w) :
    Calls Tryz.prog 45 #[.string a, .string b] w fun e w' => e = .returned (.int .i64 (cmpR (smalls a.data.toList) (smalls b.data.toList))) ∧ Below w.heap.size w w' := by
  obtain ⟨C, HC⟩ : ∃ C, Hid (cmpR (smalls a.data.toList) (smalls b.data.toList) = C) := ⟨_, rfl⟩
  rw [HC.out]
  go_enter Tryz.func45, Tryz.ntmps45
  go_wp2
  go_loopw [1] (fun t wr => CrRel a b C w t wr) (fun _ wr => a.size - wr.iterPos w.heap.size)
  case atStart =>
    refine ⟨0, b, rfl, Nat.le_refl _, ?_, (Below.refl _ _).alloc (Nat.le_refl _) _, HC.out⟩
    have := World.iter_heap w a 0
    simpa using this
  case round =>
    obtain ⟨pos, B, rfl, hB, hit, hbw, hck⟩ := hrel
    have HK : Hid (cmpR (smalls (a.data.toList.drop pos)) (smalls B.data.toList) = C) := hck
    clear hck HC
    have hsz : w.heap.size < wr.heap.size := (Array.getElem?_eq_some_iff.1 hit).1
    by_cases hp : pos < a.size
    · have hnx : ∀ ty, (Instr.next (.pointer (some ⟨w.heap.size, 0, none⟩)) true ty).run Tryz.prog wr = _ := fun ty => Lib.run_next_any_at wr w.heap.size a pos ty hit hp
      have hwd := Lib.decode_width_pos a pos hp
      have hit2 := Lib.iterAt_heap wr w.heap.size a pos (pos + (Utf8.decode a pos).2) hit
      have hbw2 := Lib.below_iterAt hbw (k := w.heap.size) (Nat.le_refl _) a (pos + (Utf8.decode a pos).2)
      have hrl := Lib.rune_le a pos
      have hrn : Hid (smalls (a.data.toList.drop pos) = smallN (Utf8.decode a pos).1 :: smalls (a.data.toList.drop (pos + (Utf8.decode a pos).2))) := by show _ = _; unfold smalls; rw [rns_at a pos hp]; rfl
      have hmeas : Hid (a.size - (pos + (Utf8.decode a pos).2) < a.size - wr.iterPos w.heap.size) := by
        show _ < _
        rw [iterPos_of hit]; omega
      generalize (Utf8.decode a pos).1 = c at *
      generalize (Utf8.decode a pos).2 = d at *
      generalize hW : wr.iterAt w.heap.size a (pos + d) = W at *
      have hmW : Hid (W.iterPos w.heap.size = pos + d) := iterPos_of hit2
      have hszW : w.heap.size < W.heap.size := (Array.getElem?_eq_some_iff.1 hit2).1
      clear hW hit hbw
      by_cases h0 : B.size = 0
      · have he := empty_is B h0
        have HR : Hid (1 = C) := by show _ = _; rw [← HK.out, hrn.out, smalls_nil B h0]; rfl
        clear HK hrn
        go_wp2_with fail
        go_ret
        exact ⟨by rw [← HR.out]; rfl, hbw2⟩
      · have he := empty_not B h0
        have hdg := dec_go B h0
        have hsn : Hid _ := smalls_ne B h0
        have hwl := wid_le B h0
        have hrb := Lib.rune_le B 0
        have hex := ext_size B (Utf8.decode B 0).2
        generalize (Utf8.decode B 0) = dc at *
        obtain ⟨x, y⟩ := dc
        simp only at hwl hrb hex
        have HK2 : Hid (cmpR (smallN c :: smalls (a.data.toList.drop (pos + d))) (smallN x :: smalls ((B.extract y B.size).data.toList)) = C) := by show _ = _; rw [← hrn.out, ← hsn.out]; exact HK.out
        clear hrn hsn HK
        go_wp2_with fail
        refine (Tryz.utf8_DecodeRuneInString B _ (Utf8Tabs_below hT hbw2)).mono ?_
        rintro e w3 ⟨rfl, hb3⟩
        rw [show (Lib.decodeGo B).1 = x by rw [hdg], show (Lib.decodeGo B).2 = y by rw [hdg]]
        have hbw3 := hbw2.trans (hb3.mono hbw2.size)
        have hit3 : Hid (w3.heap[w.heap.size]? = some (.stringIter a (pos + d))) := (hb3.block _ hszW).trans hit2
        have hmW3 : Hid (w3.iterPos w.heap.size = pos + d) := iterPos_of hit3.out
        clear hb3 hbw2 hit2 hdg
        by_cases h1 : smallN c < smallN x
        · have ho : ordN (smallN c) (smallN x) = -1 := if_pos h1
          have HR : Hid (-1 = C) := by show _ = _; rw [← HK2.out, cmpR, if_pos h1]
          clear HK2 h1
          go_wp2_with (first | (go_at_call 66; refine (small_any _ _ (by omega) (by omega)).mono ?_; rintro e w' ⟨rfl, rfl⟩; rw [smallZ_nat]) | (go_at_call 65; refine (cmpRune_any _ _ _).mono ?_; rintro e w' ⟨rfl, rfl⟩; rw [ho]))
          go_ret
          exact ⟨by rw [← HR.out]; rfl, hbw3⟩
        · by_cases h2 : smallN x < smallN c
          · have ho : ordN (smallN c) (smallN x) = 1 := by rw [ordN, if_neg h1, if_pos h2]
            have HR : Hid (1 = C) := by show _ = _; rw [← HK2.out, cmpR, if_neg h1, if_pos h2]
            clear HK2 h1 h2
            go_wp2_with (first | (go_at_call 66; refine (small_any _ _ (by omega) (by omega)).mono ?_; rintro e w' ⟨rfl, rfl⟩; rw [smallZ_nat]) | (go_at_call 65; refine (cmpRune_any _ _ _).mono ?_; rintro e w' ⟨rfl, rfl⟩; rw [ho]))
            go_ret
            exact ⟨by rw [← HR.out]; rfl, hbw3⟩
          · have ho : ordN (smallN c) (smallN x) = 0 := by rw [ordN, if_neg h1, if_neg h2]
            have HR : Hid (cmpR (smalls (a.data.toList.drop (pos + d))) (smalls ((B.extract y B.size).data.toList)) = C) := by show _ = _; rw [← HK2.out, cmpR, if_neg h1, if_neg h2]
            clear HK2 h1 h2
            go_wp2_with (first | (go_at_call 66; refine (small_any _ _ (by omega) (by omega)).mono ?_; rintro e w' ⟨rfl, rfl⟩; rw [smallZ_nat]) | (go_at_call 65; refine (cmpRune_any _ _ _).mono ?_; rintro e w' ⟨rfl, rfl⟩; rw [ho]))
            go_roundw
            case rel => exact ⟨pos + d, B.extract y B.size, rfl, by omega, hit3.out, hbw3, HR.out⟩
            case measure => rw [hmW3.out]; exact hmeas.out
    · have hnx : ∀ ty, (Instr.next (.pointer (some ⟨w.heap.size, 0, none⟩)) true ty).run Tryz.prog wr = _ := fun ty => Lib.run_next_end_at wr w.heap.size a pos ty hit hp
      have hn : smalls (a.data.toList.drop pos) = [] := by unfold smalls; rw [rns_end a pos hp]; rfl
      by_cases h0 : B.size = 0
      · have HR : Hid (0 = C) := by show _ = _; rw [← HK.out, hn, smalls_nil B h0]; rfl
        have hz : (B.size : Int) = 0 := by omega
        clear HK hn
        go_wp2_with fail
        go_ret
        exact ⟨by rw [← HR.out]; rfl, hbw⟩
      · have HR : Hid (-1 = C) := by show _ = _; rw [← HK.out, hn, smalls_ne B h0]; rfl
        have hm : min (B.size : Int) 1 = 1 := by omega
        clear HK hn
        go_wp2_with fail
        go_ret
        exact ⟨by rw [← HR.out]; rfl, hbw⟩

set_option maxHeartbeats 1000000 in
theorem same_folded (a b : ByteArray) (w : World) (ha : a.size ≤ 1000000) (hb : b.size ≤ 1000000) (va : Lib.validD a.data.toList = true) (vb : Lib.validD b.data.toList = true) (hne : a ≠ b) (h0 : cmpR (smalls a.data.toList) (smalls b.data.toList) = 0) (hT : UT w) :
    Calls Tryz.prog 18 #[.string a, .string b] w fun e w' => e = .returned (.bool true) ∧ Below w.heap.size w w' := by
  have HC : Hid (∀ w, UT w → Calls Tryz.prog 29 #[.string a, .string b] w fun e w' => e = .returned (.int .i64 0) ∧ Below w.heap.size w w') := by
    show ∀ w, _
    intro w hT
    go_enter Tryz.func29, Tryz.ntmps29
    go_wp2_with fail
    refine (Tryz.utf8_ValidString a _ (by omega) hT).mono ?_
    rintro e w1 ⟨rfl, hb1⟩
    rw [va]
    go_wp2_with fail
    refine (Tryz.utf8_ValidString b _ (by omega) (Utf8Tabs_below hT hb1)).mono ?_
    rintro e w2 ⟨rfl, hb2⟩
    rw [vb]
    have hbb := hb1.trans (hb2.mono hb1.size)
    clear hb1 hb2
    go_wp2_with fail
    refine (cmpRunes_any a b _ (Utf8Tabs_below hT hbb)).mono ?_
    rintro e w3 ⟨rfl, hb3⟩
    rw [h0]
    have hbb3 : Hid (Below w.heap.size w w3) := hbb.trans (hb3.mono hbb.size)
    clear hbb hb3
    go_wp2
    go_ret
    exact ⟨rfl, hbb3.out⟩
  have e2 : (a.toList == b.toList) = false := by
    rw [beq_eq_false_iff_ne, ByteArray.toList_eq, ByteArray.toList_eq]
    exact fun e => hne (ba_eq e)
  clear va vb h0
  go_enter Tryz.func18, Tryz.ntmps18
  go_wp2_with fail
  refine (HC.out _ hT).mono ?_
  rintro e w1 ⟨rfl, hb1⟩
  go_wp2
  go_ret
  exact ⟨rfl, hb1⟩
end Go.Proofs.YtmfeoiblhjfpjaaGreatDoor
/- lex.Word, Mark at the example; the law's awake: walks. -/
namespace Go.Proofs.YtmfeoiblhjfpjaaGreatDoor
open Go.RowKit

abbrev andS : ByteArray := ⟨#[97, 110, 100]⟩
abbrev ANDS : ByteArray := ⟨#[65, 78, 68]⟩
set_option maxRecDepth 100000 in
theorem word_and (p vk vn : Int) (vs : ByteArray) (w : World) (hT : UT w) :
    Calls Tryz.prog 10 #[tv 1 p andS vk vn vs, .string ANDS] w fun e w' => e = .returned (.bool true) ∧ Below w.heap.size w w' := by
  have HS : Hid (∀ w, UT w → Calls Tryz.prog 18 #[.string andS, .string ANDS] w fun e w' => e = .returned (.bool true) ∧ Below w.heap.size w w') := fun w hT =>
    same_folded andS ANDS w (by decide) (by decide) (by decide +kernel) (by decide +kernel) (by decide) (by decide +kernel) hT
  go_enter Tryz.func10, Tryz.ntmps10
  go_wp2_with fail
  refine (HS.out _ (Utf8Tabs_below hT (al_below6 w _))).mono ?_
  rintro e w1 ⟨rfl, hb1⟩
  have HB : Hid (Below w.heap.size w w1) := (al_below6 w _).trans (hb1.mono (by simp))
  clear hb1
  go_wp2
  go_ret
  exact ⟨rfl, HB.out⟩
set_option maxRecDepth 100000 in
theorem mark_close (p vk vn : Int) (vs : ByteArray) (w : World) :
    Calls Tryz.prog 11 #[tv 3 p ⟨#[125]⟩ vk vn vs, .string ⟨#[125]⟩] w fun e w' => e = .returned (.bool true) ∧ Below w.heap.size w w' := by
  go_enter Tryz.func11, Tryz.ntmps11
  go_wp2
  go_ret
  exact ⟨rfl, al_below6 w _⟩
/-- The page's example. -/
def ex7L : List UInt8 := [97, 32, 62, 61, 32, 45, 53, 32, 97, 110, 100, 32, 98, 32, 105, 110, 32, 123, 34, 120, 34, 125]
def ex7T : List Tk := [⟨1, 0, [97], 0, 0, []⟩, ⟨3, 2, [62, 61], 0, 0, []⟩, ⟨2, 5, [], 1, -5, []⟩, ⟨1, 8, [97, 110, 100], 0, 0, []⟩, ⟨1, 12, [98], 0, 0, []⟩, ⟨1, 14, [105, 110], 0, 0, []⟩, ⟨3, 17, [123], 0, 0, []⟩, ⟨2, 18, [], 2, 0, [120]⟩, ⟨3, 21, [125], 0, 0, []⟩]
theorem ex_lex : lexL ex7L = ⟨ex7T, 22, 0⟩ := by kernel_rfl
abbrev ex7S : ByteArray := ⟨#[97, 32, 62, 61, 32, 45, 53, 32, 97, 110, 100, 32, 98, 32, 105, 110, 32, 123, 34, 120, 34, 125]⟩
set_option maxRecDepth 100000 in
set_option maxHeartbeats 4000000 in
theorem awake7_any (w : World) (h : VE w) :
    Calls Tryz.prog 4 #[] w fun e w' => e = .returned (.bool true) ∧ Below w.heap.size w w' := by
  have HL : Hid (∀ w, VE w → Calls Tryz.prog 5 #[.string ex7S] w fun e w' => LxPost ⟨ex7T, 22, 0⟩ w e w') := fun w h => by
    have := lex_any ex7S w (by decide) h
    rw [show ex7S.data.toList = ex7L from rfl, ex_lex] at this
    exact this
  go_enter Tryz.func4, Tryz.ntmps4
  go_wp2_with fail
  refine (HL.out _ h).mono ?_
  rintro e0 w1 ⟨v, rfl, hrow, hb1⟩
  obtain ⟨b, off, cap, rfl, hlt, _, _, hc⟩ := hrow.open (by decide)
  have k8 : w1.cell? ⟨b, off + 8, none⟩ = some (.string ⟨#[62, 61]⟩) := hc 8 _ rfl
  have k16 : w1.cell? ⟨b, off + 16, none⟩ = some (.int .i64 (-5)) := hc 16 _ rfl
  have k26 : w1.cell? ⟨b, off + 26, none⟩ = some (.string ⟨#[98]⟩) := hc 26 _ rfl
  have k25 : w1.cell? ⟨b, off + 25, none⟩ = some (.int .i64 12) := hc 25 _ rfl
  have k47 : w1.cell? ⟨b, off + 47, none⟩ = some (.string ⟨#[120]⟩) := hc 47 _ rfl
  have k18 : w1.cell? ⟨b, off + 18, none⟩ = some (.int .i64 1) := hc 18 _ rfl
  have k19 : w1.cell? ⟨b, off + 19, none⟩ = some (.int .i64 8) := hc 19 _ rfl
  have k20 : w1.cell? ⟨b, off + 20, none⟩ = some (.string andS) := hc 20 _ rfl
  have k21 : w1.cell? ⟨b, off + 21, none⟩ = some (.int .i64 0) := hc 21 _ rfl
  have k22 : w1.cell? ⟨b, off + 22, none⟩ = some (.int .i64 0) := hc 22 _ rfl
  have k23 : w1.cell? ⟨b, off + 23, none⟩ = some (.string ⟨#[]⟩) := hc 23 _ rfl
  have k48 : w1.cell? ⟨b, off + 48, none⟩ = some (.int .i64 3) := hc 48 _ rfl
  have k49 : w1.cell? ⟨b, off + 49, none⟩ = some (.int .i64 21) := hc 49 _ rfl
  have k50 : w1.cell? ⟨b, off + 50, none⟩ = some (.string ⟨#[125]⟩) := hc 50 _ rfl
  have k51 : w1.cell? ⟨b, off + 51, none⟩ = some (.int .i64 0) := hc 51 _ rfl
  have k52 : w1.cell? ⟨b, off + 52, none⟩ = some (.int .i64 0) := hc 52 _ rfl
  have k53 : w1.cell? ⟨b, off + 53, none⟩ = some (.string ⟨#[]⟩) := hc 53 _ rfl
  have HVE : Hid (UT w1) := (h.below hb1).u
  clear hc hrow HL
  go_wp2_with fail
  refine (word_and 8 0 0 _ w1 HVE.out).mono ?_
  rintro e2 w2 ⟨rfl, hb2⟩
  have m48 : w2.cell? ⟨b, off + 48, none⟩ = some (.int .i64 3) := (hb2.cell (p := ⟨b, off + 48, none⟩) hlt).trans k48
  have m49 : w2.cell? ⟨b, off + 49, none⟩ = some (.int .i64 21) := (hb2.cell (p := ⟨b, off + 49, none⟩) hlt).trans k49
  have m50 : w2.cell? ⟨b, off + 50, none⟩ = some (.string ⟨#[125]⟩) := (hb2.cell (p := ⟨b, off + 50, none⟩) hlt).trans k50
  have m51 : w2.cell? ⟨b, off + 51, none⟩ = some (.int .i64 0) := (hb2.cell (p := ⟨b, off + 51, none⟩) hlt).trans k51
  have m52 : w2.cell? ⟨b, off + 52, none⟩ = some (.int .i64 0) := (hb2.cell (p := ⟨b, off + 52, none⟩) hlt).trans k52
  have m53 : w2.cell? ⟨b, off + 53, none⟩ = some (.string ⟨#[]⟩) := (hb2.cell (p := ⟨b, off + 53, none⟩) hlt).trans k53
  have HB2 : Hid (Below w.heap.size w w2) := hb1.trans (hb2.mono hb1.size)
  clear hb1 hb2 k48 k49 k50 k51 k52 k53
  go_wp2_with fail
  refine (mark_close 21 0 0 _ w2).mono ?_
  rintro e3 w3 ⟨rfl, hb3⟩
  have HB3 : Hid (Below w.heap.size w w3) := HB2.out.trans (hb3.mono HB2.out.size)
  clear hb3
  go_wp2
  go_ret
  exact ⟨rfl, HB3.out⟩
end Go.Proofs.YtmfeoiblhjfpjaaGreatDoor
/- The reference's Runes: its walk (as with names). -/
namespace Go.Proofs.YtmfeoiblhjfpjaaGreatDoor
open Go.RowKit Go.Lib

theorem wpl_apps {P : Program} (wr : World) {ops : Array Oper} {rest : List Oper} {o : Oper} {a : Act} {Q : Exit → Act → World → Prop} (hgd : o.guard = none) (s x : Operand) (t e : TypeId)
    (ho : o.op = .call { callee := .builtin .append, args := #[s, x], argTypes := #[t, t] })
    (i : TypeInfo) (z : Value) (bytes : Nat) (ht : P.underlying t = some (.slice e)) (hi : P.info? e = some i) (hz : i.zero = some z)
    (hsize : i.size = 1) (hby : i.bytes = bytes) (hzs : z.cells.size = 1)
    (base : Nat) (v : Value) (n : Nat) (xs : List Value) (hs : a.eval s = v) (hown : wr.ownsRow base e 1 v n xs)
    (el : Value) (N : Nat) (hN : N = wr.heap.size) (hx : a.eval x = .slice (some ⟨N, 0, none⟩) 1 1) (h1 : el.oneCell' = true)
    (hbytes : (n + 1) * bytes ≤ 140737488355328) (h63 : n + 1 ≤ maxLen) (hbase : base ≤ wr.heap.size)
    (h : ∀ v' w', w'.ownsRow base e 1 v' (n + 1) (xs ++ [el]) → Below base wr w' → (∀ b, b < wr.heap.size → v.ownBlock ≠ some b → w'.heap[b]? = wr.heap[b]?) → wpList P ops Q rest (a.put o.dst v') w') :
    wpList P ops Q (o :: rest) a (wr.alloc (.cells #[el] e)) := by
  subst hN
  refine wpList_append_own _ hgd s x t ho base e i z 1 bytes ht hi hz hsize hby hzs (by omega) v n xs hs (hown.alloc _) ⟨wr.heap.size, 0, none⟩ 1 1 [el] hx rfl ?_ ?_ h63 hbytes ?_ ?_
  · intro j u hj
    match j, hj with
    | 0, hj => simp at hj; subst hj; simp [Addr.add]
  · intro u hu; simp at hu; subst hu; exact h1
  · simp; omega
  · intro v' w' h2 h3 h4
    refine h v' w' h2 ?_ ?_
    · exact ((Below.refl _ _).alloc hbase _).grown h3 (by simp; omega) (fun k hk => (hown.lt k hk).1)
    · intro b hb hne
      rw [h3.block b (by simp; omega) (fun e => hne e.symm)]
      exact Below.heap_alloc _ _ _ hb

theorem owns_below' {w w1 : World} {base : Nat} {e : TypeId} {sz : Nat} {v : Value} {n : Nat} {xs : List Value} (h : w.ownsRow base e sz v n xs) (hb : Below w.heap.size w w1) : w1.ownsRow base e sz v n xs :=
  h.kept (row := none) ⟨hb.os, hb.tape, hb.output, hb.size, fun k hk _ => hb.block k hk⟩ (by cases hv : v.ownBlock <;> simp)
def icells (l : List Nat) : List Value := l.map fun (c : Nat) => Value.int .i64 (c : Int)
theorem info_int : (Tryz.prog.info? 3).map (fun i => (i.zero, i.size, i.bytes)) = some (some (.int .i64 0), 1, 8) := by kernel_rfl
/-- What Runes leaves. -/
def RnPost (l : List Nat) (w : World) (e : Ending) (w' : World) : Prop :=
  ∃ v, e = .returned v ∧ IsRow w' 1 v l.length (icells l) ∧ Below w.heap.size w w'
def RnRel (s : ByteArray) (w : World) (t i : Value) (wr : World) : Prop :=
  ∃ (pos : Nat) (acc : List Nat), pos ≤ s.size ∧ i = .int .i64 pos ∧ wr.ownsRow w.heap.size 3 1 t acc.length (icells acc) ∧ Below w.heap.size w wr ∧ acc ++ rns (s.data.toList.drop pos) = rns s.data.toList ∧ validD (s.data.toList.drop pos) = true ∧ acc.length ≤ pos

set_option maxRecDepth 100000 in
set_option maxHeartbeats 2000000 in
theorem refRunes_any (s : ByteArray) (w : World) (hs : s.size ≤ 1000000) (hvs : validD s.data.toList = true) :
    Calls Tryz.prog 9 #[.string s] w fun e w' => RnPost (rns s.data.toList) w e w' := by
  obtain ⟨i0, hi0, hz0, hz1, hz2⟩ := info_parts info_int
  go_enter Tryz.func9, Tryz.ntmps9
  go_wp2
  go_loopw [3, 4] (fun t i wr => RnRel s w t i wr) (fun _ i _ => s.size - (RowKit.intOf i).toNat)
  case atStart => exact ⟨0, [], Nat.zero_le _, rfl, World.ownsRow_nil _ _ _ _, Below.refl _ _, rfl, hvs, Nat.le_refl _⟩
  case round =>
    obtain ⟨pos, acc, hp, rfl, hown, hb, hck, hv, hal⟩ := hrel
    have HC : Hid (acc ++ rns (s.data.toList.drop pos) = rns s.data.toList) := hck
    have HV : Hid (validD (s.data.toList.drop pos) = true) := hv
    clear hck hv
    by_cases hlt : pos < s.size
    · have hi : (pos : Int) < s.size := by omega
      have hsl := slice_ok s pos
      have hwl := width_le s pos hlt
      have hw1 := Lib.decode_width_pos s pos hlt
      have hfa := fst_at s pos hlt
      have hbs := hb.size
      have hbad : ¬ ((Utf8.decode s pos).1 = 65533 ∧ (Utf8.decode s pos).2 = 1) := by
        intro h
        have := HV.out
        rw [valid_at s pos hlt, if_pos h] at this
        cases this
      have HV2 : Hid (validD (s.data.toList.drop (pos + (Utf8.decode s pos).2)) = true) := by
        have := HV.out
        rw [valid_at s pos hlt, if_neg hbad] at this
        exact this
      have HC2 : Hid ((acc ++ [(Utf8.decode s pos).1]) ++ rns (s.data.toList.drop (pos + (Utf8.decode s pos).2)) = rns s.data.toList) := by
        show _ = _
        rw [← HC.out, rns_at s pos hlt]
        simp
      rw [if_neg hbad] at hfa
      clear hbad HC HV
      generalize (Utf8.decode s pos) = dc at *
      obtain ⟨c, d⟩ := dc
      simp only at hwl hw1 HC2 HV2
      have hd0 : ((d : Int) == 0) = false := by rw [beq_eq_false_iff_ne]; omega
      have HX : Hid (icells acc ++ [Value.int .i64 (c : Nat)] = icells (acc ++ [c])) := by show _ = _; simp [icells]
      go_wp2_with fail
      refine (first_any _ _ (by omega)).mono ?_
      rintro e w1 ⟨rfl, hb1⟩
      rw [show (fst (s.extract pos s.size)).1 = c by rw [hfa], show (fst (s.extract pos s.size)).2 = d by rw [hfa]]
      have hb2 := hb.trans (hb1.mono hb.size)
      have hs1 := hb1.size
      have hown1 := owns_below' hown hb1
      clear hb1 hfa hown
      have hne : u3.ownBlock ≠ some w1.heap.size := fun e => by have := (hown1.lt _ e).2; omega
      have hownA := hown1.alloc (.cells #[Value.int .i64 c, .int .i64 d] 49)
      go_wp2_with (at_builtin; refine wpl_apps _ rfl (.tmp 18) (.tmp 21) 35 3 rfl i0 _ 8 Tryz.underlying35 hi0 hz0 hz1 hz2 rfl _ _ _ _ rfl hownA (.int .i64 (c : Nat)) (w1.heap.size + 1) (by simp) rfl rfl (by omega) (by unfold maxLen; omega) (by simp; omega) ?_; intro v3 w3 hown3 hb3 hst3; have hc3 : w3.cell? ⟨w1.heap.size, 1, none⟩ = some (.int .i64 d) := (World.cell?_of_block (a := ⟨w1.heap.size, 1, none⟩) (hst3 w1.heap.size (by simp) hne)).trans (by simp))
      have HO : Hid (w3.ownsRow w.heap.size 3 1 v3 (acc ++ [c]).length (icells (acc ++ [c]))) := by
        show World.ownsRow _ _ _ _ _ _ _
        rw [← HX.out, List.length_append]
        exact hown3
      have HB : Hid (Below w.heap.size w w3) := (hb2.alloc (by omega) _).trans hb3
      clear hst3 hown3 hb3 hown1 hownA hb2
      go_wp2
      go_roundw
      case rel => exact ⟨pos + d, acc ++ [c], hwl, by go_num, HO.out, HB.out, HC2.out, HV2.out, by simp; omega⟩
      case measure => simp [RowKit.intOf]; omega
    · have HC2 : Hid (acc = rns s.data.toList) := by show _ = _; rw [← HC.out, rns_end s pos hlt]; simp
      have HO : Hid (IsRow wr 1 u3 acc.length (icells acc)) := IsRow.own hown
      have hp' : pos = s.size := by omega
      clear HC hown HV
      subst hp'
      go_wp2
      go_ret
      refine ⟨_, rfl, ?_, hb⟩
      rw [← HC2.out]
      exact HO.out
end Go.Proofs.YtmfeoiblhjfpjaaGreatDoor
/- LexBack: for all texts the law returns true. -/
namespace Go.Proofs.YtmfeoiblhjfpjaaGreatDoor
open Go.RowKit

theorem bare_at {l m : List Tk} (h : bare l = bare m) : m.length = l.length ∧ ∀ (k : Nat) (h1 : k < l.length) (h2 : k < m.length), l[k].k = m[k].k ∧ l[k].s = m[k].s ∧ l[k].vk = m[k].vk ∧ l[k].vn = m[k].vn ∧ l[k].vs = m[k].vs := by
  have hl : m.length = l.length := by have := congrArg List.length h; simpa [bare] using this.symm
  refine ⟨hl, fun k h1 h2 => ?_⟩
  have e : (bare l)[k]? = (bare m)[k]? := by rw [h]
  unfold bare at e
  rw [List.getElem?_map, List.getElem?_map, List.getElem?_eq_getElem h1, List.getElem?_eq_getElem h2] at e
  simp only [Option.map_some, Option.some.injEq, Tk.mk.injEq] at e
  exact ⟨e.1, e.2.2.1, e.2.2.2.1, e.2.2.2.2.1, e.2.2.2.2.2⟩
theorem rise_at {b : Int} {l : List Tk} (h : Rising b l) (k : Nat) (hk : k < l.length) : 0 ≤ l[k].p ∧ l[k].p < b ∧ ∀ (j : Nat) (hj : j + 1 = k), (l[j]'(by omega)).p < l[k].p := by
  have := h.2 l[k] (List.getElem_mem hk)
  refine ⟨this.1, this.2, fun j hj => ?_⟩
  exact (List.pairwise_iff_getElem.1 h.1) j k (by omega) hk (by omega)
set_option maxRecDepth 100000 in
set_option maxHeartbeats 4000000 in
theorem lexBack_walk (s : ByteArray) (w : World) (_hs : s.size ≤ 140737488355328) (h : VEP w) :
    Calls Tryz.prog 3 #[.string s] w fun e w' => e = .returned (.bool true) ∧ Below w.heap.size w w' := by
  have HA : Hid (∀ w, VEP w → Calls Tryz.prog 4 #[] w fun e w' => e = .returned (.bool true) ∧ Below w.heap.size w w') := fun w h => awake7_any w h.v
  by_cases ga : 2000 < s.size
  · have da : decide ((2000 : Int) < s.size) = true := by simp; omega
    go_enter Tryz.func3, Tryz.ntmps3
    go_wp2_with fail
    refine (HA.out _ h).mono ?_
    rintro e0 w1 ⟨rfl, hb1⟩
    go_wp2
    go_ret
    exact ⟨rfl, hb1⟩
  have da : decide ((2000 : Int) < s.size) = false := by simp; omega
  have H1 : Hid (∀ w, VEP w → Calls Tryz.prog 5 #[.string s] w fun e w' => LxPost (lexL s.data.toList) w e w') := fun w h => lex_any s w (by omega) h.v
  obtain ⟨X, HX⟩ : ∃ X, Hid (lexL s.data.toList = X) := ⟨_, rfl⟩
  rw [HX.out] at H1
  obtain ⟨L, N, e⟩ := X
  have hsl : s.data.toList.length = s.size := Array.length_toList
  by_cases he : e = 0
  rotate_left
  · obtain ⟨rfl, hN0, hN1⟩ := lex_err HX.out he
    rw [hsl] at hN1
    have de : (e != 0) = true := by rw [bne_iff_ne]; exact he
    have d1 : decide ((0 : Int) ≤ N) = true := by simpa using hN0
    have d2 : decide (N ≤ (s.size : Int)) = true := by simpa using hN1
    go_enter Tryz.func3, Tryz.ntmps3
    go_wp2_with fail
    refine (H1.out _ h).mono ?_
    rintro e0 w1 ⟨v1, rfl, hr1, hb1⟩
    obtain ⟨a1, cap1, rfl⟩ := hr1.form
    have HV1 : Hid (VEP w1) := h.below hb1
    clear hr1
    go_wp2_with fail
    refine (HA.out _ HV1.out).mono ?_
    rintro e0 w2 ⟨rfl, hb2⟩
    have HB2 : Hid (Below w.heap.size w w2) := hb1.trans (hb2.mono hb1.size)
    clear hb1 hb2
    go_wp2
    go_ret
    exact ⟨rfl, HB2.out⟩
  subst he
  obtain ⟨hok, hNr, hval⟩ := lex_all HX.out
  obtain ⟨n, hn⟩ : ∃ n, n = (rns s.data.toList).length := ⟨_, rfl⟩
  rw [← hn] at hNr
  subst hNr
  rw [hsl] at hok
  have hnl : n ≤ s.size := by rw [hn]; have := rns_len_le s.data.toList.length s.data.toList; unfold rns; omega
  have HOk : Hid (LkOk s.size (n : Int) L) := hok
  have HN : Hid (n = (rns s.data.toList).length) := hn
  have hL := hok.few
  clear hok hn
  obtain ⟨T2, N2, hT2, hbare⟩ := lex_join L HOk.out.ok hL
  have hJl : (joinT L).length ≤ 1000000 := by
    have := joinT_len s.size L HOk.out.short
    have h2 : L.length * (s.size + 1) ≤ 300 * 2001 := Nat.mul_le_mul hL (by omega)
    omega
  have H2 : Hid (∀ w, VEP w → Calls Tryz.prog 5 #[.string (str (joinT L))] w fun e w' => LxPost ⟨T2, N2, 0⟩ w e w') := fun w h => by
    have := lex_any (str (joinT L)) w (by rw [str_size]; omega) h.v
    rw [str_data, hT2] at this
    exact this
  have hTl : T2.length = L.length := (bare_at hbare).1.symm
  have HTl : Hid (T2.length = L.length) := hTl
  have HSh : Hid (∀ v w, IsRow w 6 v L.length (tkCells L) → VEP w → Calls Tryz.prog 6 #[v] w fun e w' => e = .returned (.string (str (joinT L))) ∧ Below w.heap.size w w') := fun v w hr h => show_all v L w hr hL HOk.out.kind (fun t ht => by have := HOk.out.short t ht; omega) h
  have HSm : Hid (∀ v1 v2 w, IsRow w 6 v1 T2.length (tkCells T2) → IsRow w 6 v2 L.length (tkCells L) → Calls Tryz.prog 7 #[v1, v2, .bool true] w fun e w' => e = .returned (.bool true) ∧ Below w.heap.size w w') := fun v1 v2 w h1 h2 => same7_any v1 v2 T2 L w h1 h2 (by omega) (bare_at hbare).1 (bare_at hbare).2
  have HRn : Hid (∀ w, Calls Tryz.prog 9 #[.string s] w fun e w' => RnPost (rns s.data.toList) w e w') := fun w => refRunes_any s w (by omega) hval
  clear hT2 hbare hTl hval hJl HX
  generalize str (joinT L) = J at *
  go_enter Tryz.func3, Tryz.ntmps3
  go_wp2_with fail
  refine (H1.out _ h).mono ?_
  rintro e0 w1 ⟨v1, rfl, hr1, hb1⟩
  obtain ⟨a1, cap1, rfl⟩ := hr1.form
  have HR1 : Hid (IsRow w1 6 (.slice a1 L.length cap1) L.length (tkCells L)) := hr1
  have HV1 : Hid (VEP w1) := h.below hb1
  have HB1 : Hid (Below w.heap.size w w1) := hb1
  clear hr1 hb1 H1
  go_wp2_with fail
  go_loopw [6] (fun i wr => ∃ k : Nat, k ≤ L.length ∧ i = .int .i64 (k : Int) ∧ Below w1.heap.size w1 wr) (fun i _ => L.length - (intOf i).toNat)
  case atStart => exact ⟨0, Nat.zero_le _, rfl, Below.refl _ _⟩
  case round =>
    obtain ⟨k, hkl, rfl, hB⟩ := hrel
    by_cases hlk : k < L.length
    · have dk : decide ((k : Int) < L.length) = true := by simp; omega
      obtain ⟨b, off, rfl, hlt, -, c1, -, -, -, -⟩ := toks_at (HR1.out.below hB) k hlk
      obtain ⟨r0, r1, r2⟩ := rise_at HOk.out.rise k hlk
      cases k with
      | zero =>
        have c1 : wr.cell? ⟨b, off + 1, none⟩ = some (.int .i64 (L[0]'hlk).p) := by simpa using c1
        generalize (L[0]'hlk).p = p at *
        have d1 : decide (p < 0) = false := by simp; omega
        have d2 : decide ((n : Int) ≤ p) = false := by simp; omega
        clear r2
        go_wp2_with fail
        go_region
        go_wp2
        go_roundw
        case rel => exact ⟨0 + 1, by omega, by simp, hB.drew⟩
        case measure => simp [intOf]; omega
      | succ j =>
        have hj : j < L.length := by omega
        obtain ⟨b', off', hbb, -, -, c2, -, -, -, -⟩ := toks_at (HR1.out.below hB) j hj
        cases hbb
        have r3 := r2 j rfl
        generalize (L[j + 1]'hlk).p = p at *
        generalize (L[j]'hj).p = q at *
        have d1 : decide (p < 0) = false := by simp; omega
        have d2 : decide ((n : Int) ≤ p) = false := by simp; omega
        have d3 : decide (p ≤ q) = false := by simp; omega
        clear r2
        go_wp2_with fail
        go_region
        go_wp2
        go_roundw
        case rel => exact ⟨j + 1 + 1, by omega, by simp, hB.drew⟩
        case measure => simp [intOf]; omega
    · have hk' : k = L.length := by omega
      subst hk'
      have dk : decide ((L.length : Int) < L.length) = false := by simp
      have HRr : Hid (IsRow wr 6 (.slice a1 L.length cap1) L.length (tkCells L)) := HR1.out.below hB
      have HVr : Hid (VEP wr) := HV1.out.below hB
      have HBr : Hid (Below w.heap.size w wr) := HB1.out.trans (hB.mono HB1.out.size)
      clear hB HR1 HV1 HB1
      go_wp2_with fail
      refine (HSh.out _ _ HRr.out HVr.out).mono ?_
      rintro e0 w2 ⟨rfl, hb2⟩
      have HR2 : Hid (IsRow w2 6 (.slice a1 L.length cap1) L.length (tkCells L)) := HRr.out.below hb2
      have HV2 : Hid (VEP w2) := HVr.out.below hb2
      have HB2 : Hid (Below w.heap.size w w2) := HBr.out.trans (hb2.mono HBr.out.size)
      clear hb2 HRr HVr HBr
      go_wp2_with fail
      refine (H2.out _ HV2.out).mono ?_
      rintro e0 w3 ⟨v3, rfl, hr3, hb3⟩
      obtain ⟨a3, cap3, rfl⟩ := hr3.form
      have HM3 : Hid (IsRow w3 6 (.slice a3 T2.length cap3) T2.length (tkCells T2)) := hr3
      have HR3 : Hid (IsRow w3 6 (.slice a1 L.length cap1) L.length (tkCells L)) := HR2.out.below hb3
      have HV3 : Hid (VEP w3) := HV2.out.below hb3
      have HB3 : Hid (Below w.heap.size w w3) := HB2.out.trans (hb3.mono HB2.out.size)
      clear hr3 hb3 HR2 HV2 HB2
      go_wp2_with fail
      refine (HA.out _ HV3.out).mono ?_
      rintro e0 w4 ⟨rfl, hb4⟩
      have HM4 : Hid (IsRow w4 6 (.slice a3 T2.length cap3) T2.length (tkCells T2)) := HM3.out.below hb4
      have HR4 : Hid (IsRow w4 6 (.slice a1 L.length cap1) L.length (tkCells L)) := HR3.out.below hb4
      have HB4 : Hid (Below w.heap.size w w4) := HB3.out.trans (hb4.mono HB3.out.size)
      clear hb4 HM3 HR3 HV3 HB3
      have htl : T2.length ≤ 300 := by rw [HTl.out]; exact hL
      go_wp2_with fail
      refine (refs7_any _ T2 _ HM4.out (by omega)).mono ?_
      rintro e0 w5 ⟨v5, rfl, hown5, hb5⟩
      have HM5 : Hid (IsRow w5 6 v5 T2.length (tkCells T2)) := IsRow.own hown5
      have HR5 : Hid (IsRow w5 6 (.slice a1 L.length cap1) L.length (tkCells L)) := HR4.out.below hb5
      have HB5 : Hid (Below w.heap.size w w5) := HB4.out.trans (hb5.mono HB4.out.size)
      clear hown5 hb5 HM4 HR4 HB4
      go_wp2_with fail
      refine (refs7_any _ L _ HR5.out (by omega)).mono ?_
      rintro e0 w6 ⟨v6, rfl, hown6, hb6⟩
      have HM6 : Hid (IsRow w6 6 v5 T2.length (tkCells T2)) := HM5.out.below hb6
      have HR6 : Hid (IsRow w6 6 v6 L.length (tkCells L)) := IsRow.own hown6
      have HB6 : Hid (Below w.heap.size w w6) := HB5.out.trans (hb6.mono HB5.out.size)
      clear hown6 hb6 HM5 HR5 HB5
      go_wp2_with fail
      refine (HSm.out _ _ _ HM6.out HR6.out).mono ?_
      rintro e0 w7 ⟨rfl, hb7⟩
      have HB7 : Hid (Below w.heap.size w w7) := HB6.out.trans (hb7.mono HB6.out.size)
      clear hb7 HM6 HR6 HB6
      go_wp2_with fail
      refine (HRn.out _).mono ?_
      rintro e0 w8 ⟨v8, rfl, hr8, hb8⟩
      obtain ⟨a8, cap8, rfl⟩ := hr8.form
      have HB8 : Hid (Below w.heap.size w w8) := HB7.out.trans (hb8.mono HB7.out.size)
      rw [← HN.out]
      clear hr8 hb8 HB7
      go_wp2
      go_ret
      exact ⟨rfl, HB8.out⟩
end Go.Proofs.YtmfeoiblhjfpjaaGreatDoor
/- What the listed variables give; and a world that meets the condition. -/
namespace Go.Proofs.YtmfeoiblhjfpjaaGreatDoor
open Go.ChangeShapes Go.WideShapes Go.ChangeAt Go.WideMaps Go.WideElems Go.RowKit

theorem own : ownKnob Tryz.prog.godebug = none := by kernel_rfl
theorem laidOut : laidOutB Tryz.prog = true := by kernel_rfl
def laidV : List (String × DataW Unit) := [("math/bits.deBruijn32tab", Rows.laid_math_bits_deBruijn32tab), ("math/bits.deBruijn64tab", Rows.laid_math_bits_deBruijn64tab), ("internal/strconv.uint64pow10", Rows.laid_internal_strconv_uint64pow10), ("unicode/utf8.acceptRanges", Rows.laid_unicode_utf8_acceptRanges), ("strconv.ErrRange", Rows.laid_strconv_ErrRange), ("strconv.ErrSyntax", Rows.laid_strconv_ErrSyntax), ("unicode/utf8.first", Rows.laid_unicode_utf8_first)]
theorem accept_eq : (Rows.laid_unicode_utf8_acceptRanges : DataW Unit) = Lib.acceptData := by kernel_rfl
theorem first_eq : Rows.laid_unicode_utf8_first = Lib.firstData := Pinned.utf8First_eq
def tab64 : List Int := [0, 1, 56, 2, 57, 49, 28, 3, 61, 58, 42, 50, 38, 29, 17, 4, 62, 47, 59, 36, 45, 43, 51, 22, 53, 39, 33, 30, 24, 18, 12, 5, 63, 55, 48, 27, 60, 41, 37, 16, 46, 35, 44, 21, 52, 32, 23, 11, 54, 26, 40, 15, 34, 20, 31, 10, 25, 14, 19, 9, 13, 8, 7, 6]
theorem g64 : Tryz.prog.globalNamed "math/bits.deBruijn64tab" = some 5 := by kernel_rfl
theorem t64 : (Tryz.prog.globals[5]?).map (·.type) = some 137 := by kernel_rfl
theorem ml_of {W : World} (h : W.ShapedOpen Tryz.prog) : ML W :=
  cell_of_shapedOpen_int (P := Tryz.prog) (g := 2) (t := 3) (zero := #[.int .i64 0]) (k := .i64) h (of_decide_eq_true (by kernel_rfl)) (by kernel_rfl) rfl (by kernel_rfl) (by kernel_rfl) Tryz.underlying3
theorem vt_of {W : World} (h : laidMetH Tryz.prog laidV W) (hsh : W.ShapedOpen Tryz.prog) : VT W := by
  rw [MakeChecks.laidMetH_plain _ _ _ (by kernel_rfl)] at h
  have h2 := laidMet.tail h
  have h3 : Lib.TabIs Tryz.prog W "math/bits.deBruijn64tab" .u8 tab64 := Lib.tabIs_of_head g64 t64 Tryz.underlying137 Tryz.underlying5 (by kernel_rfl) (by kernel_rfl) h2
  refine ⟨?_, h3.cell g64 15 (by decide), ml_of hsh⟩
  exact utf8Tabs_of_readsT (U8Types.of196 Tryz.lays196) ⟨by kernel_rfl, by kernel_rfl, by kernel_rfl, by kernel_rfl, by kernel_rfl, by kernel_rfl, by kernel_rfl⟩ (first_eq ▸ Lib.laidMet.reads h (.tail _ (.tail _ (.tail _ (.tail _ (.tail _ (.tail _ (.head _)))))))) (accept_eq ▸ Lib.laidMet.reads h (.tail _ (.tail _ (.tail _ (.head _)))))
theorem all_met (os : Os) (args : Array Value) : laidMetH Tryz.prog laidV ((World.laidAll Tryz.prog os laidV).forCall (fun _ _ => 0) ⟨#[], args, []⟩).memory := by
  rw [MakeChecks.laidMetH_plain _ _ _ (by kernel_rfl)]
  exact laidMet_laidAll _ (by kernel_rfl) (by kernel_rfl)
theorem all_shaped (os : Os) : (World.laidAll Tryz.prog os laidV).Shaped Tryz.prog := World.shaped_of_ZipB (by kernel_rfl) (by kernel_rfl)
end Go.Proofs.YtmfeoiblhjfpjaaGreatDoor
