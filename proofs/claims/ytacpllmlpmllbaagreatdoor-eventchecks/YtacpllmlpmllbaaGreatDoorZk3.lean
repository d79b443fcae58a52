/- The reference's Valid and Runes: walks. -/
import Derived.Test.YtacpllmlpmllbaaGreatDoorZk2
import Derived.Test.YtacpllmlpmllbaaGreatDoorZk1
import Derived.Lib.RuneCountTail
import Derived.RegionTactic
import Derived.Deep.QuietTactic
import Derived.BigQuiet
import Derived.Deep.RegionHeld3
namespace Go.Proofs.YtacpllmlpmllbaaGreatDoor
open Go.RowKit Go.Lib

theorem ext_list (s : ByteArray) (pos : Nat) : (s.extract pos s.size).data.toList = s.data.toList.drop pos := by
  rw [extract_data]
  apply List.take_of_length_le
  rw [List.length_drop, Array.length_toList]
  exact Nat.le_refl _
theorem fst_at (s : ByteArray) (pos : Nat) (h : pos < s.size) : fst (s.extract pos s.size) = if (Utf8.decode s pos).1 = 65533 ∧ (Utf8.decode s pos).2 = 1 then (0, 0) else Utf8.decode s pos := by
  have e : Utf8.decode (s.extract pos s.size) 0 = Utf8.decode s pos := by
    rw [← decodeL_drop, ← decodeL_drop, List.drop_zero, ext_list]
  have hz : ¬ (s.extract pos s.size).size = 0 := by rw [tail_size]; omega
  unfold fst
  rw [e]
  simp only [hz, false_or]
theorem drop_ne (s : ByteArray) (pos : Nat) (h : pos < s.size) : s.data.toList.drop pos ≠ [] := by
  intro e
  have := congrArg List.length e
  rw [List.length_drop, Array.length_toList] at this
  have e2 : s.data.size = s.size := rfl
  simp at this
  omega
theorem valid_at (s : ByteArray) (pos : Nat) (h : pos < s.size) : validD (s.data.toList.drop pos) = if (Utf8.decode s pos).1 = 65533 ∧ (Utf8.decode s pos).2 = 1 then false else validD (s.data.toList.drop (pos + (Utf8.decode s pos).2)) := by
  rw [validD_step _ (drop_ne s pos h), decodeL_drop, List.drop_drop]
theorem width_le (s : ByteArray) (pos : Nat) (h : pos < s.size) : pos + (Utf8.decode s pos).2 ≤ s.size := by
  have h1 := decodeL_le _ (drop_ne s pos h)
  rw [decodeL_drop, List.length_drop, Array.length_toList] at h1
  have e2 : s.data.size = s.size := rfl
  omega
theorem slice_ok (s : ByteArray) (pos : Nat) : (s.extract pos s.size).size ≤ s.size := by rw [tail_size]; omega

set_option maxRecDepth 100000 in
set_option maxHeartbeats 2000000 in
theorem refValid_any (s : ByteArray) (w : World) (hs : s.size ≤ 140737488355328) :
    Calls Tryz.prog 90 #[.string s] w fun e w' => e = .returned (.bool (validD s.data.toList)) ∧ Below w.heap.size w w' := by
  obtain ⟨V, HV⟩ : ∃ V, Hid (validD s.data.toList = V) := ⟨_, rfl⟩
  rw [HV.out]
  go_enter Tryz.func90, Tryz.ntmps90
  go_wp2
  go_loopw [3] (fun i wr => ∃ pos : Nat, pos ≤ s.size ∧ i = .int .i64 pos ∧ Hid (validD (s.data.toList.drop pos) = V) ∧ Below w.heap.size w wr) (fun i _ => s.size - (RowKit.intOf i).toNat)
  case atStart => exact ⟨0, Nat.zero_le _, rfl, HV, Below.refl _ _⟩
  case round =>
    obtain ⟨pos, hp, rfl, hv, hb⟩ := hrel
    by_cases hlt : pos < s.size
    · have hi : (pos : Int) < s.size := by omega
      have hsl := slice_ok s pos
      have hwl := width_le s pos hlt
      have hw1 := width_pos s pos
      have hfa := fst_at s pos hlt
      have hva : Hid _ := valid_at s pos hlt
      have hbs := hb.size
      by_cases hbad : (Utf8.decode s pos).1 = 65533 ∧ (Utf8.decode s pos).2 = 1
      · rw [if_pos hbad] at hfa
        have HR : Hid (false = V) := by show _ = _; rw [← hv.out, hva.out, if_pos hbad]
        clear hva hbad hwl hw1
        go_wp2_with fail
        refine (first_any _ _ (by omega)).mono ?_
        rintro e w1 ⟨rfl, hb1⟩
        rw [hfa]
        have hb2 : Hid (Below w.heap.size w w1) := hb.trans (hb1.mono hb.size)
        have hs1 := hb1.size
        clear hb1 hfa
        go_wp2
        go_ret
        exact ⟨by rw [← HR.out]; rfl, hb2.out.alloc (by omega) _⟩
      · rw [if_neg hbad] at hfa
        have HR : Hid (validD (s.data.toList.drop (pos + (Utf8.decode s pos).2)) = V) := by show _ = _; rw [← hv.out, hva.out, if_neg hbad]
        clear hva hbad
        generalize (Utf8.decode s pos) = dc at *
        obtain ⟨c, d⟩ := dc
        simp only at hwl hw1 HR
        have hd0 : ((d : Int) == 0) = false := by rw [beq_eq_false_iff_ne]; omega
        go_wp2_with fail
        refine (first_any _ _ (by omega)).mono ?_
        rintro e w1 ⟨rfl, hb1⟩
        rw [show (fst (s.extract pos s.size)).1 = c by rw [hfa], show (fst (s.extract pos s.size)).2 = d by rw [hfa]]
        have hb2 : Hid (Below w.heap.size w w1) := hb.trans (hb1.mono hb.size)
        have hs1 := hb1.size
        clear hb1 hfa
        go_wp2
        go_roundw
        case rel => exact ⟨pos + d, hwl, by go_num, HR, hb2.out.alloc (by omega) _⟩
        case measure => simp [RowKit.intOf]; omega
    · have HR : Hid (true = V) := by
        show _ = _
        rw [← hv.out, List.drop_of_length_le (by rw [Array.length_toList]; exact Nat.le_of_not_lt hlt)]
        rfl
      have hp' : pos = s.size := by omega
      subst hp'
      go_wp2
      go_ret
      exact ⟨by rw [← HR.out]; rfl, hb⟩

theorem owns_below' {w w1 : World} {base : Nat} {e : TypeId} {sz : Nat} {v : Value} {n : Nat} {xs : List Value} (h : w.ownsRow base e sz v n xs) (hb : Below w.heap.size w w1) : w1.ownsRow base e sz v n xs :=
  h.kept (row := none) ⟨hb.os, hb.tape, hb.output, hb.size, fun k hk _ => hb.block k hk⟩ (by cases hv : v.ownBlock <;> simp)
def icells (l : List Nat) : List Value := l.map fun (c : Nat) => Value.int .i64 (c : Int)
theorem info_int : (Tryz.prog.info? 3).map (fun i => (i.zero, i.size, i.bytes)) = some (some (.int .i64 0), 1, 8) := by kernel_rfl
/-- What Runes leaves. -/
def RnPost (l : List Nat) (w : World) (e : Ending) (w' : World) : Prop :=
  ∃ v, e = .returned v ∧ IsRow w' 1 v l.length (icells l) ∧ Below w.heap.size w w'
def RnRel (s : ByteArray) (w : World) (t i : Value) (wr : World) : Prop :=
  ∃ (pos : Nat) (acc : List Nat), pos ≤ s.size ∧ i = .int .i64 pos ∧ wr.ownsRow w.heap.size 3 1 t acc.length (icells acc) ∧ Below w.heap.size w wr ∧ acc ++ rns (s.data.toList.drop pos) = rns s.data.toList ∧ validD (s.data.toList.drop pos) = true ∧ acc.length ≤ pos

set_option maxRecDepth 100000 in
set_option maxHeartbeats 2000000 in
theorem refRunes_any (s : ByteArray) (w : World) (hs : s.size ≤ 1000000) (hvs : validD s.data.toList = true) :
    Calls Tryz.prog 91 #[.string s] w fun e w' => RnPost (rns s.data.toList) w e w' := by
  obtain ⟨i0, hi0, hz0, hz1, hz2⟩ := info_parts info_int
  go_enter Tryz.func91, Tryz.ntmps91
  go_wp2
  go_loopw [3, 4] (fun t i wr => RnRel s w t i wr) (fun _ i _ => s.size - (RowKit.intOf i).toNat)
  case atStart => exact ⟨0, [], Nat.zero_le _, rfl, World.ownsRow_nil _ _ _ _, Below.refl _ _, rfl, hvs, Nat.le_refl _⟩
  case round =>
    obtain ⟨pos, acc, hp, rfl, hown, hb, hck, hv, hal⟩ := hrel
    have HC : Hid (acc ++ rns (s.data.toList.drop pos) = rns s.data.toList) := hck
    have HV : Hid (validD (s.data.toList.drop pos) = true) := hv
    clear hck hv
    by_cases hlt : pos < s.size
    · have hi : (pos : Int) < s.size := by omega
      have hsl := slice_ok s pos
      have hwl := width_le s pos hlt
      have hw1 := width_pos s pos
      have hfa := fst_at s pos hlt
      have hbs := hb.size
      have hbad : ¬ ((Utf8.decode s pos).1 = 65533 ∧ (Utf8.decode s pos).2 = 1) := by
        intro h
        have := HV.out
        rw [valid_at s pos hlt, if_pos h] at this
        cases this
      have HV2 : Hid (validD (s.data.toList.drop (pos + (Utf8.decode s pos).2)) = true) := by
        have := HV.out
        rw [valid_at s pos hlt, if_neg hbad] at this
        exact this
      have HC2 : Hid ((acc ++ [(Utf8.decode s pos).1]) ++ rns (s.data.toList.drop (pos + (Utf8.decode s pos).2)) = rns s.data.toList) := by
        show _ = _
        rw [← HC.out, rns_at s pos hlt]
        simp
      rw [if_neg hbad] at hfa
      clear hbad HC HV
      generalize (Utf8.decode s pos) = dc at *
      obtain ⟨c, d⟩ := dc
      simp only at hwl hw1 HC2 HV2
      have hd0 : ((d : Int) == 0) = false := by rw [beq_eq_false_iff_ne]; omega
      have HX : Hid (icells acc ++ [Value.int .i64 (c : Nat)] = icells (acc ++ [c])) := by show _ = _; simp [icells]
      go_wp2_with fail
      refine (first_any _ _ (by omega)).mono ?_
      rintro e w1 ⟨rfl, hb1⟩
      rw [show (fst (s.extract pos s.size)).1 = c by rw [hfa], show (fst (s.extract pos s.size)).2 = d by rw [hfa]]
      have hb2 := hb.trans (hb1.mono hb.size)
      have hs1 := hb1.size
      have hown1 := owns_below' hown hb1
      clear hb1 hfa hown
      have hne : u3.ownBlock ≠ some w1.heap.size := fun e => by have := (hown1.lt _ e).2; omega
      have hownA := hown1.alloc (.cells #[Value.int .i64 c, .int .i64 d] 177)
      go_wp2_with (at_builtin; refine wpl_apps _ rfl (.tmp 18) (.tmp 21) 124 3 rfl i0 _ 8 Tryz.underlying124 hi0 hz0 hz1 hz2 rfl _ _ _ _ rfl hownA (.int .i64 (c : Nat)) (w1.heap.size + 1) (by simp) rfl rfl (by omega) (by unfold maxLen; omega) (by simp; omega) ?_; intro v3 w3 hown3 hb3 hst3; have hc3 : w3.cell? ⟨w1.heap.size, 1, none⟩ = some (.int .i64 d) := (World.cell?_of_block (a := ⟨w1.heap.size, 1, none⟩) (hst3 w1.heap.size (by simp) hne)).trans (by simp))
      have HO : Hid (w3.ownsRow w.heap.size 3 1 v3 (acc ++ [c]).length (icells (acc ++ [c]))) := by
        show World.ownsRow _ _ _ _ _ _ _
        rw [← HX.out, List.length_append]
        exact hown3
      have HB : Hid (Below w.heap.size w w3) := (hb2.alloc (by omega) _).trans hb3
      clear hst3 hown3 hb3 hown1 hownA hb2
      go_wp2
      go_roundw
      case rel => exact ⟨pos + d, acc ++ [c], hwl, by go_num, HO.out, HB.out, HC2.out, HV2.out, by simp; omega⟩
      case measure => simp [RowKit.intOf]; omega
    · have HC2 : Hid (acc = rns s.data.toList) := by show _ = _; rw [← HC.out, rns_end s pos hlt]; simp
      have HO : Hid (IsRow wr 1 u3 acc.length (icells acc)) := IsRow.own hown
      have hp' : pos = s.size := by omega
      clear HC hown HV
      subst hp'
      go_wp2
      go_ret
      refine ⟨_, rfl, ?_, hb⟩
      rw [← HC2.out]
      exact HO.out
end Go.Proofs.YtacpllmlpmllbaaGreatDoor
/- name.compareRunes, Compare, Same: walks. -/
namespace Go.Proofs.YtacpllmlpmllbaaGreatDoor
open Go.RowKit

theorem nan_any (c : Int) (w : World) :
    Calls Tryz.prog 208 #[.int .i32 c] w fun e w' => e = .returned (.bool false) ∧ w' = w := by
  go_enter Tryz.func208, Tryz.ntmps208
  go_wp2
  go_ret
  exact ⟨by simp, rfl⟩
def ordN (a b : Nat) : Int := if a < b then -1 else if b < a then 1 else 0
set_option maxHeartbeats 1000000 in
theorem cmpRune_any (a b : Nat) (w : World) :
    Calls Tryz.prog 167 #[.int .i32 (a : Nat), .int .i32 (b : Nat)] w fun e w' => e = .returned (.int .i64 (ordN a b)) ∧ w' = w := by
  by_cases h1 : a < b
  · have h1' : (a : Int) < b := by omega
    have e : ordN a b = -1 := if_pos h1
    rw [e]
    go_enter Tryz.func167, Tryz.ntmps167
    go_wp2_with (go_at_call 208; refine (nan_any _ _).mono ?_; rintro e w' ⟨rfl, rfl⟩)
    go_ret
    exact ⟨rfl, rfl⟩
  · have h1' : ¬ (a : Int) < b := by omega
    by_cases h2 : b < a
    · have h2' : (b : Int) < a := by omega
      have e : ordN a b = 1 := by rw [ordN, if_neg h1, if_pos h2]
      rw [e]
      go_enter Tryz.func167, Tryz.ntmps167
      go_wp2_with (go_at_call 208; refine (nan_any _ _).mono ?_; rintro e w' ⟨rfl, rfl⟩)
      go_ret
      exact ⟨rfl, rfl⟩
    · have h2' : ¬ (b : Int) < a := by omega
      have e : ordN a b = 0 := by rw [ordN, if_neg h1, if_neg h2]
      rw [e]
      go_enter Tryz.func167, Tryz.ntmps167
      go_wp2_with (go_at_call 208; refine (nan_any _ _).mono ?_; rintro e w' ⟨rfl, rfl⟩)
      go_ret
      exact ⟨rfl, rfl⟩

def smalls (l : List UInt8) : List Nat := (rns l).map smallN
def CrRel (a b : ByteArray) (C : Int) (w : World) (t : Value) (wr : World) : Prop :=
  ∃ (pos : Nat) (B : ByteArray), t = .string B ∧ B.size ≤ b.size ∧ wr.heap[w.heap.size]? = some (.stringIter a pos) ∧ Below w.heap.size w wr ∧ cmpR (smalls (a.data.toList.drop pos)) (smalls B.data.toList) = C
theorem dec_go (B : ByteArray) (h : B.size ≠ 0) : Lib.decodeGo B = Utf8.decode B 0 := if_neg h
theorem smalls_ne (B : ByteArray) (h : B.size ≠ 0) : smalls B.data.toList = smallN (Utf8.decode B 0).1 :: smalls ((B.extract (Utf8.decode B 0).2 B.size).data.toList) := by
  have e := rns_at B 0 (by omega)
  rw [List.drop_zero, Nat.zero_add] at e
  unfold smalls
  rw [e, List.map_cons, ext_list]
theorem smalls_nil (B : ByteArray) (h : B.size = 0) : smalls B.data.toList = [] := by
  have : B.data.toList = [] := List.eq_nil_of_length_eq_zero (by rw [Array.length_toList]; exact h)
  rw [this]
  rfl
theorem wid_le (B : ByteArray) (h : B.size ≠ 0) : (Utf8.decode B 0).2 ≤ B.size := by
  have hne : B.data.toList ≠ [] := by
    intro e
    have := congrArg List.length e
    rw [Array.length_toList] at this
    exact h this
  have h1 := Lib.decodeL_le _ hne
  have e : Lib.decodeL B.data.toList = Utf8.decode B 0 := by have := Lib.decodeL_drop B 0; rwa [List.drop_zero] at this
  rw [e, Array.length_toList] at h1
  exact h1
theorem empty_is (B : ByteArray) (h : B.size = 0) : B.toList.isEmpty = true := by
  rw [ByteArray.toList_eq]
  have : B.data.toList = [] := List.eq_nil_of_length_eq_zero (by rw [Array.length_toList]; exact h)
  rw [this]; rfl
theorem empty_not (B : ByteArray) (h : B.size ≠ 0) : B.toList.isEmpty = false := by
  rw [ByteArray.toList_eq]
  cases e : B.data.toList with
  | nil => exact absurd (by have := congrArg List.length e; rwa [Array.length_toList] at this) h
  | cons b l => rfl
theorem ext_size (B : ByteArray) (k : Nat) : (B.extract k B.size).size ≤ B.size := by rw [ByteArray.size_extract]; omega

set_option maxRecDepth 100000 in
set_option maxHeartbeats 2000000 in
theorem cmpRunes_any (a b : ByteArray) (w : World) (hT : UT w) :
    Calls Tryz.prog 112 #[.string a, .string b] w fun e w' => e = .returned (.int .i64 (cmpR (smalls a.data.toList) (smalls b.data.toList))) ∧ Below w.heap.size w w' := by
  obtain ⟨C, HC⟩ : ∃ C, Hid (cmpR (smalls a.data.toList) (smalls b.data.toList) = C) := ⟨_, rfl⟩
  rw [HC.out]
  go_enter Tryz.func112, Tryz.ntmps112
  go_wp2
  go_loopw [1] (fun t wr => CrRel a b C w t wr) (fun _ wr => a.size - wr.iterPos w.heap.size)
  case atStart =>
    refine ⟨0, b, rfl, Nat.le_refl _, ?_, (Below.refl _ _).alloc (Nat.le_refl _) _, HC.out⟩
    have := World.iter_heap w a 0
    simpa using this
  case round =>
    obtain ⟨pos, B, rfl, hB, hit, hbw, hck⟩ := hrel
    have HK : Hid (cmpR (smalls (a.data.toList.drop pos)) (smalls B.data.toList) = C) := hck
    clear hck HC
    have hsz : w.heap.size < wr.heap.size := (Array.getElem?_eq_some_iff.1 hit).1
    by_cases hp : pos < a.size
    · have hnx : ∀ ty, (Instr.next (.pointer (some ⟨w.heap.size, 0, none⟩)) true ty).run Tryz.prog wr = _ := fun ty => Lib.run_next_any_at wr w.heap.size a pos ty hit hp
      have hwd := Lib.decode_width_pos a pos hp
      have hit2 := Lib.iterAt_heap wr w.heap.size a pos (pos + (Utf8.decode a pos).2) hit
      have hbw2 := Lib.below_iterAt hbw (k := w.heap.size) (Nat.le_refl _) a (pos + (Utf8.decode a pos).2)
      have hrl := Lib.rune_le a pos
      have hrn : Hid (smalls (a.data.toList.drop pos) = smallN (Utf8.decode a pos).1 :: smalls (a.data.toList.drop (pos + (Utf8.decode a pos).2))) := by show _ = _; unfold smalls; rw [rns_at a pos hp]; rfl
      have hmeas : Hid (a.size - (pos + (Utf8.decode a pos).2) < a.size - wr.iterPos w.heap.size) := by
        show _ < _
        rw [iterPos_of hit]; omega
      generalize (Utf8.decode a pos).1 = c at *
      generalize (Utf8.decode a pos).2 = d at *
      generalize hW : wr.iterAt w.heap.size a (pos + d) = W at *
      have hmW : Hid (W.iterPos w.heap.size = pos + d) := iterPos_of hit2
      have hszW : w.heap.size < W.heap.size := (Array.getElem?_eq_some_iff.1 hit2).1
      clear hW hit hbw
      by_cases h0 : B.size = 0
      · have he := empty_is B h0
        have HR : Hid (1 = C) := by show _ = _; rw [← HK.out, hrn.out, smalls_nil B h0]; rfl
        clear HK hrn
        go_wp2_with fail
        go_ret
        exact ⟨by rw [← HR.out]; rfl, hbw2⟩
      · have he := empty_not B h0
        have hdg := dec_go B h0
        have hsn : Hid _ := smalls_ne B h0
        have hwl := wid_le B h0
        have hrb := Lib.rune_le B 0
        have hex := ext_size B (Utf8.decode B 0).2
        generalize (Utf8.decode B 0) = dc at *
        obtain ⟨x, y⟩ := dc
        simp only at hwl hrb hex
        have HK2 : Hid (cmpR (smallN c :: smalls (a.data.toList.drop (pos + d))) (smallN x :: smalls ((B.extract y B.size).data.toList)) = C) := by show _ = _; rw [← hrn.out, ← hsn.out]; exact HK.out
        clear hrn hsn HK
        go_wp2_with fail
        refine (Tryz.utf8_DecodeRuneInString B _ (Utf8Tabs_below hT hbw2)).mono ?_
        rintro e w3 ⟨rfl, hb3⟩
        rw [show (Lib.decodeGo B).1 = x by rw [hdg], show (Lib.decodeGo B).2 = y by rw [hdg]]
        have hbw3 := hbw2.trans (hb3.mono hbw2.size)
        have hit3 : Hid (w3.heap[w.heap.size]? = some (.stringIter a (pos + d))) := (hb3.block _ hszW).trans hit2
        have hmW3 : Hid (w3.iterPos w.heap.size = pos + d) := iterPos_of hit3.out
        clear hb3 hbw2 hit2 hdg
        by_cases h1 : smallN c < smallN x
        · have ho : ordN (smallN c) (smallN x) = -1 := if_pos h1
          have HR : Hid (-1 = C) := by show _ = _; rw [← HK2.out, cmpR, if_pos h1]
          clear HK2 h1
          go_wp2_with (first | (go_at_call 168; refine (small_any _ _ (by omega) (by omega)).mono ?_; rintro e w' ⟨rfl, rfl⟩; rw [smallZ_nat]) | (go_at_call 167; refine (cmpRune_any _ _ _).mono ?_; rintro e w' ⟨rfl, rfl⟩; rw [ho]))
          go_ret
          exact ⟨by rw [← HR.out]; rfl, hbw3⟩
        · by_cases h2 : smallN x < smallN c
          · have ho : ordN (smallN c) (smallN x) = 1 := by rw [ordN, if_neg h1, if_pos h2]
            have HR : Hid (1 = C) := by show _ = _; rw [← HK2.out, cmpR, if_neg h1, if_pos h2]
            clear HK2 h1 h2
            go_wp2_with (first | (go_at_call 168; refine (small_any _ _ (by omega) (by omega)).mono ?_; rintro e w' ⟨rfl, rfl⟩; rw [smallZ_nat]) | (go_at_call 167; refine (cmpRune_any _ _ _).mono ?_; rintro e w' ⟨rfl, rfl⟩; rw [ho]))
            go_ret
            exact ⟨by rw [← HR.out]; rfl, hbw3⟩
          · have ho : ordN (smallN c) (smallN x) = 0 := by rw [ordN, if_neg h1, if_neg h2]
            have HR : Hid (cmpR (smalls (a.data.toList.drop (pos + d))) (smalls ((B.extract y B.size).data.toList)) = C) := by show _ = _; rw [← HK2.out, cmpR, if_neg h1, if_neg h2]
            clear HK2 h1 h2
            go_wp2_with (first | (go_at_call 168; refine (small_any _ _ (by omega) (by omega)).mono ?_; rintro e w' ⟨rfl, rfl⟩; rw [smallZ_nat]) | (go_at_call 167; refine (cmpRune_any _ _ _).mono ?_; rintro e w' ⟨rfl, rfl⟩; rw [ho]))
            go_roundw
            case rel => exact ⟨pos + d, B.extract y B.size, rfl, by omega, hit3.out, hbw3, HR.out⟩
            case measure => rw [hmW3.out]; exact hmeas.out
    · have hnx : ∀ ty, (Instr.next (.pointer (some ⟨w.heap.size, 0, none⟩)) true ty).run Tryz.prog wr = _ := fun ty => Lib.run_next_end_at wr w.heap.size a pos ty hit hp
      have hn : smalls (a.data.toList.drop pos) = [] := by unfold smalls; rw [rns_end a pos hp]; rfl
      by_cases h0 : B.size = 0
      · have HR : Hid (0 = C) := by show _ = _; rw [← HK.out, hn, smalls_nil B h0]; rfl
        have hz : (B.size : Int) = 0 := by omega
        clear HK hn
        go_wp2_with fail
        go_ret
        exact ⟨by rw [← HR.out]; rfl, hbw⟩
      · have HR : Hid (-1 = C) := by show _ = _; rw [← HK.out, hn, smalls_ne B h0]; rfl
        have hm : min (B.size : Int) 1 = 1 := by omega
        clear HK hn
        go_wp2_with fail
        go_ret
        exact ⟨by rw [← HR.out]; rfl, hbw⟩

theorem smalls_scal (l : List UInt8) : ∀ c ∈ smalls l, scal c := by
  intro c hc
  obtain ⟨x, hx, rfl⟩ := List.mem_map.1 hc
  exact smallN_scal (rns_scal l x hx)
theorem cmpL_runes {a b : List UInt8} (ha : Lib.validD a = true) (hb : Lib.validD b = true) : cmpR (smalls a) (smalls b) = cmpL a b := by
  unfold cmpL
  rw [foldL, foldL, if_pos ha, if_pos hb]
  exact (cmp_enc _ _ (smalls_scal a) (smalls_scal b)).symm

set_option maxHeartbeats 1000000 in
theorem compare_any (a b : ByteArray) (w : World) (ha : a.size ≤ 1000000) (hb : b.size ≤ 1000000) (hT : UT w) :
    Calls Tryz.prog 65 #[.string a, .string b] w fun e w' => e = .returned (.int .i64 (cmpL a.data.toList b.data.toList)) ∧ Below w.heap.size w w' := by
  by_cases va : Lib.validD a.data.toList = true
  · by_cases vb : Lib.validD b.data.toList = true
    · have HC : Hid (cmpR (smalls a.data.toList) (smalls b.data.toList) = cmpL a.data.toList b.data.toList) := cmpL_runes va vb
      go_enter Tryz.func65, Tryz.ntmps65
      go_wp2_with fail
      refine (Tryz.utf8_ValidString a _ (by omega) hT).mono ?_
      rintro e w1 ⟨rfl, hb1⟩
      rw [va]
      go_wp2_with fail
      refine (Tryz.utf8_ValidString b _ (by omega) (Utf8Tabs_below hT hb1)).mono ?_
      rintro e w2 ⟨rfl, hb2⟩
      rw [vb]
      have hbb := hb1.trans (hb2.mono hb1.size)
      clear hb1 hb2
      go_wp2_with fail
      refine (cmpRunes_any a b _ (Utf8Tabs_below hT hbb)).mono ?_
      rintro e w3 ⟨rfl, hb3⟩
      rw [HC.out]
      have hbb3 : Hid (Below w.heap.size w w3) := hbb.trans (hb3.mono hbb.size)
      clear hbb hb3
      go_wp2
      go_ret
      exact ⟨rfl, hbb3.out⟩
    · have vb' : Lib.validD b.data.toList = false := by simpa using vb
      go_enter Tryz.func65, Tryz.ntmps65
      go_wp2_with fail
      refine (Tryz.utf8_ValidString a _ (by omega) hT).mono ?_
      rintro e w1 ⟨rfl, hb1⟩
      rw [va]
      go_wp2_with fail
      refine (Tryz.utf8_ValidString b _ (by omega) (Utf8Tabs_below hT hb1)).mono ?_
      rintro e w2 ⟨rfl, hb2⟩
      rw [vb']
      have hbb := hb1.trans (hb2.mono hb1.size)
      clear hb1 hb2
      go_wp2_with fail
      refine (fold_any a _ ha (Utf8Tabs_below hT hbb)).mono ?_
      rintro e w3 ⟨rfl, hb3⟩
      have hbb3 := hbb.trans (hb3.mono hbb.size)
      clear hbb hb3
      go_wp2_with fail
      refine (fold_any b _ hb (Utf8Tabs_below hT hbb3)).mono ?_
      rintro e w4 ⟨rfl, hb4⟩
      have hbb4 : Hid (Below w.heap.size w w4) := hbb3.trans (hb4.mono hbb3.size)
      clear hbb3 hb4
      go_wp2_with fail
      refine (Tryz.strings_Compare _ _ _).mono ?_
      rintro e w5 ⟨rfl, rfl⟩
      rw [str_data, str_data]
      go_wp2
      go_ret
      exact ⟨rfl, hbb4.out⟩
  · have va' : Lib.validD a.data.toList = false := by simpa using va
    go_enter Tryz.func65, Tryz.ntmps65
    go_wp2_with fail
    refine (Tryz.utf8_ValidString a _ (by omega) hT).mono ?_
    rintro e w1 ⟨rfl, hbb⟩
    rw [va']
    go_wp2_with fail
    refine (fold_any a _ ha (Utf8Tabs_below hT hbb)).mono ?_
    rintro e w3 ⟨rfl, hb3⟩
    have hbb3 := hbb.trans (hb3.mono hbb.size)
    clear hbb hb3
    go_wp2_with fail
    refine (fold_any b _ hb (Utf8Tabs_below hT hbb3)).mono ?_
    rintro e w4 ⟨rfl, hb4⟩
    have hbb4 : Hid (Below w.heap.size w w4) := hbb3.trans (hb4.mono hbb3.size)
    clear hbb3 hb4
    go_wp2_with fail
    refine (Tryz.strings_Compare _ _ _).mono ?_
    rintro e w5 ⟨rfl, rfl⟩
    rw [str_data, str_data]
    go_wp2
    go_ret
    exact ⟨rfl, hbb4.out⟩

theorem cb_zero : ∀ (a b : List UInt8), Lib.compareBytes a b = 0 → a = b
  | [], [] => fun _ => rfl
  | [], b :: l => by simp [Lib.compareBytes]
  | a :: k, [] => by simp [Lib.compareBytes]
  | a :: k, b :: l => by
    simp only [Lib.compareBytes]
    split
    · intro h; cases h
    split
    · intro h; cases h
    · rename_i h1 h2
      intro h
      have e : a = b := UInt8.le_antisymm (UInt8.not_lt.1 h2) (UInt8.not_lt.1 h1)
      rw [e, cb_zero k l h]
theorem cb_self : ∀ l : List UInt8, Lib.compareBytes l l = 0
  | [] => rfl
  | b :: l => by simp [Lib.compareBytes, cb_self l]
theorem cmp_same (a b : List UInt8) : (cmpL a b == 0) = sameL a b := by
  rw [Bool.eq_iff_iff, beq_iff_eq, sameL, decide_eq_true_eq]
  exact ⟨cb_zero _ _, fun h => by unfold cmpL; rw [h]; exact cb_self _⟩
set_option maxHeartbeats 1000000 in
theorem same_any (a b : ByteArray) (w : World) (ha : a.size ≤ 1000000) (hb : b.size ≤ 1000000) (hT : UT w) :
    Calls Tryz.prog 48 #[.string a, .string b] w fun e w' => e = .returned (.bool (sameL a.data.toList b.data.toList)) ∧ Below w.heap.size w w' := by
  by_cases h : a = b
  · subst h
    have e : sameL a.data.toList a.data.toList = true := by simp [sameL]
    rw [e]
    have e2 : (a.toList == a.toList) = true := beq_self_eq_true _
    go_enter Tryz.func48, Tryz.ntmps48
    go_wp2
    go_ret
    exact ⟨rfl, Below.refl _ _⟩
  · have e2 : (a.toList == b.toList) = false := by
      rw [beq_eq_false_iff_ne, ByteArray.toList_eq, ByteArray.toList_eq]
      exact fun e => h (ba_eq e)
    have HS : Hid ((cmpL a.data.toList b.data.toList == 0) = sameL a.data.toList b.data.toList) := cmp_same _ _
    go_enter Tryz.func48, Tryz.ntmps48
    go_wp2_with fail
    refine (compare_any a b _ ha hb hT).mono ?_
    rintro e w1 ⟨rfl, hb1⟩
    go_wp2
    go_ret
    exact ⟨by rw [← HS.out]; rfl, hb1⟩
end Go.Proofs.YtacpllmlpmllbaaGreatDoor
/- Fields and attributes, plainly; schema.onePart, mayBe, byName: walks. -/
namespace Go.Proofs.YtacpllmlpmllbaaGreatDoor
open Go.RowKit

/-- A field. -/
structure Fd where
  n : ByteArray
  k : Int
  m : Bool
/-- An attribute. -/
structure At where
  n : ByteArray
  k : Int
  v : Int
  s : ByteArray
def enF (x : Fd) : List Value := [.string x.n, .int .i64 x.k, .bool x.m]
abbrev fV (x : Fd) : Value := .agg #[.string x.n, .int .i64 x.k, .bool x.m]
def enA (x : At) : List Value := [.string x.n, .int .i64 x.k, .int .i64 x.v, .string x.s]
abbrev aV (x : At) : Value := .agg #[.string x.n, .int .i64 x.k, .int .i64 x.v, .string x.s]
/-- Is a text a name of one part? -/
def oneP (s : ByteArray) : Bool := decide (checkL s.data.toList = 0) && decide ((cutB s.data.toList).length = 1)
def mayF (x : Fd) : Bool := decide (1 ≤ x.k) && (decide (x.k < 5) && oneP x.n)
set_option maxRecDepth 100000 in
theorem onePart_any (s : ByteArray) (w : World) (hs : s.size ≤ 1000000) (hM : ML w) :
    Calls Tryz.prog 138 #[.string s] w fun e w' => e = .returned (.bool (oneP s)) ∧ Below w.heap.size w w' := by
  by_cases hc : checkL s.data.toList = 0
  · have e0 : oneP s = decide ((cutB s.data.toList).length = 1) := by unfold oneP; rw [decide_eq_true hc, Bool.true_and]
    rw [e0]
    have HP : Hid (Calls Tryz.prog 192 #[.string s] w fun e w' => PaPost (cutB s.data.toList) w e w') := parts_ok s w hs hM hc
    clear e0
    generalize cutB s.data.toList = L at *
    go_enter Tryz.func138, Tryz.ntmps138
    go_wp2_with fail
    refine HP.out.mono ?_
    rintro e w1 ⟨v, rfl, hr, hb⟩
    obtain ⟨a, cap, rfl⟩ := hr.form
    have HB : Hid (Below w.heap.size w w1) := hb
    have HE : Hid (((L.length : Int) == 1) = decide (L.length = 1)) := by show _ = _; rw [Bool.eq_iff_iff]; simp; omega
    clear hr hb
    go_wp2
    go_ret
    exact ⟨by rw [← HE.out]; rfl, HB.out⟩
  · have e0 : oneP s = false := by unfold oneP; rw [decide_eq_false hc, Bool.false_and]
    rw [e0]
    go_enter Tryz.func138, Tryz.ntmps138
    go_wp2_with fail
    refine (parts_no s _ hs hc).mono ?_
    rintro e w1 ⟨rfl, hb⟩
    have HB : Hid (Below w.heap.size w w1) := hb
    clear hb
    go_wp2
    go_ret
    exact ⟨rfl, HB.out⟩
theorem al_b (w : World) (o : Obj) : Below w.heap.size w (w.alloc o) := (Below.refl _ _).alloc (Nat.le_refl _) o
set_option maxRecDepth 100000 in
theorem mayBe_any (x : Fd) (w : World) (hs : x.n.size ≤ 1000000) (hM : ML w) :
    Calls Tryz.prog 185 #[fV x] w fun e w' => e = .returned (.bool (mayF x)) ∧ Below w.heap.size w w' := by
  obtain ⟨s, k, m⟩ := x
  have hA := al_b w (.cells #[.string s, .int .i64 k, .bool m] 110)
  have HP := onePart_any s (w.alloc (.cells #[.string s, .int .i64 k, .bool m] 110)) hs (ML_below hM hA)
  have HPh : Hid (Calls Tryz.prog 138 #[.string s] (w.alloc (.cells #[.string s, .int .i64 k, .bool m] 110)) fun e w' => e = .returned (.bool (oneP s)) ∧ Below (w.alloc (.cells #[.string s, .int .i64 k, .bool m] 110)).heap.size (w.alloc (.cells #[.string s, .int .i64 k, .bool m] 110)) w') := HP
  have HA : Hid (Below w.heap.size w (w.alloc (.cells #[.string s, .int .i64 k, .bool m] 110))) := hA
  clear HP hA
  show Calls _ _ _ _ fun e w' => e = .returned (.bool (decide (1 ≤ k) && (decide (k < 5) && oneP s))) ∧ _
  by_cases h1 : 1 ≤ k
  · by_cases h5 : k < 5
    · rw [decide_eq_true h1, decide_eq_true h5, Bool.true_and, Bool.true_and]
      go_enter Tryz.func185, Tryz.ntmps185
      go_wp2_with fail
      refine HPh.out.mono ?_
      rintro e w1 ⟨rfl, hb⟩
      have HB : Hid (Below w.heap.size w w1) := HA.out.trans (hb.mono HA.out.size)
      clear hb
      go_wp2
      go_ret
      exact ⟨rfl, HB.out⟩
    · rw [decide_eq_true h1, decide_eq_false h5, Bool.true_and, Bool.false_and]
      go_enter Tryz.func185, Tryz.ntmps185
      go_wp2
      go_ret
      exact ⟨rfl, HA.out⟩
  · rw [decide_eq_false h1, Bool.false_and]
    go_enter Tryz.func185, Tryz.ntmps185
    go_wp2
    go_ret
    exact ⟨rfl, HA.out⟩
end Go.Proofs.YtacpllmlpmllbaaGreatDoor
/- value.Check: its walk, beside the names (VH over again). -/
namespace Go.Proofs.YtacpllmlpmllbaaGreatDoor
open Go.RowKit

/-- A value, as the model has it. -/
abbrev vv (k n : Int) (s : ByteArray) : Value := .agg #[.int .i64 k, .int .i64 n, .string s]
/-- May it be? -/
def chkV (k n : Int) (s : ByteArray) : Bool :=
  if k = 1 then decide (s.size = 0) && decide (-9007199254740991 ≤ n ∧ n ≤ 9007199254740991)
  else if k = 2 then decide (n = 0) && (decide (s.size ≤ 200) && Lib.validD s.data.toList)
  else if k = 3 then decide (s.size = 0) && decide (n = 0 ∨ n = 1)
  else if k = 4 then decide (n = 0) && decide (s.size ≤ 200)
  else false
set_option maxRecDepth 100000 in
set_option maxHeartbeats 2000000 in
theorem vcheck_any (k n : Int) (s : ByteArray) (w : World) (hs : s.size ≤ 140737488355328) (hT : UT w) :
    Calls Tryz.prog 96 #[vv k n s] w fun e w' => e = .returned (.bool (chkV k n s)) ∧ Below w.heap.size w w' := by
  obtain ⟨C, HC⟩ : ∃ C, Hid (chkV k n s = C) := ⟨_, rfl⟩
  rw [HC.out]
  have hb1 : Below w.heap.size w (w.alloc (.cells #[.int .i64 k, .int .i64 n, .string s] 76)) := (Below.refl _ _).alloc (Nat.le_refl _) _
  by_cases e1 : k = 1
  · subst e1
    have hc := HC.out
    simp only [chkV, if_true] at hc
    by_cases h0 : s.size = 0
    · have he := empty_is s h0
      by_cases ha : -9007199254740991 ≤ n
      · have ha' : decide (-9007199254740991 ≤ n) = true := by simpa using ha
        have HR : Hid (decide (n ≤ 9007199254740991) = C) := by show _ = _; rw [← hc, h0]; simp [ha]
        clear hc HC
        go_enter Tryz.func96, Tryz.ntmps96
        go_wp2
        go_ret
        exact ⟨by rw [← HR.out]; rfl, hb1⟩
      · have ha' : decide (-9007199254740991 ≤ n) = false := by simpa using ha
        have HR : Hid (false = C) := by show _ = _; rw [← hc, h0]; simp [ha]
        clear hc HC
        go_enter Tryz.func96, Tryz.ntmps96
        go_wp2
        go_ret
        exact ⟨by rw [← HR.out]; rfl, hb1⟩
    · have he := empty_not s h0
      have HR : Hid (false = C) := by show _ = _; rw [← hc]; simp [h0]
      clear hc HC
      go_enter Tryz.func96, Tryz.ntmps96
      go_wp2
      go_ret
      exact ⟨by rw [← HR.out]; rfl, hb1⟩
  have f1 : (k == 1) = false := by rw [beq_eq_false_iff_ne]; exact e1
  by_cases e2 : k = 2
  · subst e2
    have hc := HC.out
    simp only [chkV, e1, if_false, if_true] at hc
    by_cases h0 : n = 0
    · subst h0
      by_cases h2 : s.size ≤ 200
      · have h2' : decide ((s.size : Int) ≤ 200) = true := by simp; omega
        have HR : Hid (Lib.validD s.data.toList = C) := by show _ = _; rw [← hc]; simp [h2]
        clear hc HC e1
        go_enter Tryz.func96, Tryz.ntmps96
        go_wp2_with fail
        refine (Tryz.utf8_ValidString s _ (by omega) (Utf8Tabs_below hT hb1)).mono ?_
        rintro e w1 ⟨rfl, hb2⟩
        rw [HR.out]
        have hb3 : Hid (Below w.heap.size w w1) := hb1.trans (hb2.mono hb1.size)
        clear hb1 hb2
        go_wp2
        go_ret
        exact ⟨rfl, hb3.out⟩
      · have h2' : decide ((s.size : Int) ≤ 200) = false := by simp; omega
        have HR : Hid (false = C) := by show _ = _; rw [← hc]; simp [h2]
        clear hc HC e1
        go_enter Tryz.func96, Tryz.ntmps96
        go_wp2
        go_ret
        exact ⟨by rw [← HR.out]; rfl, hb1⟩
    · have h0' : (n == 0) = false := by rw [beq_eq_false_iff_ne]; exact h0
      have HR : Hid (false = C) := by show _ = _; rw [← hc]; simp [h0]
      clear hc HC e1
      go_enter Tryz.func96, Tryz.ntmps96
      go_wp2
      go_ret
      exact ⟨by rw [← HR.out]; rfl, hb1⟩
  have f2 : (k == 2) = false := by rw [beq_eq_false_iff_ne]; exact e2
  by_cases e3 : k = 3
  · subst e3
    have hc := HC.out
    simp only [chkV, e1, e2, if_false, if_true] at hc
    by_cases h0 : s.size = 0
    · have he := empty_is s h0
      by_cases hn : n = 0
      · subst hn
        have HR : Hid (true = C) := by show _ = _; rw [← hc, h0]; simp
        clear hc HC e1 e2
        go_enter Tryz.func96, Tryz.ntmps96
        go_wp2
        go_ret
        exact ⟨by rw [← HR.out]; rfl, hb1⟩
      · have hn' : (n == 0) = false := by rw [beq_eq_false_iff_ne]; exact hn
        have HR : Hid ((n == 1) = C) := by
          show _ = _
          rw [← hc, h0, Bool.eq_iff_iff]
          simp [hn]
        clear hc HC e1 e2
        go_enter Tryz.func96, Tryz.ntmps96
        go_wp2
        go_ret
        exact ⟨by rw [← HR.out]; rfl, hb1⟩
    · have he := empty_not s h0
      have HR : Hid (false = C) := by show _ = _; rw [← hc]; simp [h0]
      clear hc HC e1 e2
      go_enter Tryz.func96, Tryz.ntmps96
      go_wp2
      go_ret
      exact ⟨by rw [← HR.out]; rfl, hb1⟩
  have f3 : (k == 3) = false := by rw [beq_eq_false_iff_ne]; exact e3
  by_cases e4 : k = 4
  · subst e4
    have hc := HC.out
    simp only [chkV, e1, e2, e3, if_false, if_true] at hc
    by_cases h0 : n = 0
    · subst h0
      have HR : Hid (decide (s.size ≤ 200) = C) := by show _ = _; rw [← hc]; simp
      have HQ : Hid (decide ((s.size : Int) ≤ 200) = decide (s.size ≤ 200)) := by show _ = _; rw [Bool.eq_iff_iff]; simp; omega
      clear hc HC e1 e2 e3
      go_enter Tryz.func96, Tryz.ntmps96
      go_wp2
      go_ret
      exact ⟨by rw [← HR.out]; first | rfl | (rw [← HQ.out]; rfl), hb1⟩
    · have h0' : (n == 0) = false := by rw [beq_eq_false_iff_ne]; exact h0
      have HR : Hid (false = C) := by show _ = _; rw [← hc]; simp [h0]
      clear hc HC e1 e2 e3
      go_enter Tryz.func96, Tryz.ntmps96
      go_wp2
      go_ret
      exact ⟨by rw [← HR.out]; rfl, hb1⟩
  have f4 : (k == 4) = false := by rw [beq_eq_false_iff_ne]; exact e4
  have HR : Hid (false = C) := by show _ = _; rw [← HC.out, chkV, if_neg e1, if_neg e2, if_neg e3, if_neg e4]
  clear HC e1 e2 e3 e4
  go_enter Tryz.func96, Tryz.ntmps96
  go_wp2
  go_ret
  exact ⟨by rw [← HR.out]; rfl, hb1⟩
end Go.Proofs.YtacpllmlpmllbaaGreatDoor
/- schema.Check: its walk. -/
namespace Go.Proofs.YtacpllmlpmllbaaGreatDoor
open Go.RowKit

def fCells (l : List Fd) : List Value := l.flatMap enF
/-- May the field at a place be there? -/
def okF (l : List Fd) (k : Nat) (h : k < l.length) : Prop := mayF l[k] = true ∧ ∀ (j : Nat) (e : j + 1 = k), cmpL (l[j]'(by omega)).n.data.toList l[k].n.data.toList < 0
instance (l : List Fd) (k : Nat) (h : k < l.length) : Decidable (okF l k h) := by
  unfold okF
  cases k with
  | zero => exact decidable_of_iff (mayF l[0] = true) ⟨fun h => ⟨h, fun j e => absurd e (by omega)⟩, fun h => h.1⟩
  | succ k => exact decidable_of_iff (mayF l[k + 1] = true ∧ cmpL (l[k]'(by omega)).n.data.toList l[k + 1].n.data.toList < 0) ⟨fun h => ⟨h.1, fun j e => by cases e; exact h.2⟩, fun h => ⟨h.1, h.2 k rfl⟩⟩
/-- Names are not too long to be looked at. -/
def NmF (l : List Fd) : Prop := ∀ x ∈ l, x.n.size ≤ 1000000
end Go.Proofs.YtacpllmlpmllbaaGreatDoor
