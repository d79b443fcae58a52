/- Bytes and runes cut at points; what a name's parts are: plain, of no program. -/
import Derived.Test.YthdbnlpbidkojaaGreatDoorZk0
import Derived.Lib.SplitLaws
import Derived.Lib.Strings
import Derived.Lib.Bytealg
import Derived.RegionTactic
import Derived.Deep.QuietTactic
import Derived.BigQuiet
import Derived.Lib.RuneCountTail
namespace Go.Proofs.YthdbnlpbidkojaaGreatDoor
open Go.Lib
set_option maxRecDepth 100000

/-- Put a sign ahead of the first piece. -/
def onto {α : Type} (b : α) : List (List α) → List (List α)
  | [] => [[b]]
  | p :: ps => (b :: p) :: ps
def cutB : List UInt8 → List (List UInt8)
  | [] => [[]]
  | b :: l => if b = 46 then [] :: cutB l else onto b (cutB l)
theorem split_cut : ∀ l : List UInt8, splitK [46] 0 (count l [46]) l = cutB l
  | [] => by rw [count_one]; rfl
  | b :: l => by
    have ih := split_cut l
    by_cases h : b = 46
    · subst h
      rw [count_cons_eq, Nat.add_comm, splitK, show index (46 :: l) [46] = 0 by rw [index]; simp [List.isPrefixOf]]
      simp [cutB, ih]
    · rw [count_cons_ne b 46 l h]
      have hp : ([46] : List UInt8).isPrefixOf (b :: l) = false := by simp [List.isPrefixOf, Ne.symm h]
      have hix : index (b :: l) [46] = if index l [46] == -1 then -1 else index l [46] + 1 := by rw [index, hp]; simp
      rw [show cutB (b :: l) = onto b (cutB l) by rw [cutB, if_neg h], ← ih]
      generalize count l [46] = k
      cases k with
      | zero => rfl
      | succ k =>
        unfold splitK
        by_cases hm : index l [46] = -1
        · rw [hix, if_pos (beq_iff_eq.2 hm)]
          simp [hm, onto]
        · have hge := index_ge l [46]
          obtain ⟨j, hj⟩ : ∃ j : Nat, index l [46] = j := ⟨(index l [46]).toNat, by omega⟩
          have hne : ¬ (index l [46] == -1) = true := fun e => hm (beq_iff_eq.1 e)
          have hne2 : ¬ (((j : Int) + 1) == -1) = true := fun e => by have := beq_iff_eq.1 e; omega
          have hne3 : ¬ ((j : Int) == -1) = true := fun e => by have := beq_iff_eq.1 e; omega
          rw [hix, if_neg hne, hj, if_neg hne2, if_neg hne3]
          have e1 : ((j : Int) + 1).toNat = j + 1 := by omega
          rw [e1]
          simp [onto]

/-! ### parts -/
def okp : Bool → List Nat → Bool
  | f, [] => !f
  | f, c :: q => if beginsN c then okp false q else if f then false else if c ≠ 45 ∧ ¬ (48 ≤ c ∧ c ≤ 57) then false else okp f q
end Go.Proofs.YthdbnlpbidkojaaGreatDoor
/- A name's parts and beginnings: plain, of no program. -/
namespace Go.Proofs.YthdbnlpbidkojaaGreatDoor
open Go.Lib
set_option maxRecDepth 100000

def joinR : List (List Nat) → List Nat
  | [] => []
  | [q] => q
  | q :: r :: qs => q ++ 46 :: joinR (r :: qs)
/-- The bytes of parts with points between. -/
def bytesOf (qs : List (List Nat)) : List UInt8 := (joinR qs).flatMap enc
/-- What a name's parts are. -/
structure Parts (l : List UInt8) (qs : List (List Nat)) : Prop where
  ne : qs ≠ []
  cut : cutB l = qs.map (·.flatMap enc)
  bytes : bytesOf qs = l
  no : ∀ q ∈ qs, 46 ∉ q
  ok : ∀ q ∈ qs, okp true q = true
  few : qs.length ≤ 5
  short : (joinR qs).length ≤ 40
  scals : ∀ c ∈ joinR qs, scal c
end Go.Proofs.YthdbnlpbidkojaaGreatDoor
/- name.Parts and name.Under: walks. -/
namespace Go.Proofs.YthdbnlpbidkojaaGreatDoor
open Go.RowKit

/-- The library's own variable holds some number. -/
def ML (w : World) : Prop := ∃ m, w.cell? ⟨2, 0, none⟩ = some (.int .i64 m)
theorem ML_below {w w' : World} (h : ML w) (hb : Below w.heap.size w w') : ML w' := by
  obtain ⟨m, hm⟩ := h
  exact ⟨m, (hb.cell (p := ⟨2, 0, none⟩) (World.block_lt_of_cell? _ _ hm)).trans hm⟩
def svals (l : List (List UInt8)) : List Value := l.map fun p => Value.string (str p)
theorem split_eq (s : ByteArray) : Lib.splitB ⟨#[46]⟩ 0 (Lib.countB s ⟨#[46]⟩) s = (cutB s.data.toList).map str := by
  have h := Lib.splitB_data ⟨#[46]⟩ 0 (Lib.countB s ⟨#[46]⟩) s
  have h2 : Lib.splitK (⟨#[46]⟩ : ByteArray).data.toList 0 (Lib.countB s ⟨#[46]⟩) s.data.toList = cutB s.data.toList := split_cut s.data.toList
  rw [h2] at h
  rw [← h, List.map_map]
  have e : (str ∘ fun (x : ByteArray) => x.data.toList) = id := funext str_of
  rw [e, List.map_id]
theorem split_len (s : ByteArray) : Lib.countB s ⟨#[46]⟩ + 1 = (cutB s.data.toList).length := by
  have h := Lib.splitB_all ⟨#[46]⟩ (by decide) 0 _ s rfl
  rw [split_eq, List.length_map] at h
  exact h.symm

/-- What Parts leaves. -/
def PaPost (l : List (List UInt8)) (w : World) (e : Ending) (w' : World) : Prop :=
  ∃ v, e = .returned v ∧ IsRow w' 1 v l.length (svals l) ∧ Below w.heap.size w w'
set_option maxHeartbeats 1000000 in
theorem parts_ok (s : ByteArray) (w : World) (hs : s.size ≤ 1000000) (hM : ML w) (hc : checkL s.data.toList = 0) :
    Calls Tryz.prog 123 #[.string s] w fun e w' => PaPost (cutB s.data.toList) w e w' := by
  go_enter Tryz.func123, Tryz.ntmps123
  go_wp2_with fail
  refine (check_any s _ (by omega)).mono ?_
  rintro e w1 ⟨rfl, hb1⟩
  rw [hc]
  obtain ⟨m, hm⟩ := ML_below hM hb1
  have hs1 := hb1.size
  go_wp2_with fail
  refine (Tryz.strings_Split s _ m _ (by omega) hm (by decide)).mono ?_
  rintro e w2 ⟨rfl, rfl⟩
  rw [split_eq, split_len]
  go_wp2
  go_ret
  refine ⟨_, rfl, ⟨by simp [svals], .inr ⟨w1.heap.size, 0, (cutB s.data.toList).length, rfl, by simp, Nat.le_refl _, ?_, ?_⟩⟩, hb1.alloc hs1 _⟩
  · have h1 := split_len s
    have h2 := Lib.countB_le ⟨#[46]⟩ (by decide) s.size s (Nat.le_refl _)
    unfold maxLen
    omega
  · intro j u hu
    simpa [svals, Function.comp] using hu
set_option maxHeartbeats 1000000 in
theorem parts_no (s : ByteArray) (w : World) (hs : s.size ≤ 1000000) (hc : checkL s.data.toList ≠ 0) :
    Calls Tryz.prog 123 #[.string s] w fun e w' => e = .returned (.slice none 0 0) ∧ Below w.heap.size w w' := by
  have hc' : (checkL s.data.toList != 0) = true := by rw [bne_iff_ne]; exact hc
  go_enter Tryz.func123, Tryz.ntmps123
  go_wp2_with fail
  refine (check_any s _ (by omega)).mono ?_
  rintro e w1 ⟨rfl, hb1⟩
  go_wp2
  go_ret
  exact ⟨rfl, hb1⟩

end Go.Proofs.YthdbnlpbidkojaaGreatDoor
/- The bytes of UTF-8 stand as the runes do: plain, of no program. -/
namespace Go.Proofs.YthdbnlpbidkojaaGreatDoor
open Go.Lib
set_option maxRecDepth 100000

/-- How rows of runes stand. -/
def cmpR : List Nat → List Nat → Int
  | [], [] => 0
  | [], _ :: _ => -1
  | _ :: _, [] => 1
  | a :: k, b :: l => if a < b then -1 else if b < a then 1 else cmpR k l
theorem cb_lt {m n : Nat} (hn : n < 256) (h : m < n) (x y : List UInt8) : compareBytes (UInt8.ofNat m :: x) (UInt8.ofNat n :: y) = -1 := by
  have e : UInt8.ofNat m < UInt8.ofNat n := by
    rw [UInt8.lt_iff_toNat_lt, toNat_of (by omega), toNat_of hn]
    exact h
  simp [compareBytes, e]
theorem cb_eq (b : UInt8) (x y : List UInt8) : compareBytes (b :: x) (b :: y) = compareBytes x y := by
  simp [compareBytes]
theorem cb_pre : ∀ (p x y : List UInt8), compareBytes (p ++ x) (p ++ y) = compareBytes x y
  | [], _, _ => rfl
  | b :: p, x, y => by rw [List.cons_append, List.cons_append, cb_eq, cb_pre p x y]
/-- Of two first bytes, and what stands behind them. -/
theorem cb_step {m n : Nat} (hn : n < 256) (x y : List UInt8) (h : m < n ∨ (m = n ∧ compareBytes x y = -1)) : compareBytes (UInt8.ofNat m :: x) (UInt8.ofNat n :: y) = -1 := by
  rcases h with h | ⟨rfl, h⟩
  · exact cb_lt hn h x y
  · rw [cb_eq]; exact h
theorem enc_lt {c d : Nat} (hc : scal c) (hd : scal d) (h : c < d) (x y : List UInt8) : compareBytes (enc c ++ x) (enc d ++ y) = -1 := by
  have hd' := hd
  unfold scal at hd'
  by_cases d1 : d < 128
  · rw [enc1 d1, enc1 (by omega)]
    exact cb_lt (by omega) h _ _
  by_cases d2 : d < 2048
  · rw [enc2 (by omega) d2]
    by_cases c1 : c < 128
    · rw [enc1 c1]
      exact cb_lt (by omega) (by omega) _ _
    · rw [enc2 (by omega) (by omega)]
      refine cb_step (by omega) _ _ ?_
      by_cases e : c / 64 = d / 64
      · exact .inr ⟨by omega, cb_step (by omega) _ _ (.inl (by omega))⟩
      · exact .inl (by omega)
  by_cases d3 : d < 65536
  · rw [enc3 (by omega) d3 hd]
    by_cases c1 : c < 128
    · rw [enc1 c1]
      exact cb_lt (by omega) (by omega) _ _
    by_cases c2 : c < 2048
    · rw [enc2 (by omega) (by omega)]
      exact cb_lt (by omega) (by omega) _ _
    · rw [enc3 (by omega) (by omega) hc]
      refine cb_step (by omega) _ _ ?_
      by_cases e : c / 4096 = d / 4096
      · refine .inr ⟨by omega, cb_step (by omega) _ _ ?_⟩
        by_cases e2 : c / 64 % 64 = d / 64 % 64
        · exact .inr ⟨by omega, cb_step (by omega) _ _ (.inl (by omega))⟩
        · exact .inl (by omega)
      · exact .inl (by omega)
  · rw [enc4 (by omega) hd]
    by_cases c1 : c < 128
    · rw [enc1 c1]
      exact cb_lt (by omega) (by omega) _ _
    by_cases c2 : c < 2048
    · rw [enc2 (by omega) (by omega)]
      exact cb_lt (by omega) (by omega) _ _
    by_cases c3 : c < 65536
    · rw [enc3 (by omega) (by omega) hc]
      exact cb_lt (by omega) (by omega) _ _
    · rw [enc4 (by omega) hc]
      refine cb_step (by omega) _ _ ?_
      by_cases e : c / 262144 = d / 262144
      · refine .inr ⟨by omega, cb_step (by omega) _ _ ?_⟩
        by_cases e2 : c / 4096 % 64 = d / 4096 % 64
        · refine .inr ⟨by omega, cb_step (by omega) _ _ ?_⟩
          by_cases e3 : c / 64 % 64 = d / 64 % 64
          · exact .inr ⟨by omega, cb_step (by omega) _ _ (.inl (by omega))⟩
          · exact .inl (by omega)
        · exact .inl (by omega)
      · exact .inl (by omega)
theorem cb_anti : ∀ (a b : List UInt8), compareBytes a b = - compareBytes b a
  | [], [] => rfl
  | [], b :: l => by simp [compareBytes]
  | a :: k, [] => by simp [compareBytes]
  | a :: k, b :: l => by
    simp only [compareBytes]
    by_cases h1 : a < b
    · have h2 : ¬ b < a := UInt8.lt_asymm h1
      simp [h1, h2]
    · by_cases h2 : b < a
      · simp [h1, h2]
      · simp [h1, h2, cb_anti k l]
theorem enc_cons (c : Nat) : ∃ b t, enc c = b :: t := by
  have := enc_len c
  cases h : enc c with
  | nil => rw [h] at this; simp at this
  | cons b t => exact ⟨b, t, rfl⟩
/-- The bytes of runes stand as the runes. -/
theorem cmp_enc : ∀ (a b : List Nat), (∀ c ∈ a, scal c) → (∀ c ∈ b, scal c) → compareBytes (a.flatMap enc) (b.flatMap enc) = cmpR a b
  | [], [], _, _ => rfl
  | [], b :: l, _, _ => by
    obtain ⟨x, t, e⟩ := enc_cons b
    rw [List.flatMap_cons, e]
    rfl
  | a :: k, [], _, _ => by
    obtain ⟨x, t, e⟩ := enc_cons a
    rw [List.flatMap_cons, e]
    rfl
  | a :: k, b :: l, ha, hb => by
    have ih := cmp_enc k l (fun x hx => ha x (List.mem_cons_of_mem _ hx)) (fun x hx => hb x (List.mem_cons_of_mem _ hx))
    rw [List.flatMap_cons, List.flatMap_cons, cmpR]
    by_cases h1 : a < b
    · rw [if_pos h1]
      exact enc_lt (ha a (by simp)) (hb b (by simp)) h1 _ _
    · by_cases h2 : b < a
      · rw [if_neg h1, if_pos h2, cb_anti, enc_lt (hb b (by simp)) (ha a (by simp)) h2]
        rfl
      · have e : a = b := by omega
        subst e
        rw [if_neg h1, if_neg h2, cb_pre, ih]
end Go.Proofs.YthdbnlpbidkojaaGreatDoor
/- The reference's tail and First: walks. -/
namespace Go.Proofs.YthdbnlpbidkojaaGreatDoor
open Go.RowKit Go.Lib

end Go.Proofs.YthdbnlpbidkojaaGreatDoor
/- The reference's Valid and Runes: walks. -/
namespace Go.Proofs.YthdbnlpbidkojaaGreatDoor
open Go.RowKit Go.Lib

theorem ext_list (s : ByteArray) (pos : Nat) : (s.extract pos s.size).data.toList = s.data.toList.drop pos := by
  rw [extract_data]
  apply List.take_of_length_le
  rw [List.length_drop, Array.length_toList]
  exact Nat.le_refl _
end Go.Proofs.YthdbnlpbidkojaaGreatDoor
/- name.compareRunes, Compare, Same: walks. -/
namespace Go.Proofs.YthdbnlpbidkojaaGreatDoor
open Go.RowKit

theorem nan_any (c : Int) (w : World) :
    Calls Tryz.prog 121 #[.int .i32 c] w fun e w' => e = .returned (.bool false) ∧ w' = w := by
  go_enter Tryz.func121, Tryz.ntmps121
  go_wp2
  go_ret
  exact ⟨by simp, rfl⟩
def ordN (a b : Nat) : Int := if a < b then -1 else if b < a then 1 else 0
set_option maxHeartbeats 1000000 in
theorem cmpRune_any (a b : Nat) (w : World) :
    Calls Tryz.prog 99 #[.int .i32 (a : Nat), .int .i32 (b : Nat)] w fun e w' => e = .returned (.int .i64 (ordN a b)) ∧ w' = w := by
  by_cases h1 : a < b
  · have h1' : (a : Int) < b := by omega
    have e : ordN a b = -1 := if_pos h1
    rw [e]
    go_enter Tryz.func99, Tryz.ntmps99
    go_wp2_with (go_at_call 121; refine (nan_any _ _).mono ?_; rintro e w' ⟨rfl, rfl⟩)
    go_ret
    exact ⟨rfl, rfl⟩
  · have h1' : ¬ (a : Int) < b := by omega
    by_cases h2 : b < a
    · have h2' : (b : Int) < a := by omega
      have e : ordN a b = 1 := by rw [ordN, if_neg h1, if_pos h2]
      rw [e]
      go_enter Tryz.func99, Tryz.ntmps99
      go_wp2_with (go_at_call 121; refine (nan_any _ _).mono ?_; rintro e w' ⟨rfl, rfl⟩)
      go_ret
      exact ⟨rfl, rfl⟩
    · have h2' : ¬ (b : Int) < a := by omega
      have e : ordN a b = 0 := by rw [ordN, if_neg h1, if_neg h2]
      rw [e]
      go_enter Tryz.func99, Tryz.ntmps99
      go_wp2_with (go_at_call 121; refine (nan_any _ _).mono ?_; rintro e w' ⟨rfl, rfl⟩)
      go_ret
      exact ⟨rfl, rfl⟩

def smalls (l : List UInt8) : List Nat := (rns l).map smallN
def CrRel (a b : ByteArray) (C : Int) (w : World) (t : Value) (wr : World) : Prop :=
  ∃ (pos : Nat) (B : ByteArray), t = .string B ∧ B.size ≤ b.size ∧ wr.heap[w.heap.size]? = some (.stringIter a pos) ∧ Below w.heap.size w wr ∧ cmpR (smalls (a.data.toList.drop pos)) (smalls B.data.toList) = C
theorem dec_go (B : ByteArray) (h : B.size ≠ 0) : Lib.decodeGo B = Utf8.decode B 0 := if_neg h
theorem smalls_ne (B : ByteArray) (h : B.size ≠ 0) : smalls B.data.toList = smallN (Utf8.decode B 0).1 :: smalls ((B.extract (Utf8.decode B 0).2 B.size).data.toList) := by
  have e := rns_at B 0 (by omega)
  rw [List.drop_zero, Nat.zero_add] at e
  unfold smalls
  rw [e, List.map_cons, ext_list]
theorem smalls_nil (B : ByteArray) (h : B.size = 0) : smalls B.data.toList = [] := by
  have : B.data.toList = [] := List.eq_nil_of_length_eq_zero (by rw [Array.length_toList]; exact h)
  rw [this]
  rfl
theorem wid_le (B : ByteArray) (h : B.size ≠ 0) : (Utf8.decode B 0).2 ≤ B.size := by
  have hne : B.data.toList ≠ [] := by
    intro e
    have := congrArg List.length e
    rw [Array.length_toList] at this
    exact h this
  have h1 := Lib.decodeL_le _ hne
  have e : Lib.decodeL B.data.toList = Utf8.decode B 0 := by have := Lib.decodeL_drop B 0; rwa [List.drop_zero] at this
  rw [e, Array.length_toList] at h1
  exact h1
theorem empty_is (B : ByteArray) (h : B.size = 0) : B.toList.isEmpty = true := by
  rw [ByteArray.toList_eq]
  have : B.data.toList = [] := List.eq_nil_of_length_eq_zero (by rw [Array.length_toList]; exact h)
  rw [this]; rfl
theorem empty_not (B : ByteArray) (h : B.size ≠ 0) : B.toList.isEmpty = false := by
  rw [ByteArray.toList_eq]
  cases e : B.data.toList with
  | nil => exact absurd (by have := congrArg List.length e; rwa [Array.length_toList] at this) h
  | cons b l => rfl
theorem ext_size (B : ByteArray) (k : Nat) : (B.extract k B.size).size ≤ B.size := by rw [ByteArray.size_extract]; omega

set_option maxRecDepth 100000 in
set_option maxHeartbeats 2000000 in
theorem cmpRunes_any (a b : ByteArray) (w : World) (hT : UT w) :
    Calls Tryz.prog 73 #[.string a, .string b] w fun e w' => e = .returned (.int .i64 (cmpR (smalls a.data.toList) (smalls b.data.toList))) ∧ Below w.heap.size w w' := by
  obtain ⟨C, HC⟩ : ∃ C, Hid (cmpR (smalls a.data.toList) (smalls b.data.toList) = C) := ⟨_, rfl⟩
  rw [HC.out]
  go_enter Tryz.func73, Tryz.ntmps73
  go_wp2
  go_loopw [1] (fun t wr => CrRel a b C w t wr) (fun _ wr => a.size - wr.iterPos w.heap.size)
  case atStart =>
    refine ⟨0, b, rfl, Nat.le_refl _, ?_, (Below.refl _ _).alloc (Nat.le_refl _) _, HC.out⟩
    have := World.iter_heap w a 0
    simpa using this
  case round =>
    obtain ⟨pos, B, rfl, hB, hit, hbw, hck⟩ := hrel
    have HK : Hid (cmpR (smalls (a.data.toList.drop pos)) (smalls B.data.toList) = C) := hck
    clear hck HC
    have hsz : w.heap.size < wr.heap.size := (Array.getElem?_eq_some_iff.1 hit).1
    by_cases hp : pos < a.size
    · have hnx : ∀ ty, (Instr.next (.pointer (some ⟨w.heap.size, 0, none⟩)) true ty).run Tryz.prog wr = _ := fun ty => Lib.run_next_any_at wr w.heap.size a pos ty hit hp
      have hwd := Lib.decode_width_pos a pos hp
      have hit2 := Lib.iterAt_heap wr w.heap.size a pos (pos + (Utf8.decode a pos).2) hit
      have hbw2 := Lib.below_iterAt hbw (k := w.heap.size) (Nat.le_refl _) a (pos + (Utf8.decode a pos).2)
      have hrl := Lib.rune_le a pos
      have hrn : Hid (smalls (a.data.toList.drop pos) = smallN (Utf8.decode a pos).1 :: smalls (a.data.toList.drop (pos + (Utf8.decode a pos).2))) := by show _ = _; unfold smalls; rw [rns_at a pos hp]; rfl
      have hmeas : Hid (a.size - (pos + (Utf8.decode a pos).2) < a.size - wr.iterPos w.heap.size) := by
        show _ < _
        rw [iterPos_of hit]; omega
      generalize (Utf8.decode a pos).1 = c at *
      generalize (Utf8.decode a pos).2 = d at *
      generalize hW : wr.iterAt w.heap.size a (pos + d) = W at *
      have hmW : Hid (W.iterPos w.heap.size = pos + d) := iterPos_of hit2
      have hszW : w.heap.size < W.heap.size := (Array.getElem?_eq_some_iff.1 hit2).1
      clear hW hit hbw
      by_cases h0 : B.size = 0
      · have he := empty_is B h0
        have HR : Hid (1 = C) := by show _ = _; rw [← HK.out, hrn.out, smalls_nil B h0]; rfl
        clear HK hrn
        go_wp2_with fail
        go_ret
        exact ⟨by rw [← HR.out]; rfl, hbw2⟩
      · have he := empty_not B h0
        have hdg := dec_go B h0
        have hsn : Hid _ := smalls_ne B h0
        have hwl := wid_le B h0
        have hrb := Lib.rune_le B 0
        have hex := ext_size B (Utf8.decode B 0).2
        generalize (Utf8.decode B 0) = dc at *
        obtain ⟨x, y⟩ := dc
        simp only at hwl hrb hex
        have HK2 : Hid (cmpR (smallN c :: smalls (a.data.toList.drop (pos + d))) (smallN x :: smalls ((B.extract y B.size).data.toList)) = C) := by show _ = _; rw [← hrn.out, ← hsn.out]; exact HK.out
        clear hrn hsn HK
        go_wp2_with fail
        refine (Tryz.utf8_DecodeRuneInString B _ (Utf8Tabs_below hT hbw2)).mono ?_
        rintro e w3 ⟨rfl, hb3⟩
        rw [show (Lib.decodeGo B).1 = x by rw [hdg], show (Lib.decodeGo B).2 = y by rw [hdg]]
        have hbw3 := hbw2.trans (hb3.mono hbw2.size)
        have hit3 : Hid (w3.heap[w.heap.size]? = some (.stringIter a (pos + d))) := (hb3.block _ hszW).trans hit2
        have hmW3 : Hid (w3.iterPos w.heap.size = pos + d) := iterPos_of hit3.out
        clear hb3 hbw2 hit2 hdg
        by_cases h1 : smallN c < smallN x
        · have ho : ordN (smallN c) (smallN x) = -1 := if_pos h1
          have HR : Hid (-1 = C) := by show _ = _; rw [← HK2.out, cmpR, if_pos h1]
          clear HK2 h1
          go_wp2_with (first | (go_at_call 100; refine (small_any _ _ (by omega) (by omega)).mono ?_; rintro e w' ⟨rfl, rfl⟩; rw [smallZ_nat]) | (go_at_call 99; refine (cmpRune_any _ _ _).mono ?_; rintro e w' ⟨rfl, rfl⟩; rw [ho]))
          go_ret
          exact ⟨by rw [← HR.out]; rfl, hbw3⟩
        · by_cases h2 : smallN x < smallN c
          · have ho : ordN (smallN c) (smallN x) = 1 := by rw [ordN, if_neg h1, if_pos h2]
            have HR : Hid (1 = C) := by show _ = _; rw [← HK2.out, cmpR, if_neg h1, if_pos h2]
            clear HK2 h1 h2
            go_wp2_with (first | (go_at_call 100; refine (small_any _ _ (by omega) (by omega)).mono ?_; rintro e w' ⟨rfl, rfl⟩; rw [smallZ_nat]) | (go_at_call 99; refine (cmpRune_any _ _ _).mono ?_; rintro e w' ⟨rfl, rfl⟩; rw [ho]))
            go_ret
            exact ⟨by rw [← HR.out]; rfl, hbw3⟩
          · have ho : ordN (smallN c) (smallN x) = 0 := by rw [ordN, if_neg h1, if_neg h2]
            have HR : Hid (cmpR (smalls (a.data.toList.drop (pos + d))) (smalls ((B.extract y B.size).data.toList)) = C) := by show _ = _; rw [← HK2.out, cmpR, if_neg h1, if_neg h2]
            clear HK2 h1 h2
            go_wp2_with (first | (go_at_call 100; refine (small_any _ _ (by omega) (by omega)).mono ?_; rintro e w' ⟨rfl, rfl⟩; rw [smallZ_nat]) | (go_at_call 99; refine (cmpRune_any _ _ _).mono ?_; rintro e w' ⟨rfl, rfl⟩; rw [ho]))
            go_roundw
            case rel => exact ⟨pos + d, B.extract y B.size, rfl, by omega, hit3.out, hbw3, HR.out⟩
            case measure => rw [hmW3.out]; exact hmeas.out
    · have hnx : ∀ ty, (Instr.next (.pointer (some ⟨w.heap.size, 0, none⟩)) true ty).run Tryz.prog wr = _ := fun ty => Lib.run_next_end_at wr w.heap.size a pos ty hit hp
      have hn : smalls (a.data.toList.drop pos) = [] := by unfold smalls; rw [rns_end a pos hp]; rfl
      by_cases h0 : B.size = 0
      · have HR : Hid (0 = C) := by show _ = _; rw [← HK.out, hn, smalls_nil B h0]; rfl
        have hz : (B.size : Int) = 0 := by omega
        clear HK hn
        go_wp2_with fail
        go_ret
        exact ⟨by rw [← HR.out]; rfl, hbw⟩
      · have HR : Hid (-1 = C) := by show _ = _; rw [← HK.out, hn, smalls_ne B h0]; rfl
        have hm : min (B.size : Int) 1 = 1 := by omega
        clear HK hn
        go_wp2_with fail
        go_ret
        exact ⟨by rw [← HR.out]; rfl, hbw⟩

theorem smalls_scal (l : List UInt8) : ∀ c ∈ smalls l, scal c := by
  intro c hc
  obtain ⟨x, hx, rfl⟩ := List.mem_map.1 hc
  exact smallN_scal (rns_scal l x hx)
theorem cmpL_runes {a b : List UInt8} (ha : Lib.validD a = true) (hb : Lib.validD b = true) : cmpR (smalls a) (smalls b) = cmpL a b := by
  unfold cmpL
  rw [foldL, foldL, if_pos ha, if_pos hb]
  exact (cmp_enc _ _ (smalls_scal a) (smalls_scal b)).symm

set_option maxHeartbeats 1000000 in
theorem compare_any (a b : ByteArray) (w : World) (ha : a.size ≤ 1000000) (hb : b.size ≤ 1000000) (hT : UT w) :
    Calls Tryz.prog 45 #[.string a, .string b] w fun e w' => e = .returned (.int .i64 (cmpL a.data.toList b.data.toList)) ∧ Below w.heap.size w w' := by
  by_cases va : Lib.validD a.data.toList = true
  · by_cases vb : Lib.validD b.data.toList = true
    · have HC : Hid (cmpR (smalls a.data.toList) (smalls b.data.toList) = cmpL a.data.toList b.data.toList) := cmpL_runes va vb
      go_enter Tryz.func45, Tryz.ntmps45
      go_wp2_with fail
      refine (Tryz.utf8_ValidString a _ (by omega) hT).mono ?_
      rintro e w1 ⟨rfl, hb1⟩
      rw [va]
      go_wp2_with fail
      refine (Tryz.utf8_ValidString b _ (by omega) (Utf8Tabs_below hT hb1)).mono ?_
      rintro e w2 ⟨rfl, hb2⟩
      rw [vb]
      have hbb := hb1.trans (hb2.mono hb1.size)
      clear hb1 hb2
      go_wp2_with fail
      refine (cmpRunes_any a b _ (Utf8Tabs_below hT hbb)).mono ?_
      rintro e w3 ⟨rfl, hb3⟩
      rw [HC.out]
      have hbb3 : Hid (Below w.heap.size w w3) := hbb.trans (hb3.mono hbb.size)
      clear hbb hb3
      go_wp2
      go_ret
      exact ⟨rfl, hbb3.out⟩
    · have vb' : Lib.validD b.data.toList = false := by simpa using vb
      go_enter Tryz.func45, Tryz.ntmps45
      go_wp2_with fail
      refine (Tryz.utf8_ValidString a _ (by omega) hT).mono ?_
      rintro e w1 ⟨rfl, hb1⟩
      rw [va]
      go_wp2_with fail
      refine (Tryz.utf8_ValidString b _ (by omega) (Utf8Tabs_below hT hb1)).mono ?_
      rintro e w2 ⟨rfl, hb2⟩
      rw [vb']
      have hbb := hb1.trans (hb2.mono hb1.size)
      clear hb1 hb2
      go_wp2_with fail
      refine (fold_any a _ ha (Utf8Tabs_below hT hbb)).mono ?_
      rintro e w3 ⟨rfl, hb3⟩
      have hbb3 := hbb.trans (hb3.mono hbb.size)
      clear hbb hb3
      go_wp2_with fail
      refine (fold_any b _ hb (Utf8Tabs_below hT hbb3)).mono ?_
      rintro e w4 ⟨rfl, hb4⟩
      have hbb4 : Hid (Below w.heap.size w w4) := hbb3.trans (hb4.mono hbb3.size)
      clear hbb3 hb4
      go_wp2_with fail
      refine (Tryz.strings_Compare _ _ _).mono ?_
      rintro e w5 ⟨rfl, rfl⟩
      rw [str_data, str_data]
      go_wp2
      go_ret
      exact ⟨rfl, hbb4.out⟩
  · have va' : Lib.validD a.data.toList = false := by simpa using va
    go_enter Tryz.func45, Tryz.ntmps45
    go_wp2_with fail
    refine (Tryz.utf8_ValidString a _ (by omega) hT).mono ?_
    rintro e w1 ⟨rfl, hbb⟩
    rw [va']
    go_wp2_with fail
    refine (fold_any a _ ha (Utf8Tabs_below hT hbb)).mono ?_
    rintro e w3 ⟨rfl, hb3⟩
    have hbb3 := hbb.trans (hb3.mono hbb.size)
    clear hbb hb3
    go_wp2_with fail
    refine (fold_any b _ hb (Utf8Tabs_below hT hbb3)).mono ?_
    rintro e w4 ⟨rfl, hb4⟩
    have hbb4 : Hid (Below w.heap.size w w4) := hbb3.trans (hb4.mono hbb3.size)
    clear hbb3 hb4
    go_wp2_with fail
    refine (Tryz.strings_Compare _ _ _).mono ?_
    rintro e w5 ⟨rfl, rfl⟩
    rw [str_data, str_data]
    go_wp2
    go_ret
    exact ⟨rfl, hbb4.out⟩

theorem cb_zero : ∀ (a b : List UInt8), Lib.compareBytes a b = 0 → a = b
  | [], [] => fun _ => rfl
  | [], b :: l => by simp [Lib.compareBytes]
  | a :: k, [] => by simp [Lib.compareBytes]
  | a :: k, b :: l => by
    simp only [Lib.compareBytes]
    split
    · intro h; cases h
    split
    · intro h; cases h
    · rename_i h1 h2
      intro h
      have e : a = b := UInt8.le_antisymm (UInt8.not_lt.1 h2) (UInt8.not_lt.1 h1)
      rw [e, cb_zero k l h]
theorem cb_self : ∀ l : List UInt8, Lib.compareBytes l l = 0
  | [] => rfl
  | b :: l => by simp [Lib.compareBytes, cb_self l]
theorem cmp_same (a b : List UInt8) : (cmpL a b == 0) = sameL a b := by
  rw [Bool.eq_iff_iff, beq_iff_eq, sameL, decide_eq_true_eq]
  exact ⟨cb_zero _ _, fun h => by unfold cmpL; rw [h]; exact cb_self _⟩
set_option maxHeartbeats 1000000 in
theorem same_any (a b : ByteArray) (w : World) (ha : a.size ≤ 1000000) (hb : b.size ≤ 1000000) (hT : UT w) :
    Calls Tryz.prog 103 #[.string a, .string b] w fun e w' => e = .returned (.bool (sameL a.data.toList b.data.toList)) ∧ Below w.heap.size w w' := by
  by_cases h : a = b
  · subst h
    have e : sameL a.data.toList a.data.toList = true := by simp [sameL]
    rw [e]
    have e2 : (a.toList == a.toList) = true := beq_self_eq_true _
    go_enter Tryz.func103, Tryz.ntmps103
    go_wp2
    go_ret
    exact ⟨rfl, Below.refl _ _⟩
  · have e2 : (a.toList == b.toList) = false := by
      rw [beq_eq_false_iff_ne, ByteArray.toList_eq, ByteArray.toList_eq]
      exact fun e => h (ba_eq e)
    have HS : Hid ((cmpL a.data.toList b.data.toList == 0) = sameL a.data.toList b.data.toList) := cmp_same _ _
    go_enter Tryz.func103, Tryz.ntmps103
    go_wp2_with fail
    refine (compare_any a b _ ha hb hT).mono ?_
    rintro e w1 ⟨rfl, hb1⟩
    go_wp2
    go_ret
    exact ⟨by rw [← HS.out]; rfl, hb1⟩
end Go.Proofs.YthdbnlpbidkojaaGreatDoor
/- Fields and attributes, plainly; schema.onePart, mayBe, byName: walks. -/
namespace Go.Proofs.YthdbnlpbidkojaaGreatDoor
open Go.RowKit

/-- A field. -/
structure Fd where
  n : ByteArray
  k : Int
  m : Bool
/-- An attribute. -/
structure At where
  n : ByteArray
  k : Int
  v : Int
  s : ByteArray
def enF (x : Fd) : List Value := [.string x.n, .int .i64 x.k, .bool x.m]
abbrev fV (x : Fd) : Value := .agg #[.string x.n, .int .i64 x.k, .bool x.m]
/-- Is a text a name of one part? -/
def oneP (s : ByteArray) : Bool := decide (checkL s.data.toList = 0) && decide ((cutB s.data.toList).length = 1)
def mayF (x : Fd) : Bool := decide (1 ≤ x.k) && (decide (x.k < 5) && oneP x.n)
set_option maxRecDepth 100000 in
theorem onePart_any (s : ByteArray) (w : World) (hs : s.size ≤ 1000000) (hM : ML w) :
    Calls Tryz.prog 102 #[.string s] w fun e w' => e = .returned (.bool (oneP s)) ∧ Below w.heap.size w w' := by
  by_cases hc : checkL s.data.toList = 0
  · have e0 : oneP s = decide ((cutB s.data.toList).length = 1) := by unfold oneP; rw [decide_eq_true hc, Bool.true_and]
    rw [e0]
    have HP : Hid (Calls Tryz.prog 123 #[.string s] w fun e w' => PaPost (cutB s.data.toList) w e w') := parts_ok s w hs hM hc
    clear e0
    generalize cutB s.data.toList = L at *
    go_enter Tryz.func102, Tryz.ntmps102
    go_wp2_with fail
    refine HP.out.mono ?_
    rintro e w1 ⟨v, rfl, hr, hb⟩
    obtain ⟨a, cap, rfl⟩ := hr.form
    have HB : Hid (Below w.heap.size w w1) := hb
    have HE : Hid (((L.length : Int) == 1) = decide (L.length = 1)) := by show _ = _; rw [Bool.eq_iff_iff]; simp; omega
    clear hr hb
    go_wp2
    go_ret
    exact ⟨by rw [← HE.out]; rfl, HB.out⟩
  · have e0 : oneP s = false := by unfold oneP; rw [decide_eq_false hc, Bool.false_and]
    rw [e0]
    go_enter Tryz.func102, Tryz.ntmps102
    go_wp2_with fail
    refine (parts_no s _ hs hc).mono ?_
    rintro e w1 ⟨rfl, hb⟩
    have HB : Hid (Below w.heap.size w w1) := hb
    clear hb
    go_wp2
    go_ret
    exact ⟨rfl, HB.out⟩
theorem al_b (w : World) (o : Obj) : Below w.heap.size w (w.alloc o) := (Below.refl _ _).alloc (Nat.le_refl _) o
set_option maxRecDepth 100000 in
theorem mayBe_any (x : Fd) (w : World) (hs : x.n.size ≤ 1000000) (hM : ML w) :
    Calls Tryz.prog 76 #[fV x] w fun e w' => e = .returned (.bool (mayF x)) ∧ Below w.heap.size w w' := by
  obtain ⟨s, k, m⟩ := x
  have hA := al_b w (.cells #[.string s, .int .i64 k, .bool m] 95)
  have HP := onePart_any s (w.alloc (.cells #[.string s, .int .i64 k, .bool m] 95)) hs (ML_below hM hA)
  have HPh : Hid (Calls Tryz.prog 102 #[.string s] (w.alloc (.cells #[.string s, .int .i64 k, .bool m] 95)) fun e w' => e = .returned (.bool (oneP s)) ∧ Below (w.alloc (.cells #[.string s, .int .i64 k, .bool m] 95)).heap.size (w.alloc (.cells #[.string s, .int .i64 k, .bool m] 95)) w') := HP
  have HA : Hid (Below w.heap.size w (w.alloc (.cells #[.string s, .int .i64 k, .bool m] 95))) := hA
  clear HP hA
  show Calls _ _ _ _ fun e w' => e = .returned (.bool (decide (1 ≤ k) && (decide (k < 5) && oneP s))) ∧ _
  by_cases h1 : 1 ≤ k
  · by_cases h5 : k < 5
    · rw [decide_eq_true h1, decide_eq_true h5, Bool.true_and, Bool.true_and]
      go_enter Tryz.func76, Tryz.ntmps76
      go_wp2_with fail
      refine HPh.out.mono ?_
      rintro e w1 ⟨rfl, hb⟩
      have HB : Hid (Below w.heap.size w w1) := HA.out.trans (hb.mono HA.out.size)
      clear hb
      go_wp2
      go_ret
      exact ⟨rfl, HB.out⟩
    · rw [decide_eq_true h1, decide_eq_false h5, Bool.true_and, Bool.false_and]
      go_enter Tryz.func76, Tryz.ntmps76
      go_wp2
      go_ret
      exact ⟨rfl, HA.out⟩
  · rw [decide_eq_false h1, Bool.false_and]
    go_enter Tryz.func76, Tryz.ntmps76
    go_wp2
    go_ret
    exact ⟨rfl, HA.out⟩
set_option maxRecDepth 100000 in
theorem byName_any (x y : Fd) (w : World) (hx : x.n.size ≤ 1000000) (hy : y.n.size ≤ 1000000) (hT : UT w) :
    Calls Tryz.prog 77 #[fV x, fV y] w fun e w' => e = .returned (.int .i64 (cmpL x.n.data.toList y.n.data.toList)) ∧ Below w.heap.size w w' := by
  obtain ⟨s, k, m⟩ := x
  obtain ⟨s', k', m'⟩ := y
  have hA := (al_b w (.cells #[.string s, .int .i64 k, .bool m] 95)).trans ((al_b (w.alloc (.cells #[.string s, .int .i64 k, .bool m] 95)) (.cells #[.string s', .int .i64 k', .bool m'] 95)).mono (al_b w _).size)
  have HC : Hid (Calls Tryz.prog 45 #[.string s, .string s'] ((w.alloc (.cells #[.string s, .int .i64 k, .bool m] 95)).alloc (.cells #[.string s', .int .i64 k', .bool m'] 95)) fun e w' => e = .returned (.int .i64 (cmpL s.data.toList s'.data.toList)) ∧ Below ((w.alloc (.cells #[.string s, .int .i64 k, .bool m] 95)).alloc (.cells #[.string s', .int .i64 k', .bool m'] 95)).heap.size ((w.alloc (.cells #[.string s, .int .i64 k, .bool m] 95)).alloc (.cells #[.string s', .int .i64 k', .bool m'] 95)) w') :=
    compare_any s s' _ hx hy (Utf8Tabs_below hT hA)
  have HA : Hid (Below w.heap.size w ((w.alloc (.cells #[.string s, .int .i64 k, .bool m] 95)).alloc (.cells #[.string s', .int .i64 k', .bool m'] 95))) := hA
  clear hA
  show Calls _ _ _ _ fun e w' => e = .returned (.int .i64 (cmpL s.data.toList s'.data.toList)) ∧ _
  generalize cmpL s.data.toList s'.data.toList = c at *
  go_enter Tryz.func77, Tryz.ntmps77
  go_wp2_with fail
  refine HC.out.mono ?_
  rintro e w1 ⟨rfl, hb⟩
  have HB : Hid (Below w.heap.size w w1) := HA.out.trans (hb.mono HA.out.size)
  clear hb
  go_wp2
  go_ret
  exact ⟨rfl, HB.out⟩
end Go.Proofs.YthdbnlpbidkojaaGreatDoor
/- value.Check: its walk, beside the names (VH over again). -/
namespace Go.Proofs.YthdbnlpbidkojaaGreatDoor
open Go.RowKit

/-- May it be? -/
def chkV (k n : Int) (s : ByteArray) : Bool :=
  if k = 1 then decide (s.size = 0) && decide (-9007199254740991 ≤ n ∧ n ≤ 9007199254740991)
  else if k = 2 then decide (n = 0) && (decide (s.size ≤ 200) && Lib.validD s.data.toList)
  else if k = 3 then decide (s.size = 0) && decide (n = 0 ∨ n = 1)
  else if k = 4 then decide (n = 0) && decide (s.size ≤ 200)
  else false
end Go.Proofs.YthdbnlpbidkojaaGreatDoor
