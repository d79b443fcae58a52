/- Runes of bytes; small letters; which runes are a name: plain, of no program. -/
import Derived.Lib.ValidLaws
import Derived.Lib.RuneCount
import Derived.Laws.Cover4
import Derived.Test.YtlndgepoekllkaaGreatDoorRows
import Derived.WalkKit
import Derived.WalkSpells
import Derived.WalkLawsBesides
import Derived.Deep.RegionWith
import Derived.Lib.OthersKept
import Derived.BigCall
import Derived.Shelf.Small.Strs
import Derived.Shelf.Unicode.ValidAny
import Derived.Shelf.Utf8.RuneCount
import Derived.Shelf.Unicode.DecodeAny
import Derived.Shelf.Small.Wraps
import Derived.Shelf.Strings.Split
import Derived.Test.YtlndgepoekllkaaGreatDoorProg
namespace Go.Proofs.YtlndgepoekllkaaGreatDoor
open Go.Lib
set_option maxRecDepth 100000

def rnGo : Nat → List UInt8 → List Nat
  | 0, _ => []
  | n + 1, l => if l = [] then [] else (decodeL l).1 :: rnGo n (l.drop (decodeL l).2)
/-- The runes of bytes, as a range hands them over. -/
def rns (l : List UInt8) : List Nat := rnGo l.length l
theorem rnGo_nil : ∀ n, rnGo n [] = []
  | 0 => rfl
  | _ + 1 => by simp [rnGo]
theorem rnGo_fuel : ∀ (n m : Nat) (l : List UInt8), l.length ≤ n → l.length ≤ m → rnGo n l = rnGo m l
  | 0, m, l, hn, _ => by
    have : l = [] := List.eq_nil_of_length_eq_zero (by omega)
    subst this
    rw [rnGo_nil, rnGo_nil]
  | n + 1, 0, l, _, hm => by
    have : l = [] := List.eq_nil_of_length_eq_zero (by omega)
    subst this
    rw [rnGo_nil, rnGo_nil]
  | n + 1, m + 1, l, hn, hm => by
    unfold rnGo
    by_cases hne : l = []
    · simp [hne]
    · have hw := decodeL_width l
      have hl : 0 < l.length := List.length_pos_iff.2 hne
      rw [if_neg hne, if_neg hne, rnGo_fuel n m (l.drop (decodeL l).2) (by rw [List.length_drop]; omega) (by rw [List.length_drop]; omega)]
theorem rns_step (l : List UInt8) (hne : l ≠ []) : rns l = (decodeL l).1 :: rns (l.drop (decodeL l).2) := by
  have hl : 0 < l.length := List.length_pos_iff.2 hne
  have hw := decodeL_width l
  obtain ⟨n, hn⟩ : ∃ n, l.length = n + 1 := ⟨l.length - 1, by omega⟩
  unfold rns
  rw [hn]
  show (if l = [] then [] else _) = _
  rw [if_neg hne, rnGo_fuel n (l.drop (decodeL l).2).length _ (by rw [List.length_drop]; omega) (Nat.le_refl _)]
/-- From a place of a text on. -/
theorem rns_at (s : ByteArray) (pos : Nat) (h : pos < s.size) : rns (s.data.toList.drop pos) = (Utf8.decode s pos).1 :: rns (s.data.toList.drop (pos + (Utf8.decode s pos).2)) := by
  have hne : s.data.toList.drop pos ≠ [] := by
    intro e
    have := congrArg List.length e
    rw [List.length_drop] at this
    have e2 : s.data.toList.length = s.size := Array.length_toList
    simp at this
    omega
  rw [rns_step _ hne, decodeL_drop, List.drop_drop]
theorem rns_end (s : ByteArray) (pos : Nat) (h : ¬ pos < s.size) : rns (s.data.toList.drop pos) = [] := by
  have e2 : s.data.toList.length = s.size := Array.length_toList
  rw [List.drop_of_length_le (by omega)]
  rfl
theorem rns_len_le : ∀ (n : Nat) (l : List UInt8), (rnGo n l).length ≤ n
  | 0, _ => by simp [rnGo]
  | n + 1, l => by
    unfold rnGo
    split
    · simp
    · have := rns_len_le n (l.drop (decodeL l).2)
      simp; omega
/-- A rune that UTF-8 has. -/
def scal (c : Nat) : Prop := c < 55296 ∨ (57344 ≤ c ∧ c ≤ 1114111)
theorem decodeN_scal (n b0 b1 b2 b3 : Nat) (h0 : b0 < 256) : scal (decodeN n b0 b1 b2 b3).1 := by
  unfold decodeN scal
  repeat' split
  all_goals (simp only; omega)
theorem decodeL_scal (l : List UInt8) : scal (decodeL l).1 := by rw [decodeL_N]; exact decodeN_scal _ _ _ _ _ (UInt8.toNat_lt _)
theorem rnGo_scal : ∀ (n : Nat) (l : List UInt8), ∀ c ∈ rnGo n l, scal c
  | 0, _ => by simp [rnGo]
  | n + 1, l => by
    unfold rnGo
    split
    · simp
    · intro c hc
      rcases List.mem_cons.1 hc with rfl | hc
      · exact decodeL_scal l
      · exact rnGo_scal n _ c hc
theorem rns_scal (l : List UInt8) : ∀ c ∈ rns l, scal c := rnGo_scal _ l

/-- The bytes of a rune. -/
def enc (c : Nat) : List UInt8 := (Utf8.encode c).data.toList
theorem enc1 {c : Nat} (h : c < 128) : enc c = [UInt8.ofNat c] := by
  have hv : Utf8.valid (c : Int) = true := by simp [Utf8.valid]; omega
  simp [enc, Utf8.encode, hv, h]
theorem enc2 {c : Nat} (h : 128 ≤ c) (h2 : c < 2048) : enc c = [UInt8.ofNat (192 + c / 64), UInt8.ofNat (128 + c % 64)] := by
  have hv : Utf8.valid (c : Int) = true := by simp [Utf8.valid]; omega
  have a : ¬ c < 128 := by omega
  simp [enc, Utf8.encode, hv, a, h2]
theorem enc3 {c : Nat} (h : 2048 ≤ c) (h2 : c < 65536) (hs : scal c) : enc c = [UInt8.ofNat (224 + c / 4096), UInt8.ofNat (128 + c / 64 % 64), UInt8.ofNat (128 + c % 64)] := by
  unfold scal at hs
  have hv : Utf8.valid (c : Int) = true := by simp [Utf8.valid]; omega
  have a : ¬ c < 128 := by omega
  have b : ¬ c < 2048 := by omega
  simp [enc, Utf8.encode, hv, a, b, h2]
theorem enc4 {c : Nat} (h : 65536 ≤ c) (hs : scal c) : enc c = [UInt8.ofNat (240 + c / 262144), UInt8.ofNat (128 + c / 4096 % 64), UInt8.ofNat (128 + c / 64 % 64), UInt8.ofNat (128 + c % 64)] := by
  unfold scal at hs
  have hv : Utf8.valid (c : Int) = true := by simp [Utf8.valid]; omega
  have a : ¬ c < 128 := by omega
  have b : ¬ c < 2048 := by omega
  have d : ¬ c < 65536 := by omega
  simp [enc, Utf8.encode, hv, a, b, d]
theorem toNat_of {n : Nat} (h : n < 256) : (UInt8.ofNat n).toNat = n := by simp; omega

set_option maxHeartbeats 1000000 in
/-- What is encoded is decoded, whatever stands behind it. -/
theorem dec_enc (c : Nat) (t : List UInt8) (hs : scal c) : decodeL (enc c ++ t) = (c, (enc c).length) := by
  rw [decodeL_N]
  by_cases h1 : c < 128
  · rw [enc1 h1]
    simp only [List.cons_append, List.nil_append, List.getD_cons_zero, List.length_cons, List.length_nil, toNat_of (show c < 256 by omega)]
    unfold decodeN
    rw [if_pos h1]
  by_cases h2 : c < 2048
  · rw [enc2 (by omega) h2]
    simp only [List.cons_append, List.nil_append, List.getD_cons_zero, List.getD_cons_succ, List.length_cons, List.length_nil, toNat_of (show 192 + c / 64 < 256 by omega), toNat_of (show 128 + c % 64 < 256 by omega)]
    unfold decodeN
    rw [if_neg (by omega), if_pos (by omega), if_pos (by omega)]
    apply Prod.ext <;> simp only <;> omega
  by_cases h3 : c < 65536
  · rw [enc3 (by omega) h3 hs]
    simp only [List.cons_append, List.nil_append, List.getD_cons_zero, List.getD_cons_succ, List.length_cons, List.length_nil, toNat_of (show 224 + c / 4096 < 256 by omega), toNat_of (show 128 + c / 64 % 64 < 256 by omega), toNat_of (show 128 + c % 64 < 256 by omega)]
    unfold scal at hs
    unfold decodeN
    rw [if_neg (by omega), if_neg (by omega), if_pos (by omega), if_pos (by omega)]
    apply Prod.ext <;> simp only <;> omega
  · rw [enc4 (by omega) hs]
    unfold scal at hs
    simp only [List.cons_append, List.nil_append, List.getD_cons_zero, List.getD_cons_succ, List.length_cons, List.length_nil, toNat_of (show 240 + c / 262144 < 256 by omega), toNat_of (show 128 + c / 4096 % 64 < 256 by omega), toNat_of (show 128 + c / 64 % 64 < 256 by omega), toNat_of (show 128 + c % 64 < 256 by omega)]
    unfold decodeN
    rw [if_neg (by omega), if_neg (by omega), if_neg (by omega), if_pos (by omega), if_pos (by omega)]
    apply Prod.ext <;> simp only <;> omega
theorem enc_len (c : Nat) : 1 ≤ (enc c).length := by
  unfold enc Utf8.encode
  simp only
  repeat' split
  all_goals simp
theorem enc_len4 (c : Nat) : (enc c).length ≤ 4 := by
  unfold enc Utf8.encode
  simp only
  repeat' split
  all_goals simp
theorem enc_err (c : Nat) (h : c = 65533) : (enc c).length = 3 := by subst h; decide +kernel

theorem rns_enc : ∀ cs : List Nat, (∀ c ∈ cs, scal c) → rns (cs.flatMap enc) = cs ∧ validD (cs.flatMap enc) = true
  | [], _ => ⟨rfl, rfl⟩
  | c :: cs, h => by
    obtain ⟨i1, i2⟩ := rns_enc cs (fun x hx => h x (List.mem_cons_of_mem _ hx))
    have hl := enc_len c
    have hne : enc c ++ cs.flatMap enc ≠ [] := by
      intro e
      have := congrArg List.length e
      simp at this
      rw [this.1] at hl
      simp at hl
    have hd := dec_enc c (cs.flatMap enc) (h c (by simp))
    rw [List.flatMap_cons]
    constructor
    · rw [rns_step _ hne, hd]
      simp [i1]
    · rw [validD_step _ hne, hd, if_neg]
      · simp [i2]
      · rintro ⟨e1, e2⟩
        have := enc_err c e1
        simp at e2
        omega
theorem enc_rns : ∀ (n : Nat) (l : List UInt8), l.length ≤ n → validD l = true → (rns l).flatMap enc = l
  | 0, l, hn, _ => by
    have : l = [] := List.eq_nil_of_length_eq_zero (by omega)
    subst this
    rfl
  | n + 1, l, hn, hv => by
    by_cases hne : l = []
    · subst hne; rfl
    have hl : 0 < l.length := List.length_pos_iff.2 hne
    have hw := decodeL_width l
    rw [validD_step l hne] at hv
    split at hv
    · cases hv
    · rename_i hc
      rw [rns_step l hne, List.flatMap_cons, enc_rns n _ (by rw [List.length_drop]; omega) hv]
      have he := encode_decode l hne hc
      have e3 : enc (decodeL l).1 = l.take (decodeL l).2 := by
        rw [← he]
        have hs := decodeL_scal l
        generalize (decodeL l).1 = c at hs
        by_cases h1 : c < 128
        · rw [enc1 h1, encodeRune, encodeRuneZ_one (by omega) (by omega)]; simp
        by_cases h2 : c < 2048
        · rw [enc2 (by omega) h2, encodeRune, encodeRuneZ_two (by omega) (by omega)]
          simp only [List.map_cons, List.map_nil]
          congr 1
        by_cases h3 : c < 65536
        · rw [enc3 (by omega) h3 hs, encodeRune, encodeRuneZ_three (by unfold scal at hs; omega)]
          simp only [List.map_cons, List.map_nil]
          congr 1
        · rw [enc4 (by omega) hs, encodeRune, encodeRuneZ_four (by omega) (by unfold scal at hs; omega)]
          simp only [List.map_cons, List.map_nil]
          congr 1
      rw [e3, List.take_append_drop]

/-! ### letters -/
def letterN (c : Nat) : Bool := decide ((65 ≤ c ∧ c ≤ 90) ∨ (97 ≤ c ∧ c ≤ 122) ∨ (192 ≤ c ∧ c ≤ 591 ∧ c ≠ 215 ∧ c ≠ 247) ∨ (913 ≤ c ∧ c ≤ 937 ∧ c ≠ 930) ∨ (945 ≤ c ∧ c ≤ 969) ∨ (1040 ≤ c ∧ c ≤ 1103) ∨ (19968 ≤ c ∧ c ≤ 40959))
def bigN (c : Nat) : Bool := decide ((65 ≤ c ∧ c ≤ 90) ∨ (192 ≤ c ∧ c ≤ 222 ∧ c ≠ 215) ∨ (913 ≤ c ∧ c ≤ 937 ∧ c ≠ 930) ∨ (1040 ≤ c ∧ c ≤ 1071))
def smallN (c : Nat) : Nat := if bigN c then c + 32 else c
theorem smallN_scal {c : Nat} (h : scal c) : scal (smallN c) := by
  unfold smallN
  split
  · rename_i hb
    simp only [bigN, decide_eq_true_eq] at hb
    unfold scal
    omega
  · exact h
theorem smallN_idem (c : Nat) : smallN (smallN c) = smallN c := by
  by_cases hb : bigN c = true
  · have hb2 : bigN (c + 32) = false := by
      simp only [bigN, decide_eq_true_eq] at hb
      simp only [bigN, decide_eq_false_iff_not]
      omega
    simp [smallN, hb, hb2]
  · simp [smallN, hb]
def beginsN (c : Nat) : Bool := c == 95 || letterN c
/-- What Check answers, from some parts and runes on. -/
def chk : Nat → Nat → Bool → List Nat → Int
  | p, r, f, [] => if f then 3 else if 5 < p ∨ 40 < r then 2 else 0
  | p, r, f, c :: cs => if beginsN c then chk p (r + 1) false cs else if f then 3 else if c = 46 then chk (p + 1) (r + 1) true cs else if c ≠ 45 ∧ ¬ (48 ≤ c ∧ c ≤ 57) then 3 else chk p (r + 1) f cs
def checkL (l : List UInt8) : Int := chk 1 0 true (rns l)
/-- What Fold answers. -/
def foldL (l : List UInt8) : List UInt8 := if validD l = true then ((rns l).map smallN).flatMap enc else l
theorem foldL_valid (l : List UInt8) : validD (foldL l) = validD l := by
  unfold foldL
  by_cases h : validD l = true
  · rw [if_pos h, h]
    exact (rns_enc _ (by intro c hc; obtain ⟨x, hx, rfl⟩ := List.mem_map.1 hc; exact smallN_scal (rns_scal l x hx))).2
  · rw [if_neg h]
theorem foldL_rns {l : List UInt8} (h : validD l = true) : rns (foldL l) = (rns l).map smallN := by
  unfold foldL
  rw [if_pos h]
  exact (rns_enc _ (by intro c hc; obtain ⟨x, hx, rfl⟩ := List.mem_map.1 hc; exact smallN_scal (rns_scal l x hx))).1
theorem foldL_idem (l : List UInt8) : foldL (foldL l) = foldL l := by
  by_cases h : validD l = true
  · have hv := foldL_valid l
    rw [h] at hv
    have e : foldL (foldL l) = ((rns (foldL l)).map smallN).flatMap enc := by rw [foldL, if_pos hv]
    rw [e, foldL_rns h, List.map_map]
    have e2 : (smallN ∘ smallN) = smallN := funext smallN_idem
    rw [e2, foldL, if_pos h]
  · have e : foldL l = l := if_neg h
    rw [e, e]
theorem flat_len : ∀ cs : List Nat, (cs.flatMap enc).length ≤ 4 * cs.length
  | [] => by simp
  | c :: cs => by
    have := flat_len cs
    have := enc_len4 c
    simp only [List.flatMap_cons, List.length_append, List.length_cons]
    omega
theorem foldL_len (l : List UInt8) : (foldL l).length ≤ 4 * l.length := by
  unfold foldL
  split
  · have h1 := flat_len ((rns l).map smallN)
    have h2 := rns_len_le l.length l
    rw [List.length_map] at h1
    have : (rns l).length ≤ l.length := h2
    omega
  · omega

/-- FNV-1a. -/
def hashL (l : List UInt8) : Nat := l.foldl (fun h b => ((h ^^^ b.toNat) * 1099511628211) % 18446744073709551616) 14695981039346656037
end Go.Proofs.YtlndgepoekllkaaGreatDoor
/- Small laws of our own, over whatever program: an append of one element onto a row that the call owns; a row that is owned, read as cells. -/
namespace Go.Proofs.YtlndgepoekllkaaGreatDoor
open Go.RowKit

end Go.Proofs.YtlndgepoekllkaaGreatDoor
/- name.within, Letter, Small, begins, Hash: walks. -/
namespace Go.Proofs.YtlndgepoekllkaaGreatDoor
open Go.RowKit

def inR (c lo hi : Int) : Bool := decide (lo ≤ c ∧ c ≤ hi)
theorem within_any (c lo hi : Int) (w : World) :
    Calls Tryz.prog 60 #[.int .i32 c, .int .i32 lo, .int .i32 hi] w fun e w' => e = .returned (.bool (inR c lo hi)) ∧ w' = w := by
  go_enter Tryz.func60, Tryz.ntmps60
  by_cases h1 : lo ≤ c
  · have hd : decide (lo ≤ c) = true := by simpa using h1
    go_wp2
    go_ret
    refine ⟨?_, rfl⟩
    simp [inR, h1]
  · have hd : decide (lo ≤ c) = false := by simpa using h1
    go_wp2
    go_ret
    refine ⟨?_, rfl⟩
    have : inR c lo hi = false := by simp only [inR, decide_eq_false_iff_not]; omega
    rw [this]
    rfl

def letterZ (c : Int) : Bool := decide ((65 ≤ c ∧ c ≤ 90) ∨ (97 ≤ c ∧ c ≤ 122) ∨ (192 ≤ c ∧ c ≤ 591 ∧ c ≠ 215 ∧ c ≠ 247) ∨ (913 ≤ c ∧ c ≤ 937 ∧ c ≠ 930) ∨ (945 ≤ c ∧ c ≤ 969) ∨ (1040 ≤ c ∧ c ≤ 1103) ∨ (19968 ≤ c ∧ c ≤ 40959))
def bigZ (c : Int) : Bool := decide ((65 ≤ c ∧ c ≤ 90) ∨ (192 ≤ c ∧ c ≤ 222 ∧ c ≠ 215) ∨ (913 ≤ c ∧ c ≤ 937 ∧ c ≠ 930) ∨ (1040 ≤ c ∧ c ≤ 1071))
def smallZ (c : Int) : Int := if bigZ c then c + 32 else c

set_option maxHeartbeats 1000000 in
theorem letter_any (c : Int) (w : World) :
    Calls Tryz.prog 86 #[.int .i32 c] w fun e w' => e = .returned (.bool (letterZ c)) ∧ w' = w := by
  go_enter Tryz.func86, Tryz.ntmps86
  go_wp2_with (go_at_call 60; refine (within_any _ _ _ _).mono ?_; rintro e w' ⟨rfl, rfl⟩)
  all_goals go_ret
  all_goals refine ⟨?_, rfl⟩
  all_goals refine congrArg (fun b => Ending.returned (Value.bool b)) ?_
  all_goals (rw [Bool.eq_iff_iff]; try simp only [inR, decide_eq_true_eq, decide_eq_false_iff_not, beq_iff_eq, beq_eq_false_iff_ne, ne_eq] at *)
  all_goals (simp only [letterZ, Bool.false_eq_true, decide_eq_true_eq, true_iff, false_iff]; omega)

set_option maxHeartbeats 1000000 in
theorem small_any (c : Int) (w : World) (h1 : -2147483648 ≤ c) (h2 : c ≤ 2147483647) :
    Calls Tryz.prog 102 #[.int .i32 c] w fun e w' => e = .returned (.int .i32 (smallZ c)) ∧ w' = w := by
  by_cases hb : bigZ c = true
  · have hs : smallZ c = c + 32 := if_pos hb
    have hc1 : (65 : Int) ≤ c := by simp only [bigZ, decide_eq_true_eq] at hb; omega
    have hc2 : c ≤ (1071 : Int) := by simp only [bigZ, decide_eq_true_eq] at hb; omega
    have HB : Hid (bigZ c = true) := hb
    clear hb
    rw [hs]
    go_enter Tryz.func102, Tryz.ntmps102
    go_wp2_with (go_at_call 60; refine (within_any _ _ _ _).mono ?_; rintro e w' ⟨rfl, rfl⟩)
    all_goals go_ret
    all_goals refine ⟨?_, rfl⟩
    all_goals first
      | rfl
      | (exfalso; have hb := HB.out; simp only [bigZ, inR, decide_eq_true_eq, decide_eq_false_iff_not, beq_iff_eq, beq_eq_false_iff_ne, ne_eq] at *; omega)
  · have hs : smallZ c = c := if_neg hb
    have HB : Hid (¬ bigZ c = true) := hb
    clear hb
    rw [hs]
    go_enter Tryz.func102, Tryz.ntmps102
    go_wp2_with (go_at_call 60; refine (within_any _ _ _ _).mono ?_; rintro e w' ⟨rfl, rfl⟩)
    all_goals go_ret
    all_goals refine ⟨?_, rfl⟩
    all_goals first
      | rfl
      | (exfalso; have hb := HB.out; simp only [bigZ, inR, decide_eq_true_eq, decide_eq_false_iff_not, beq_eq_false_iff_ne, ne_eq] at *; omega)

def beginsZ (c : Int) : Bool := c == 95 || letterZ c
theorem begins_any (c : Int) (w : World) :
    Calls Tryz.prog 59 #[.int .i32 c] w fun e w' => e = .returned (.bool (beginsZ c)) ∧ w' = w := by
  by_cases h : c = 95
  · subst h
    go_enter Tryz.func59, Tryz.ntmps59
    go_wp2_with (go_at_call 86; refine (letter_any _ _).mono ?_; rintro e w' ⟨rfl, rfl⟩)
    go_ret
    exact ⟨rfl, rfl⟩
  · have hd : (c == 95) = false := by simpa using h
    go_enter Tryz.func59, Tryz.ntmps59
    go_wp2_with (go_at_call 86; refine (letter_any _ _).mono ?_; rintro e w' ⟨rfl, rfl⟩)
    go_ret
    refine ⟨?_, rfl⟩
    simp [beginsZ, hd]

theorem letterZ_nat (c : Nat) : letterZ (c : Int) = letterN c := by
  rw [Bool.eq_iff_iff]; simp only [letterZ, letterN, decide_eq_true_eq]; omega
theorem bigZ_nat (c : Nat) : bigZ (c : Int) = bigN c := by
  rw [Bool.eq_iff_iff]; simp only [bigZ, bigN, decide_eq_true_eq]; omega
theorem smallZ_nat (c : Nat) : smallZ (c : Int) = (smallN c : Nat) := by
  unfold smallZ smallN
  rw [bigZ_nat]
  split <;> simp
theorem beginsZ_nat (c : Nat) : beginsZ (c : Int) = beginsN c := by
  unfold beginsZ beginsN
  rw [letterZ_nat]
  congr 1
  rw [Bool.eq_iff_iff]; simp only [beq_iff_eq]; omega
end Go.Proofs.YtlndgepoekllkaaGreatDoor
/- name.Check and name.Hash: walks, at every text. -/
namespace Go.Proofs.YtlndgepoekllkaaGreatDoor
open Go.RowKit

/-- What holds of Check's loop at every round. -/
def CkRel (s : ByteArray) (w : World) (p r f : Value) (wr : World) : Prop :=
  ∃ (pos P R : Nat) (F : Bool), p = .int .i64 P ∧ r = .int .i64 R ∧ f = .bool F ∧ wr.heap[w.heap.size]? = some (.stringIter s pos) ∧ Below w.heap.size w wr ∧ chk P R F (rns (s.data.toList.drop pos)) = checkL s.data.toList ∧ P ≤ pos + 1 ∧ R ≤ pos

set_option maxRecDepth 100000 in
set_option maxHeartbeats 2000000 in
theorem check_any (s : ByteArray) (w : World) (hs : s.size ≤ 140737488355328) :
    Calls Tryz.prog 33 #[.string s] w fun e w' => e = .returned (.int .i64 (checkL s.data.toList)) ∧ Below w.heap.size w w' := by
  go_enter Tryz.func33, Tryz.ntmps33
  go_wp2
  go_loopw [3, 4, 5] (fun p r f wr => CkRel s w p r f wr) (fun _ _ _ wr => s.size - wr.iterPos w.heap.size)
  case atStart =>
    refine ⟨0, 1, 0, true, rfl, rfl, rfl, ?_, (Below.refl _ _).alloc (Nat.le_refl _) _, rfl, by omega, by omega⟩
    have := World.iter_heap w s 0
    simpa using this
  case round =>
    obtain ⟨pos, P, R, F, rfl, rfl, rfl, hit, hbw, hck, hP, hR⟩ := hrel
    have HC : Hid (chk P R F (rns (s.data.toList.drop pos)) = checkL s.data.toList) := hck
    clear hck
    have hsz : w.heap.size < wr.heap.size := (Array.getElem?_eq_some_iff.1 hit).1
    by_cases hp : pos < s.size
    · have hnx : ∀ ty, (Instr.next (.pointer (some ⟨w.heap.size, 0, none⟩)) true ty).run Tryz.prog wr = _ := fun ty => Lib.run_next_any_at wr w.heap.size s pos ty hit hp
      have hwd := Lib.decode_width_pos s pos hp
      have hit2 := Lib.iterAt_heap wr w.heap.size s pos (pos + (Utf8.decode s pos).2) hit
      have hbw2 := Lib.below_iterAt hbw (k := w.heap.size) (Nat.le_refl _) s (pos + (Utf8.decode s pos).2)
      have hrn : Hid (rns (s.data.toList.drop pos) = (Utf8.decode s pos).1 :: rns (s.data.toList.drop (pos + (Utf8.decode s pos).2))) := rns_at s pos hp
      have hmeas : Hid (s.size - (pos + (Utf8.decode s pos).2) < s.size - wr.iterPos w.heap.size) := by
        show _ < _
        rw [iterPos_of hit]; omega
      generalize (Utf8.decode s pos).1 = c at *
      generalize (Utf8.decode s pos).2 = d at *
      generalize hW : wr.iterAt w.heap.size s (pos + d) = W at *
      have hmW : Hid (W.iterPos w.heap.size = pos + d) := iterPos_of hit2
      have HC2 : Hid (chk P R F (c :: rns (s.data.toList.drop (pos + d))) = checkL s.data.toList) := by show _ = _; rw [← hrn.out]; exact HC.out
      have hbz := beginsZ_nat c
      by_cases hb : beginsN c = true
      · rw [hb] at hbz
        have HC3 : Hid (chk P (R + 1) false (rns (s.data.toList.drop (pos + d))) = checkL s.data.toList) := by
          show _ = _; rw [← HC2.out]; simp [chk, hb]
        clear HC HC2 hrn hb
        go_wp2_with (go_at_call 59; refine (begins_any _ _).mono ?_; rintro e w' ⟨rfl, rfl⟩)
        go_roundw
        case rel => exact ⟨pos + d, P, R + 1, false, rfl, by go_num, rfl, hit2, hbw2, HC3.out, by omega, by omega⟩
        case measure => rw [hmW.out]; exact hmeas.out
      · have hb' : beginsN c = false := by simpa using hb
        rw [hb'] at hbz
        cases F
        · by_cases h46 : c = 46
          · have h46' : ((c : Int) == 46) = true := by rw [beq_iff_eq]; omega
            have HC3 : Hid (chk (P + 1) (R + 1) true (rns (s.data.toList.drop (pos + d))) = checkL s.data.toList) := by
              show _ = _; rw [← HC2.out]; simp [chk, h46, show beginsN 46 = false by decide]
            clear HC HC2 hrn hb hb' h46
            go_wp2_with (go_at_call 59; refine (begins_any _ _).mono ?_; rintro e w' ⟨rfl, rfl⟩)
            go_roundw
            case rel => exact ⟨pos + d, P + 1, R + 1, true, by go_num, by go_num, rfl, hit2, hbw2, HC3.out, by omega, by omega⟩
            case measure => rw [hmW.out]; exact hmeas.out
          · have h46' : ((c : Int) == 46) = false := by rw [beq_eq_false_iff_ne]; omega
            by_cases h45 : c = 45
            · have h45' : ((c : Int) != 45) = false := by rw [bne_eq_false_iff_eq]; omega
              have HC3 : Hid (chk P (R + 1) false (rns (s.data.toList.drop (pos + d))) = checkL s.data.toList) := by
                show _ = _; rw [← HC2.out]; simp [chk, h45, show beginsN 45 = false by decide]
              clear HC HC2 hrn hb hb' h46 h45
              go_wp2_with (first | (go_at_call 59; refine (begins_any _ _).mono ?_; rintro e w' ⟨rfl, rfl⟩) | (go_at_call 60; refine (within_any _ _ _ _).mono ?_; rintro e w' ⟨rfl, rfl⟩))
              go_roundw
              case rel => exact ⟨pos + d, P, R + 1, false, rfl, by go_num, rfl, hit2, hbw2, HC3.out, by omega, by omega⟩
              case measure => rw [hmW.out]; exact hmeas.out
            · have h45' : ((c : Int) != 45) = true := by rw [bne_iff_ne]; omega
              by_cases hdg : 48 ≤ c ∧ c ≤ 57
              · have hin : inR (c : Int) 48 57 = true := by simp only [inR, decide_eq_true_eq]; omega
                have HC3 : Hid (chk P (R + 1) false (rns (s.data.toList.drop (pos + d))) = checkL s.data.toList) := by
                  show _ = _; rw [← HC2.out]; simp [chk, hb', h46, hdg]
                clear HC HC2 hrn hb hb' h46 h45 hdg
                go_wp2_with (first | (go_at_call 59; refine (begins_any _ _).mono ?_; rintro e w' ⟨rfl, rfl⟩) | (go_at_call 60; refine (within_any _ _ _ _).mono ?_; rintro e w' ⟨rfl, rfl⟩))
                go_roundw
                case rel => exact ⟨pos + d, P, R + 1, false, rfl, by go_num, rfl, hit2, hbw2, HC3.out, by omega, by omega⟩
                case measure => rw [hmW.out]; exact hmeas.out
              · have hin : inR (c : Int) 48 57 = false := by simp only [inR, decide_eq_false_iff_not]; omega
                have HC3 : Hid (3 = checkL s.data.toList) := by
                  show _ = _; rw [← HC2.out]; simp [chk, hb', h46, h45, hdg]
                clear HC HC2 hrn hb hb' h46 h45 hdg
                go_wp2_with (first | (go_at_call 59; refine (begins_any _ _).mono ?_; rintro e w' ⟨rfl, rfl⟩) | (go_at_call 60; refine (within_any _ _ _ _).mono ?_; rintro e w' ⟨rfl, rfl⟩))
                go_ret
                exact ⟨by rw [← HC3.out]; rfl, hbw2⟩
        · have HC3 : Hid (3 = checkL s.data.toList) := by
            show _ = _; rw [← HC2.out]; simp [chk, hb']
          clear HC HC2 hrn hb hb'
          go_wp2_with (go_at_call 59; refine (begins_any _ _).mono ?_; rintro e w' ⟨rfl, rfl⟩)
          go_ret
          exact ⟨by rw [← HC3.out]; rfl, hbw2⟩
    · have hnx : ∀ ty, (Instr.next (.pointer (some ⟨w.heap.size, 0, none⟩)) true ty).run Tryz.prog wr = _ := fun ty => Lib.run_next_end_at wr w.heap.size s pos ty hit hp
      have HC2 : Hid (chk P R F [] = checkL s.data.toList) := by show _ = _; rw [← HC.out, rns_end s pos hp]
      clear HC
      cases F
      · by_cases h5 : 5 < P
        · have h5' : (5 : Int) < P := by omega
          have HC3 : Hid (2 = checkL s.data.toList) := by show _ = _; rw [← HC2.out]; simp [chk, h5]
          clear HC2
          go_wp2
          go_ret
          exact ⟨by rw [← HC3.out]; rfl, hbw⟩
        · have h5' : decide ((5 : Int) < P) = false := by simp; omega
          by_cases h40 : 40 < R
          · have h40' : decide ((40 : Int) < R) = true := by simp; omega
            have HC3 : Hid (2 = checkL s.data.toList) := by show _ = _; rw [← HC2.out]; simp [chk, h40]
            clear HC2
            go_wp2
            go_ret
            exact ⟨by rw [← HC3.out]; rfl, hbw⟩
          · have h40' : decide ((40 : Int) < R) = false := by simp; omega
            have HC3 : Hid (0 = checkL s.data.toList) := by show _ = _; rw [← HC2.out]; simp [chk, h40, h5]
            clear HC2
            go_wp2
            go_ret
            exact ⟨by rw [← HC3.out]; rfl, hbw⟩
      · have HC3 : Hid (3 = checkL s.data.toList) := by show _ = _; rw [← HC2.out]; simp [chk]
        clear HC2
        go_wp2
        go_ret
        exact ⟨by rw [← HC3.out]; rfl, hbw⟩

theorem take_byte (s : ByteArray) (k : Nat) (h : k < s.size) : s.data.toList.take (k + 1) = s.data.toList.take k ++ [s[k]] := by
  rw [List.take_succ_eq_append_getElem (show k < s.data.toList.length by rw [Array.length_toList]; exact h)]
  rfl
theorem take_bytes (s : ByteArray) : s.data.toList.take s.size = s.data.toList := List.take_of_length_le (by rw [Array.length_toList]; exact Nat.le_refl _)

end Go.Proofs.YtlndgepoekllkaaGreatDoor
/- The shelf's contracts that names need, at this program, laid by the shelf's tool in plain words. -/
namespace Go.Proofs
open Go.Shelf
def Tryz.lays106_ren : Go.Shelf.Ren := ⟨fun | 106 => 83 | 213 => 103 | 265 => 124 | n => n, fun | 9 => 9 | 3 => 3 | n => n, fun | n => n⟩
theorem Tryz.lays106 : Go.Proofs.Lays.n106 Tryz.prog Tryz.lays106_ren := {
  mixed := by kernel_rfl
  f106 := Tryz.func83.trans (congrArg some (by kernel_rfl))
  f213 := Tryz.func103.trans (congrArg some (by kernel_rfl))
  f265 := Tryz.func124.trans (congrArg some (by kernel_rfl))
  t3 := Tryz.underlying3
  a3 := Tryz.isAgg3
  z3 := Tryz.sizeOf3
  v3 := Tryz.zeroValue3
  t9 := Tryz.underlying9
  a9 := Tryz.isAgg9
  z9 := Tryz.sizeOf9
  v9 := Tryz.zeroValue9 }
open Go.RowKit in
theorem Tryz.strings_Compare (a b : ByteArray) (w : World) :
    Calls Tryz.prog 83 #[.string a, .string b] w fun e w' => e = .returned (.int .i64 (Lib.compareBytes a.data.toList b.data.toList)) ∧ w' = w := Any.strings_Compare Tryz.lays106 a b w
def Tryz.lays196_ren : Go.Shelf.Ren := ⟨fun | 196 => 81 | 259 => 99 | n => n, fun | 9 => 9 | 4 => 4 | 3 => 3 | 5 => 5 | 12 => 12 | 119 => 143 | 0 => 0 | 46 => 141 | 139 => 146 | 138 => 145 | 53 => 168 | n => n, fun | 3 => 0 | 4 => 1 | n => n⟩
theorem Tryz.lays196 : Go.Proofs.Lays.n196 Tryz.prog Tryz.lays196_ren := {
  mixed := by kernel_rfl
  f196 := Tryz.func81.trans (congrArg some (by kernel_rfl))
  f259 := Tryz.func99.trans (congrArg some (by kernel_rfl))
  t0 := Tryz.underlying0
  a0 := Tryz.isAgg0
  z0 := Tryz.sizeOf0
  v0 := Tryz.zeroValue0
  t3 := Tryz.underlying3
  a3 := Tryz.isAgg3
  z3 := Tryz.sizeOf3
  v3 := Tryz.zeroValue3
  t4 := Tryz.underlying4
  a4 := Tryz.isAgg4
  z4 := Tryz.sizeOf4
  v4 := Tryz.zeroValue4
  t5 := Tryz.underlying5
  a5 := Tryz.isAgg5
  z5 := Tryz.sizeOf5
  v5 := Tryz.zeroValue5
  t9 := Tryz.underlying9
  a9 := Tryz.isAgg9
  z9 := Tryz.sizeOf9
  v9 := Tryz.zeroValue9
  t12 := Tryz.underlying12
  a12 := Tryz.isAgg12
  z12 := Tryz.sizeOf12
  v12 := Tryz.zeroValue12
  t46 := Tryz.underlying141
  a46 := Tryz.isAgg141
  z46 := Tryz.sizeOf141
  v46 := Tryz.zeroValue141
  t53 := Tryz.underlying168
  a53 := Tryz.isAgg168
  z53 := Tryz.sizeOf168
  v53 := Tryz.zeroValue168
  t119 := Tryz.underlying143
  a119 := Tryz.isAgg143
  z119 := Tryz.sizeOf143
  t138 := Tryz.underlying145
  a138 := Tryz.isAgg145
  z138 := Tryz.sizeOf145
  v138 := Tryz.zeroValue145
  t139 := Tryz.underlying146
  a139 := Tryz.isAgg146
  z139 := Tryz.sizeOf146
  v139 := Tryz.zeroValue146
  g3 := by kernel_rfl
  g4 := by kernel_rfl }
open Go.RowKit in
theorem Tryz.utf8_ValidString (s : ByteArray) (w : World) (hs : s.size ≤ 9223372036854775807) (hT : Lib.Utf8Tabs 0 1 w) :
    Calls Tryz.prog 81 #[.string s] w fun e w' => e = .returned (.bool (Lib.validD s.data.toList)) ∧ Below w.heap.size w w' := Any.utf8_ValidString Tryz.lays196 s w hs hT
def Tryz.lays197_ren : Go.Shelf.Ren := ⟨fun | 197 => 100 | 260 => 122 | n => n, fun | 9 => 9 | 21 => 21 | 3 => 3 | 4 => 4 | 5 => 5 | 105 => 147 | 119 => 143 | 0 => 0 | 46 => 141 | 139 => 146 | 138 => 145 | n => n, fun | 3 => 0 | 4 => 1 | n => n⟩
theorem Tryz.lays197 : Go.Proofs.Lays.n197 Tryz.prog Tryz.lays197_ren := {
  mixed := by kernel_rfl
  f197 := Tryz.func100.trans (congrArg some (by kernel_rfl))
  f260 := Tryz.func122.trans (congrArg some (by kernel_rfl))
  t0 := Tryz.underlying0
  a0 := Tryz.isAgg0
  z0 := Tryz.sizeOf0
  v0 := Tryz.zeroValue0
  t3 := Tryz.underlying3
  a3 := Tryz.isAgg3
  z3 := Tryz.sizeOf3
  v3 := Tryz.zeroValue3
  t4 := Tryz.underlying4
  a4 := Tryz.isAgg4
  z4 := Tryz.sizeOf4
  v4 := Tryz.zeroValue4
  t5 := Tryz.underlying5
  a5 := Tryz.isAgg5
  z5 := Tryz.sizeOf5
  v5 := Tryz.zeroValue5
  t9 := Tryz.underlying9
  a9 := Tryz.isAgg9
  z9 := Tryz.sizeOf9
  v9 := Tryz.zeroValue9
  t21 := Tryz.underlying21
  a21 := Tryz.isAgg21
  z21 := Tryz.sizeOf21
  v21 := Tryz.zeroValue21
  t46 := Tryz.underlying141
  a46 := Tryz.isAgg141
  z46 := Tryz.sizeOf141
  v46 := Tryz.zeroValue141
  t105 := Tryz.underlying147
  a105 := Tryz.isAgg147
  z105 := Tryz.sizeOf147
  v105 := Tryz.zeroValue147
  t119 := Tryz.underlying143
  a119 := Tryz.isAgg143
  z119 := Tryz.sizeOf143
  t138 := Tryz.underlying145
  a138 := Tryz.isAgg145
  z138 := Tryz.sizeOf145
  v138 := Tryz.zeroValue145
  t139 := Tryz.underlying146
  a139 := Tryz.isAgg146
  z139 := Tryz.sizeOf146
  v139 := Tryz.zeroValue146
  g3 := by kernel_rfl
  g4 := by kernel_rfl }
open Go.RowKit in
theorem Tryz.utf8_DecodeRuneInString (s : ByteArray) (w : World) (hT : Lib.Utf8Tabs 0 1 w) :
    Calls Tryz.prog 100 #[.string s] w fun e w' => e = .returned (.tuple #[.int .i32 (Lib.decodeGo s).1, .int .i64 (Lib.decodeGo s).2]) ∧ Below w.heap.size w w' := Any.utf8_DecodeRuneInString Tryz.lays197 s w hT
def Tryz.lays146_ren : Go.Shelf.Ren := ⟨fun | 146 => 125 | 221 => 133 | 268 => 135 | 138 => 136 | 143 => 137 | 195 => 138 | 197 => 100 | 218 => 139 | 219 => 140 | 260 => 122 | 217 => 141 | 225 => 142 | 224 => 143 | 267 => 144 | 266 => 145 | 314 => 146 | n => n, fun | 9 => 9 | 31 => 31 | 3 => 3 | 4 => 4 | 0 => 0 | 105 => 147 | 21 => 21 | 5 => 5 | 46 => 141 | 119 => 143 | 139 => 146 | 138 => 145 | 146 => 184 | 51 => 166 | n => n, fun | 1 => 2 | 3 => 0 | 4 => 1 | n => n⟩
theorem Tryz.lays146 : Go.Proofs.Lays.n146 Tryz.prog Tryz.lays146_ren := {
  mixed := by kernel_rfl
  f138 := Tryz.func136.trans (congrArg some (by kernel_rfl))
  f143 := Tryz.func137.trans (congrArg some (by kernel_rfl))
  f146 := Tryz.func125.trans (congrArg some (by kernel_rfl))
  f195 := Tryz.func138.trans (congrArg some (by kernel_rfl))
  f197 := Tryz.func100.trans (congrArg some (by kernel_rfl))
  f217 := Tryz.func141.trans (congrArg some (by kernel_rfl))
  f218 := Tryz.func139.trans (congrArg some (by kernel_rfl))
  f219 := Tryz.func140.trans (congrArg some (by kernel_rfl))
  f221 := Tryz.func133.trans (congrArg some (by kernel_rfl))
  f224 := Tryz.func143.trans (congrArg some (by kernel_rfl))
  f225 := Tryz.func142.trans (congrArg some (by kernel_rfl))
  f260 := Tryz.func122.trans (congrArg some (by kernel_rfl))
  f266 := Tryz.func145.trans (congrArg some (by kernel_rfl))
  f267 := Tryz.func144.trans (congrArg some (by kernel_rfl))
  f268 := Tryz.func135.trans (congrArg some (by kernel_rfl))
  f314 := Tryz.func146.trans (congrArg some (by kernel_rfl))
  t0 := Tryz.underlying0
  a0 := Tryz.isAgg0
  z0 := Tryz.sizeOf0
  v0 := Tryz.zeroValue0
  t3 := Tryz.underlying3
  a3 := Tryz.isAgg3
  z3 := Tryz.sizeOf3
  v3 := Tryz.zeroValue3
  t4 := Tryz.underlying4
  a4 := Tryz.isAgg4
  z4 := Tryz.sizeOf4
  v4 := Tryz.zeroValue4
  t5 := Tryz.underlying5
  a5 := Tryz.isAgg5
  z5 := Tryz.sizeOf5
  v5 := Tryz.zeroValue5
  t9 := Tryz.underlying9
  a9 := Tryz.isAgg9
  z9 := Tryz.sizeOf9
  v9 := Tryz.zeroValue9
  t21 := Tryz.underlying21
  a21 := Tryz.isAgg21
  z21 := Tryz.sizeOf21
  v21 := Tryz.zeroValue21
  t31 := Tryz.underlying31
  a31 := Tryz.isAgg31
  z31 := Tryz.sizeOf31
  v31 := Tryz.zeroValue31
  t46 := Tryz.underlying141
  a46 := Tryz.isAgg141
  z46 := Tryz.sizeOf141
  v46 := Tryz.zeroValue141
  t51 := Tryz.underlying166
  a51 := Tryz.isAgg166
  z51 := Tryz.sizeOf166
  v51 := Tryz.zeroValue166
  t105 := Tryz.underlying147
  a105 := Tryz.isAgg147
  z105 := Tryz.sizeOf147
  v105 := Tryz.zeroValue147
  t119 := Tryz.underlying143
  a119 := Tryz.isAgg143
  z119 := Tryz.sizeOf143
  t138 := Tryz.underlying145
  a138 := Tryz.isAgg145
  z138 := Tryz.sizeOf145
  v138 := Tryz.zeroValue145
  t139 := Tryz.underlying146
  a139 := Tryz.isAgg146
  z139 := Tryz.sizeOf146
  v139 := Tryz.zeroValue146
  t146 := Tryz.underlying184
  a146 := Tryz.isAgg184
  z146 := Tryz.sizeOf184
  v146 := Tryz.zeroValue184
  g1 := by kernel_rfl
  g3 := by kernel_rfl
  g4 := by kernel_rfl }
open Go.RowKit in
theorem Tryz.strings_Split (s sep : ByteArray) (m : Int) (w : World) (hs : s.size < 4294967281) (hm : w.cell? ⟨2, 0, none⟩ = some (.int .i64 m)) (h1 : 1 ≤ sep.size) :
    Calls Tryz.prog 125 #[.string s, .string sep] w fun e w' =>
      e = .returned (.slice (some ⟨w.heap.size, 0, none⟩) (Lib.countB s sep + 1) (Lib.countB s sep + 1)) ∧ w' = w.alloc (.cells ((Lib.splitB sep 0 (Lib.countB s sep) s).map Value.string).toArray 9) := Any.strings_Split Tryz.lays146 (by kernel_rfl) s sep m w hs hm h1
end Go.Proofs
/- Small laws of our own, over whatever program, more of them. -/
namespace Go.Proofs.YtlndgepoekllkaaGreatDoor
open Go.RowKit
end Go.Proofs.YtlndgepoekllkaaGreatDoor
/- Rows that are read: a slice, its elements cell by cell, wherever it lies. -/
namespace Go.Proofs.YtlndgepoekllkaaGreatDoor
open Go.RowKit

/-- The slice v has n elements of 'sz' cells each, and they hold xs. -/
def IsRow (w : World) (sz : Nat) (v : Value) (n : Nat) (xs : List Value) : Prop :=
  xs.length = n * sz ∧ ((n = 0 ∧ ∃ a cap, v = .slice a 0 cap) ∨
    ∃ b off cap, v = .slice (some ⟨b, off, none⟩) n cap ∧ b < w.heap.size ∧ n ≤ cap ∧ cap ≤ maxLen ∧ ∀ j u, xs[j]? = some u → w.cell? ⟨b, off + j, none⟩ = some u)

theorem IsRow.below {w w' : World} {sz : Nat} {v : Value} {n : Nat} {xs : List Value} (h : IsRow w sz v n xs) (hb : Below w.heap.size w w') : IsRow w' sz v n xs := by
  refine ⟨h.1, ?_⟩
  rcases h.2 with h | ⟨b, off, cap, rfl, hlt, hc, hm, hcell⟩
  · exact .inl h
  · exact .inr ⟨b, off, cap, rfl, Nat.lt_of_lt_of_le hlt hb.size, hc, hm, fun j u hu => (hb.cell (p := ⟨b, off + j, none⟩) hlt).trans (hcell j u hu)⟩

/-- What the call itself has made is such a row, too. -/
theorem IsRow.own {w : World} {base : Nat} {e : TypeId} {sz : Nat} {v : Value} {n : Nat} {xs : List Value} (h : w.ownsRow base e sz v n xs) : IsRow w sz v n xs := by
  obtain ⟨h1, h2⟩ := h
  refine ⟨h1, ?_⟩
  rcases h2 with ⟨hv, hn⟩ | ⟨g, cap, cur, rfl, hb, hg, hc, hm, hs, ht⟩
  · exact .inl ⟨hn, _, _, hv⟩
  · refine .inr ⟨g, 0, cap, rfl, (Array.getElem?_eq_some_iff.1 hg).1, hc, hm, fun j u hu => ?_⟩
    rw [Nat.zero_add, cell_of_row w g j cur e (0, 0) hg]
    rw [← ht, List.getElem?_take] at hu
    split at hu
    · simpa using hu
    · cases hu

theorem IsRow.nil (w : World) (sz : Nat) : IsRow w sz (.slice none 0 0) 0 [] := ⟨by simp, .inl ⟨rfl, _, _, rfl⟩⟩

/-- One that is not empty, laid open. -/
theorem IsRow.open {w : World} {sz : Nat} {v : Value} {n : Nat} {xs : List Value} (h : IsRow w sz v n xs) (hn : 0 < n) :
    ∃ b off cap, v = .slice (some ⟨b, off, none⟩) n cap ∧ b < w.heap.size ∧ n ≤ cap ∧ cap ≤ maxLen ∧ ∀ j u, xs[j]? = some u → w.cell? ⟨b, off + j, none⟩ = some u := by
  rcases h.2 with ⟨h0, _⟩ | h
  · omega
  · exact h
theorem IsRow.form {w : World} {sz : Nat} {v : Value} {n : Nat} {xs : List Value} (h : IsRow w sz v n xs) : ∃ a cap, v = .slice a n cap := by
  rcases h.2 with ⟨rfl, a, cap, rfl⟩ | ⟨b, off, cap, rfl, _⟩
  · exact ⟨a, cap, rfl⟩
  · exact ⟨_, _, rfl⟩

/-- An item: its kind, its number, its text. -/
structure It where
  k : Int
  n : Int
  s : ByteArray
def It.cells (x : It) : List Value := [.int .i64 x.k, .int .i64 x.n, .string x.s]
end Go.Proofs.YtlndgepoekllkaaGreatDoor
