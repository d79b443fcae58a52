/- Runes of bytes; small letters; which runes are a name: plain, of no program. -/
import Derived.Lib.ValidLaws
import Derived.Lib.RuneCount
import Derived.Laws.Cover4
import Derived.Lib.SlBy
import Derived.Test.YtciibeldmcakeaaDoorRows
import Derived.WalkKit
import Derived.WalkSpells
import Derived.WalkLawsBesides
import Derived.Deep.RegionWith
import Derived.RegionTactic
import Derived.Deep.RegionHeld3
import Derived.Deep.DeepCutAuto
import Derived.RangeFuncBox
import Derived.RangeFuncNested
import Derived.RangeFuncBound
import Derived.RangeFuncCalls
import Derived.RangeFuncLeaves
import Derived.Shelf.Abstract
import Derived.Shelf.RegionOpen
import Derived.OwnWalkIn
import Derived.TacticsInMore
import Derived.LoopNIn
import Derived.LoopIn
import Derived.Maps.AppendAt
namespace Go.Proofs.YtciibeldmcakeaaDoor
open Go.Lib
set_option maxRecDepth 100000

def rnGo : Nat → List UInt8 → List Nat
  | 0, _ => []
  | n + 1, l => if l = [] then [] else (decodeL l).1 :: rnGo n (l.drop (decodeL l).2)
/-- The runes of bytes, as a range hands them over. -/
def rns (l : List UInt8) : List Nat := rnGo l.length l
theorem rnGo_nil : ∀ n, rnGo n [] = []
  | 0 => rfl
  | _ + 1 => by simp [rnGo]
theorem rnGo_fuel : ∀ (n m : Nat) (l : List UInt8), l.length ≤ n → l.length ≤ m → rnGo n l = rnGo m l
  | 0, m, l, hn, _ => by
    have : l = [] := List.eq_nil_of_length_eq_zero (by omega)
    subst this
    rw [rnGo_nil, rnGo_nil]
  | n + 1, 0, l, _, hm => by
    have : l = [] := List.eq_nil_of_length_eq_zero (by omega)
    subst this
    rw [rnGo_nil, rnGo_nil]
  | n + 1, m + 1, l, hn, hm => by
    unfold rnGo
    by_cases hne : l = []
    · simp [hne]
    · have hw := decodeL_width l
      have hl : 0 < l.length := List.length_pos_iff.2 hne
      rw [if_neg hne, if_neg hne, rnGo_fuel n m (l.drop (decodeL l).2) (by rw [List.length_drop]; omega) (by rw [List.length_drop]; omega)]
theorem rns_nil : rns [] = [] := rfl
theorem rns_step (l : List UInt8) (hne : l ≠ []) : rns l = (decodeL l).1 :: rns (l.drop (decodeL l).2) := by
  have hl : 0 < l.length := List.length_pos_iff.2 hne
  have hw := decodeL_width l
  obtain ⟨n, hn⟩ : ∃ n, l.length = n + 1 := ⟨l.length - 1, by omega⟩
  unfold rns
  rw [hn]
  show (if l = [] then [] else _) = _
  rw [if_neg hne, rnGo_fuel n (l.drop (decodeL l).2).length _ (by rw [List.length_drop]; omega) (Nat.le_refl _)]
/-- From a place of a text on. -/
theorem rns_at (s : ByteArray) (pos : Nat) (h : pos < s.size) : rns (s.data.toList.drop pos) = (Utf8.decode s pos).1 :: rns (s.data.toList.drop (pos + (Utf8.decode s pos).2)) := by
  have hne : s.data.toList.drop pos ≠ [] := by
    intro e
    have := congrArg List.length e
    rw [List.length_drop] at this
    have e2 : s.data.toList.length = s.size := Array.length_toList
    simp at this
    omega
  rw [rns_step _ hne, decodeL_drop, List.drop_drop]
theorem rns_end (s : ByteArray) (pos : Nat) (h : ¬ pos < s.size) : rns (s.data.toList.drop pos) = [] := by
  have e2 : s.data.toList.length = s.size := Array.length_toList
  rw [List.drop_of_length_le (by omega)]
  rfl
theorem rns_len_le : ∀ (n : Nat) (l : List UInt8), (rnGo n l).length ≤ n
  | 0, _ => by simp [rnGo]
  | n + 1, l => by
    unfold rnGo
    split
    · simp
    · have := rns_len_le n (l.drop (decodeL l).2)
      simp; omega
theorem runeCount_rns (s : ByteArray) : runeCount s = (rns s.data.toList).length := by
  have key : ∀ (f pos : Nat), s.size ≤ pos + f → runeCountFrom s f pos = (rns (s.data.toList.drop pos)).length := by
    intro f
    induction f with
    | zero => intro pos h; rw [rns_end s pos (by omega)]; rfl
    | succ f ih =>
      intro pos h
      unfold runeCountFrom
      by_cases hp : pos < s.size
      · have hw := width_pos s pos
        rw [if_pos hp, rns_at s pos hp, ih _ (by omega), List.length_cons]; omega
      · rw [if_neg hp, rns_end s pos hp]; rfl
  have := key s.size 0 (by omega)
  simpa [runeCount] using this

/-- A rune that UTF-8 has. -/
def scal (c : Nat) : Prop := c < 55296 ∨ (57344 ≤ c ∧ c ≤ 1114111)
theorem decodeN_scal (n b0 b1 b2 b3 : Nat) (h0 : b0 < 256) : scal (decodeN n b0 b1 b2 b3).1 := by
  unfold decodeN scal
  repeat' split
  all_goals (simp only; omega)
theorem decodeL_scal (l : List UInt8) : scal (decodeL l).1 := by rw [decodeL_N]; exact decodeN_scal _ _ _ _ _ (UInt8.toNat_lt _)
theorem rnGo_scal : ∀ (n : Nat) (l : List UInt8), ∀ c ∈ rnGo n l, scal c
  | 0, _ => by simp [rnGo]
  | n + 1, l => by
    unfold rnGo
    split
    · simp
    · intro c hc
      rcases List.mem_cons.1 hc with rfl | hc
      · exact decodeL_scal l
      · exact rnGo_scal n _ c hc
theorem rns_scal (l : List UInt8) : ∀ c ∈ rns l, scal c := rnGo_scal _ l

/-- The bytes of a rune. -/
def enc (c : Nat) : List UInt8 := (Utf8.encode c).data.toList
theorem enc1 {c : Nat} (h : c < 128) : enc c = [UInt8.ofNat c] := by
  have hv : Utf8.valid (c : Int) = true := by simp [Utf8.valid]; omega
  simp [enc, Utf8.encode, hv, h]
theorem enc2 {c : Nat} (h : 128 ≤ c) (h2 : c < 2048) : enc c = [UInt8.ofNat (192 + c / 64), UInt8.ofNat (128 + c % 64)] := by
  have hv : Utf8.valid (c : Int) = true := by simp [Utf8.valid]; omega
  have a : ¬ c < 128 := by omega
  simp [enc, Utf8.encode, hv, a, h2]
theorem enc3 {c : Nat} (h : 2048 ≤ c) (h2 : c < 65536) (hs : scal c) : enc c = [UInt8.ofNat (224 + c / 4096), UInt8.ofNat (128 + c / 64 % 64), UInt8.ofNat (128 + c % 64)] := by
  unfold scal at hs
  have hv : Utf8.valid (c : Int) = true := by simp [Utf8.valid]; omega
  have a : ¬ c < 128 := by omega
  have b : ¬ c < 2048 := by omega
  simp [enc, Utf8.encode, hv, a, b, h2]
theorem enc4 {c : Nat} (h : 65536 ≤ c) (hs : scal c) : enc c = [UInt8.ofNat (240 + c / 262144), UInt8.ofNat (128 + c / 4096 % 64), UInt8.ofNat (128 + c / 64 % 64), UInt8.ofNat (128 + c % 64)] := by
  unfold scal at hs
  have hv : Utf8.valid (c : Int) = true := by simp [Utf8.valid]; omega
  have a : ¬ c < 128 := by omega
  have b : ¬ c < 2048 := by omega
  have d : ¬ c < 65536 := by omega
  simp [enc, Utf8.encode, hv, a, b, d]
theorem toNat_of {n : Nat} (h : n < 256) : (UInt8.ofNat n).toNat = n := by simp; omega

set_option maxHeartbeats 1000000 in
/-- What is encoded is decoded, whatever stands behind it. -/
theorem dec_enc (c : Nat) (t : List UInt8) (hs : scal c) : decodeL (enc c ++ t) = (c, (enc c).length) := by
  rw [decodeL_N]
  by_cases h1 : c < 128
  · rw [enc1 h1]
    simp only [List.cons_append, List.nil_append, List.getD_cons_zero, List.length_cons, List.length_nil, toNat_of (show c < 256 by omega)]
    unfold decodeN
    rw [if_pos h1]
  by_cases h2 : c < 2048
  · rw [enc2 (by omega) h2]
    simp only [List.cons_append, List.nil_append, List.getD_cons_zero, List.getD_cons_succ, List.length_cons, List.length_nil, toNat_of (show 192 + c / 64 < 256 by omega), toNat_of (show 128 + c % 64 < 256 by omega)]
    unfold decodeN
    rw [if_neg (by omega), if_pos (by omega), if_pos (by omega)]
    apply Prod.ext <;> simp only <;> omega
  by_cases h3 : c < 65536
  · rw [enc3 (by omega) h3 hs]
    simp only [List.cons_append, List.nil_append, List.getD_cons_zero, List.getD_cons_succ, List.length_cons, List.length_nil, toNat_of (show 224 + c / 4096 < 256 by omega), toNat_of (show 128 + c / 64 % 64 < 256 by omega), toNat_of (show 128 + c % 64 < 256 by omega)]
    unfold scal at hs
    unfold decodeN
    rw [if_neg (by omega), if_neg (by omega), if_pos (by omega), if_pos (by omega)]
    apply Prod.ext <;> simp only <;> omega
  · rw [enc4 (by omega) hs]
    unfold scal at hs
    simp only [List.cons_append, List.nil_append, List.getD_cons_zero, List.getD_cons_succ, List.length_cons, List.length_nil, toNat_of (show 240 + c / 262144 < 256 by omega), toNat_of (show 128 + c / 4096 % 64 < 256 by omega), toNat_of (show 128 + c / 64 % 64 < 256 by omega), toNat_of (show 128 + c % 64 < 256 by omega)]
    unfold decodeN
    rw [if_neg (by omega), if_neg (by omega), if_neg (by omega), if_pos (by omega), if_pos (by omega)]
    apply Prod.ext <;> simp only <;> omega
theorem enc_len (c : Nat) : 1 ≤ (enc c).length := by
  unfold enc Utf8.encode
  simp only
  repeat' split
  all_goals simp
theorem enc_len4 (c : Nat) : (enc c).length ≤ 4 := by
  unfold enc Utf8.encode
  simp only
  repeat' split
  all_goals simp
theorem enc_err (c : Nat) (h : c = 65533) : (enc c).length = 3 := by subst h; decide +kernel

theorem rns_enc : ∀ cs : List Nat, (∀ c ∈ cs, scal c) → rns (cs.flatMap enc) = cs ∧ validD (cs.flatMap enc) = true
  | [], _ => ⟨rfl, rfl⟩
  | c :: cs, h => by
    obtain ⟨i1, i2⟩ := rns_enc cs (fun x hx => h x (List.mem_cons_of_mem _ hx))
    have hl := enc_len c
    have hne : enc c ++ cs.flatMap enc ≠ [] := by
      intro e
      have := congrArg List.length e
      simp at this
      rw [this.1] at hl
      simp at hl
    have hd := dec_enc c (cs.flatMap enc) (h c (by simp))
    rw [List.flatMap_cons]
    constructor
    · rw [rns_step _ hne, hd]
      simp [i1]
    · rw [validD_step _ hne, hd, if_neg]
      · simp [i2]
      · rintro ⟨e1, e2⟩
        have := enc_err c e1
        simp at e2
        omega
theorem enc_rns : ∀ (n : Nat) (l : List UInt8), l.length ≤ n → validD l = true → (rns l).flatMap enc = l
  | 0, l, hn, _ => by
    have : l = [] := List.eq_nil_of_length_eq_zero (by omega)
    subst this
    rfl
  | n + 1, l, hn, hv => by
    by_cases hne : l = []
    · subst hne; rfl
    have hl : 0 < l.length := List.length_pos_iff.2 hne
    have hw := decodeL_width l
    rw [validD_step l hne] at hv
    split at hv
    · cases hv
    · rename_i hc
      rw [rns_step l hne, List.flatMap_cons, enc_rns n _ (by rw [List.length_drop]; omega) hv]
      have he := encode_decode l hne hc
      have e3 : enc (decodeL l).1 = l.take (decodeL l).2 := by
        rw [← he]
        have hs := decodeL_scal l
        generalize (decodeL l).1 = c at hs
        by_cases h1 : c < 128
        · rw [enc1 h1, encodeRune, encodeRuneZ_one (by omega) (by omega)]; simp
        by_cases h2 : c < 2048
        · rw [enc2 (by omega) h2, encodeRune, encodeRuneZ_two (by omega) (by omega)]
          simp only [List.map_cons, List.map_nil]
          congr 1
        by_cases h3 : c < 65536
        · rw [enc3 (by omega) h3 hs, encodeRune, encodeRuneZ_three (by unfold scal at hs; omega)]
          simp only [List.map_cons, List.map_nil]
          congr 1
        · rw [enc4 (by omega) hs, encodeRune, encodeRuneZ_four (by omega) (by unfold scal at hs; omega)]
          simp only [List.map_cons, List.map_nil]
          congr 1
      rw [e3, List.take_append_drop]

/-! ### letters -/
def letterN (c : Nat) : Bool := decide ((65 ≤ c ∧ c ≤ 90) ∨ (97 ≤ c ∧ c ≤ 122) ∨ (192 ≤ c ∧ c ≤ 591 ∧ c ≠ 215 ∧ c ≠ 247) ∨ (913 ≤ c ∧ c ≤ 937 ∧ c ≠ 930) ∨ (945 ≤ c ∧ c ≤ 969) ∨ (1040 ≤ c ∧ c ≤ 1103) ∨ (19968 ≤ c ∧ c ≤ 40959))
def bigN (c : Nat) : Bool := decide ((65 ≤ c ∧ c ≤ 90) ∨ (192 ≤ c ∧ c ≤ 222 ∧ c ≠ 215) ∨ (913 ≤ c ∧ c ≤ 937 ∧ c ≠ 930) ∨ (1040 ≤ c ∧ c ≤ 1071))
def smallN (c : Nat) : Nat := if bigN c then c + 32 else c
theorem smallN_scal {c : Nat} (h : scal c) : scal (smallN c) := by
  unfold smallN
  split
  · rename_i hb
    simp only [bigN, decide_eq_true_eq] at hb
    unfold scal
    omega
  · exact h
theorem smallN_idem (c : Nat) : smallN (smallN c) = smallN c := by
  by_cases hb : bigN c = true
  · have hb2 : bigN (c + 32) = false := by
      simp only [bigN, decide_eq_true_eq] at hb
      simp only [bigN, decide_eq_false_iff_not]
      omega
    simp [smallN, hb, hb2]
  · simp [smallN, hb]
def beginsN (c : Nat) : Bool := c == 95 || letterN c
theorem beginsN_small (c : Nat) : beginsN (smallN c) = beginsN c := by
  by_cases hb : bigN c = true
  · simp only [smallN, hb, if_true]
    simp only [bigN, decide_eq_true_eq] at hb
    have h1 : letterN c = true := by simp only [letterN, decide_eq_true_eq]; omega
    have h2 : letterN (c + 32) = true := by simp only [letterN, decide_eq_true_eq]; omega
    simp [beginsN, h1, h2]
  · simp [smallN, hb]

/-- What Check answers, from some parts and runes on. -/
def chk : Nat → Nat → Bool → List Nat → Int
  | p, r, f, [] => if f then 3 else if 5 < p ∨ 40 < r then 2 else 0
  | p, r, f, c :: cs => if beginsN c then chk p (r + 1) false cs else if f then 3 else if c = 46 then chk (p + 1) (r + 1) true cs else if c ≠ 45 ∧ ¬ (48 ≤ c ∧ c ≤ 57) then 3 else chk p (r + 1) f cs
def checkL (l : List UInt8) : Int := chk 1 0 true (rns l)
theorem chk_small : ∀ (cs : List Nat) (p r : Nat) (f : Bool), chk p r f (cs.map smallN) = chk p r f cs
  | [], _, _, _ => rfl
  | c :: cs, p, r, f => by
    simp only [List.map_cons, chk, beginsN_small, chk_small cs]
    by_cases hb : beginsN c = true
    · simp [hb]
    · have hn : smallN c = c := by
        by_cases h : bigN c = true
        · exfalso
          apply hb
          simp only [bigN, decide_eq_true_eq] at h
          have h1 : letterN c = true := by simp only [letterN, decide_eq_true_eq]; omega
          simp [beginsN, h1]
        · simp [smallN, h]
      rw [hn]

/-- What Fold answers. -/
def foldL (l : List UInt8) : List UInt8 := if validD l = true then ((rns l).map smallN).flatMap enc else l
theorem foldL_valid (l : List UInt8) : validD (foldL l) = validD l := by
  unfold foldL
  by_cases h : validD l = true
  · rw [if_pos h, h]
    exact (rns_enc _ (by intro c hc; obtain ⟨x, hx, rfl⟩ := List.mem_map.1 hc; exact smallN_scal (rns_scal l x hx))).2
  · rw [if_neg h]
theorem foldL_rns {l : List UInt8} (h : validD l = true) : rns (foldL l) = (rns l).map smallN := by
  unfold foldL
  rw [if_pos h]
  exact (rns_enc _ (by intro c hc; obtain ⟨x, hx, rfl⟩ := List.mem_map.1 hc; exact smallN_scal (rns_scal l x hx))).1
theorem foldL_idem (l : List UInt8) : foldL (foldL l) = foldL l := by
  by_cases h : validD l = true
  · have hv := foldL_valid l
    rw [h] at hv
    have e : foldL (foldL l) = ((rns (foldL l)).map smallN).flatMap enc := by rw [foldL, if_pos hv]
    rw [e, foldL_rns h, List.map_map]
    have e2 : (smallN ∘ smallN) = smallN := funext smallN_idem
    rw [e2, foldL, if_pos h]
  · have e : foldL l = l := if_neg h
    rw [e, e]
theorem foldL_check (l : List UInt8) : checkL (foldL l) = checkL l := by
  by_cases h : validD l = true
  · unfold checkL
    rw [foldL_rns h, chk_small]
  · rw [show foldL l = l from if_neg h]
theorem foldL_count (l : List UInt8) : (rns (foldL l)).length = (rns l).length := by
  by_cases h : validD l = true
  · rw [foldL_rns h, List.length_map]
  · rw [show foldL l = l from if_neg h]
theorem flat_len : ∀ cs : List Nat, (cs.flatMap enc).length ≤ 4 * cs.length
  | [] => by simp
  | c :: cs => by
    have := flat_len cs
    have := enc_len4 c
    simp only [List.flatMap_cons, List.length_append, List.length_cons]
    omega
theorem foldL_len (l : List UInt8) : (foldL l).length ≤ 4 * l.length := by
  unfold foldL
  split
  · have h1 := flat_len ((rns l).map smallN)
    have h2 := rns_len_le l.length l
    rw [List.length_map] at h1
    have : (rns l).length ≤ l.length := h2
    omega
  · omega

/-- FNV-1a. -/
def hashL (l : List UInt8) : Nat := l.foldl (fun h b => ((h ^^^ b.toNat) * 1099511628211) % 18446744073709551616) 14695981039346656037
end Go.Proofs.YtciibeldmcakeaaDoor
/- Nodes, their points, the ring, a key's heirs: plain, of no program. -/
namespace Go.Proofs.YtciibeldmcakeaaDoor
open Go.Lib
set_option maxRecDepth 100000

/-- The digits of a node's number. -/
def nt (n : Nat) : List UInt8 := if n < 10 then [UInt8.ofNat (48 + n)] else [49, UInt8.ofNat (38 + n)]
/-- A node's point. -/
def pt (n : Nat) : Nat := hashL (110 :: 111 :: 100 :: 101 :: 32 :: nt n)
/-- All nodes, by their points. -/
def R15 : List Nat := [12, 13, 10, 11, 14, 15, 7, 6, 5, 4, 3, 2, 1, 9, 8]
theorem R15_sorted : R15.Pairwise (fun a b => pt a < pt b) := by decide +kernel
theorem R15_nodup : R15.Nodup := by decide
theorem pt_lt (n : Nat) : pt n < 18446744073709551616 := by
  unfold pt hashL
  generalize 110 :: 111 :: 100 :: 101 :: 32 :: nt n = l
  have : ∀ (l : List UInt8) (h : Nat), h < 18446744073709551616 → l.foldl (fun h b => ((h ^^^ b.toNat) * 1099511628211) % 18446744073709551616) h < 18446744073709551616 := by
    intro l
    induction l with
    | nil => intro h hh; exact hh
    | cons b l ih => intro h _; exact ih _ (Nat.mod_lt _ (by decide))
  exact this l _ (by decide)
theorem R15_mem {n : Nat} : n ∈ R15 ↔ 1 ≤ n ∧ n ≤ 15 := by
  constructor
  · intro h
    have : ∀ m ∈ R15, 1 ≤ m ∧ m ≤ 15 := by decide
    exact this n h
  · intro h
    have : ∀ m : Fin 16, 1 ≤ m.val → m.val ∈ R15 := by decide
    exact this ⟨n, by omega⟩ h.1
/-- May numbers be nodes? -/
def NodesP (l : List Int) : Prop := ∀ (k : Nat) (h : k < l.length), 1 ≤ l[k] ∧ l[k] ≤ 15 ∧ ∀ (j : Nat) (e : j + 1 = k), l[j]'(by omega) < l[k]
open Classical in
noncomputable def nodesB (l : List Int) : Bool := decide (NodesP l)
open Classical in
theorem nodesB_true {l : List Int} (h : NodesP l) : nodesB l = true := by unfold nodesB; exact decide_eq_true h
open Classical in
theorem nodesB_false {l : List Int} (h : ¬ NodesP l) : nodesB l = false := by unfold nodesB; exact decide_eq_false h
/-- A node where it stands. -/
def st (n : Nat) : Int × Int := ((n : Int), (pt n : Int))
/-- The ring of nodes. -/
noncomputable def rgL (l : List Int) : List Nat := if nodesB l = true then R15.filter (fun (n : Nat) => decide ((n : Int) ∈ l)) else []
theorem rgL_of {l : List Int} (h : NodesP l) : rgL l = R15.filter (fun (n : Nat) => decide ((n : Int) ∈ l)) := if_pos (nodesB_true h)
theorem rgL_not {l : List Int} (h : ¬ NodesP l) : rgL l = [] := if_neg (by rw [nodesB_false h]; decide)
theorem rgL_sorted (l : List Int) : (rgL l).Pairwise (fun a b => pt a < pt b) := by
  unfold rgL
  split
  · exact R15_sorted.filter _
  · exact .nil
theorem rgL_nodup (l : List Int) : (rgL l).Nodup := by
  unfold rgL
  split
  · exact R15_nodup.filter _
  · exact .nil
theorem rgL_node {l : List Int} {n : Nat} (h : n ∈ rgL l) : 1 ≤ n ∧ n ≤ 15 := by
  unfold rgL at h
  split at h
  · exact R15_mem.1 (List.mem_filter.1 h).1
  · cases h
theorem nodes_rise {l : List Int} (h : NodesP l) : ∀ (k i : Nat) (hk : k < l.length) (hi : i < k), l[i]'(by omega) < l[k]
  | 0, _, _, hi => absurd hi (Nat.not_lt_zero _)
  | k + 1, i, hk, hi => by
    have h1 := (h (k + 1) hk).2.2 k rfl
    by_cases e : i = k
    · subst e; exact h1
    · have := nodes_rise h k i (by omega) (by omega)
      omega
theorem nodes_nodup {l : List Int} (h : NodesP l) : l.Nodup := by
  rw [List.nodup_iff_pairwise_ne, List.pairwise_iff_getElem]
  intro i j hi hj hij e
  have := nodes_rise h j i hj hij
  omega
theorem nodes_mem {l : List Int} (h : NodesP l) {x : Int} (hx : x ∈ l) : 1 ≤ x ∧ x ≤ 15 := by
  obtain ⟨k, hk, rfl⟩ := List.mem_iff_getElem.1 hx
  exact ⟨(h k hk).1, (h k hk).2.1⟩
theorem rgL_mem {l : List Int} (h : NodesP l) {x : Int} : x ∈ (rgL l).map (fun (n : Nat) => (n : Int)) ↔ x ∈ l := by
  rw [rgL_of h]
  constructor
  · intro hx
    obtain ⟨n, hn, rfl⟩ := List.mem_map.1 hx
    simpa using (List.mem_filter.1 hn).2
  · intro hx
    have := nodes_mem h hx
    refine List.mem_map.2 ⟨x.toNat, List.mem_filter.2 ⟨R15_mem.2 (by omega), ?_⟩, by omega⟩
    rw [show ((x.toNat : Nat) : Int) = x by omega]
    simpa using hx
theorem map_cast_nodup {r : List Nat} (h : r.Nodup) : (r.map (fun (n : Nat) => (n : Int))).Nodup := by
  rw [List.nodup_iff_pairwise_ne] at *
  rw [List.pairwise_map]
  exact h.imp fun hne e => hne (by omega)
theorem rgL_perm {l : List Int} (h : NodesP l) : ((rgL l).map (fun (n : Nat) => (n : Int))).Perm l :=
  (List.perm_ext_iff_of_nodup (map_cast_nodup (rgL_nodup l)) (nodes_nodup h)).2 fun _ => rgL_mem h
theorem rgL_len {l : List Int} (h : NodesP l) : (rgL l).length = l.length := by
  have := (rgL_perm h).length_eq
  simpa using this
/-- How two that stand on the ring stand to one another. -/
def cfS (x y : Int × Int) : Int := if x.2 < y.2 then -1 else if y.2 < x.2 then 1 else if x.1 < y.1 then -1 else if y.1 < x.1 then 1 else 0
/-- What is sorted by the points is the ring. -/
theorem sorted_ring {l : List Int} (h : NodesP l) {D : List (Int × Int)} (hp : D.Perm (l.map fun x => (x, (pt x.toNat : Int)))) (hs : D.Pairwise fun a b => ¬ cfS b a < 0) : D = (rgL l).map st := by
  have hp2 : D.Perm ((rgL l).map st) := by
    refine hp.trans ?_
    have := ((rgL_perm h).symm).map (fun x : Int => (x, (pt x.toNat : Int)))
    rw [List.map_map] at this
    exact this
  refine List.Perm.eq_of_pairwise (le := fun a b => ¬ cfS b a < 0) ?_ hs ?_ hp2
  · intro a b _ _ h1 h2
    obtain ⟨a1, a2⟩ := a
    obtain ⟨b1, b2⟩ := b
    unfold cfS at h1 h2
    simp only at h1 h2
    rw [Prod.mk.injEq]
    split at h1 <;> split at h2 <;> simp_all <;> omega
  · rw [List.pairwise_map]
    refine (rgL_sorted l).imp ?_
    intro a b hab
    unfold cfS st
    simp only
    rw [if_neg (by omega), if_pos (by omega)]
    decide
/-- A key's heirs. -/
def hsL (key : Nat) (r : List Nat) : List Nat := r.filter (fun n => decide (key ≤ pt n)) ++ r.filter (fun n => decide (pt n < key))
/-- The place of a key's owner. -/
def owI (key : Nat) (r : List Nat) : Nat := if r.any (fun n => decide (key ≤ pt n)) = true then (r.filter (fun n => decide (pt n < key))).length else 0
theorem ring_split (key : Nat) : ∀ (r : List Nat), r.Pairwise (fun a b => pt a < pt b) → r = r.filter (fun n => decide (pt n < key)) ++ r.filter (fun n => decide (key ≤ pt n))
  | [], _ => rfl
  | a :: r, h => by
    have ih := ring_split key r (List.Pairwise.of_cons h)
    have ha : ∀ b ∈ r, pt a < pt b := fun b hb => List.rel_of_pairwise_cons h hb
    by_cases hk : pt a < key
    · rw [List.filter_cons_of_pos (by simpa using hk), List.filter_cons_of_neg (by simp; omega), List.cons_append, ← ih]
    · have e1 : r.filter (fun n => decide (pt n < key)) = [] := by
        rw [List.filter_eq_nil_iff]
        intro b hb
        have := ha b hb
        simp
        omega
      rw [List.filter_cons_of_neg (by simpa using hk), List.filter_cons_of_pos (by simp; omega), e1, List.nil_append]
      rw [e1, List.nil_append] at ih
      rw [← ih]
theorem hsL_len (key : Nat) (r : List Nat) (h : r.Pairwise (fun a b => pt a < pt b)) : (hsL key r).length = r.length := by
  have := congrArg List.length (ring_split key r h)
  unfold hsL
  rw [List.length_append] at *
  omega
theorem any_of {key : Nat} {r : List Nat} : r.any (fun n => decide (key ≤ pt n)) = true ↔ r.filter (fun n => decide (key ≤ pt n)) ≠ [] := by
  rw [List.any_eq_true, Ne, List.filter_eq_nil_iff]
  constructor
  · rintro ⟨x, hx, h⟩ hn
    exact hn x hx h
  · intro hn
    apply Classical.byContradiction
    intro hh
    exact hn fun a ha hk => hh ⟨a, ha, hk⟩
theorem owI_lt (key : Nat) (r : List Nat) (h : r.Pairwise (fun a b => pt a < pt b)) (h0 : 0 < r.length) : owI key r < r.length := by
  unfold owI
  split
  · rename_i ha
    have h1 := List.length_pos_iff.2 (any_of.1 ha)
    have := congrArg List.length (ring_split key r h)
    rw [List.length_append] at this
    omega
  · exact h0
/-- From the owner on, round the ring, the heirs stand. -/
theorem heir_at (key : Nat) (r : List Nat) (h : r.Pairwise (fun a b => pt a < pt b)) (i : Nat) (hi : i < r.length) : r[(owI key r + i) % r.length]? = (hsL key r)[i]? := by
  have hsp := ring_split key r h
  unfold owI hsL
  generalize hA : r.filter (fun n => decide (pt n < key)) = A at *
  generalize hB : r.filter (fun n => decide (key ≤ pt n)) = B at *
  have hl : r.length = A.length + B.length := by rw [hsp, List.length_append]
  split
  · by_cases hb : i < B.length
    · rw [Nat.mod_eq_of_lt (by omega), List.getElem?_append_left hb]
      conv => lhs; rw [hsp]
      rw [List.getElem?_append_right (by omega)]
      congr 1
      omega
    · have e : (A.length + i) % r.length = i - B.length := by
        rw [Nat.mod_eq_sub_mod (by omega), Nat.mod_eq_of_lt (by omega)]
        omega
      rw [e, List.getElem?_append_right (by omega)]
      conv => lhs; rw [hsp]
      rw [List.getElem?_append_left (by omega)]
  · rename_i ha
    have hB0 : B = [] := by
      apply Classical.byContradiction
      intro hn
      exact ha (any_of.2 (by rw [hB]; exact hn))
    subst hB0
    rw [Nat.zero_add, Nat.mod_eq_of_lt hi, List.nil_append]
    conv => lhs; rw [hsp]
    rw [List.append_nil]
theorem owner_at (key : Nat) (r : List Nat) (h : r.Pairwise (fun a b => pt a < pt b)) (h0 : 0 < r.length) : r[owI key r]? = (hsL key r)[0]? := by
  have := heir_at key r h 0 h0
  rwa [Nat.add_zero, Nat.mod_eq_of_lt (owI_lt key r h h0)] at this
theorem hsL_perm (key : Nat) (r : List Nat) (h : r.Pairwise (fun a b => pt a < pt b)) : (hsL key r).Perm r := by
  have := ring_split key r h
  conv => rhs; rw [this]
  unfold hsL
  exact List.perm_append_comm
/-- What slices.IndexFunc finds. -/
theorem idx_owner (key : Nat) (r : List Nat) (h : r.Pairwise (fun a b => pt a < pt b)) : max (idxBy (fun _ (y : Int × Int) => decide ((key : Int) ≤ y.2)) (r.map st) default) 0 = (owI key r : Int) := by
  have hsp := ring_split key r h
  unfold owI
  generalize hA : r.filter (fun n => decide (pt n < key)) = A at *
  generalize hB : r.filter (fun n => decide (key ≤ pt n)) = B at *
  have hAm : ∀ a ∈ A, pt a < key := fun a ha => by
    rw [← hA] at ha
    simpa using (List.mem_filter.1 ha).2
  have hBm : ∀ a ∈ B, key ≤ pt a := fun a ha => by
    rw [← hB] at ha
    simpa using (List.mem_filter.1 ha).2
  have gen : ∀ (A : List Nat) (i : Nat), (∀ a ∈ A, pt a < key) → idxByFrom (fun _ (y : Int × Int) => decide ((key : Int) ≤ y.2)) default ((A ++ B).map st) i = if B = [] then -1 else ((i + A.length : Nat) : Int) := by
    intro A
    induction A with
    | nil =>
      intro i _
      cases B with
      | nil => rfl
      | cons b B =>
        have := hBm b (by simp)
        rw [List.nil_append, List.map_cons, idxByFrom, if_pos (by simp [st]; omega), if_neg (by simp)]
        simp
    | cons a A ih =>
      intro i hh
      have := hh a (by simp)
      rw [List.cons_append, List.map_cons, idxByFrom, if_neg (by simp [st]; omega), ih (i + 1) (fun b hb => hh b (List.mem_cons_of_mem _ hb))]
      split
      · rfl
      · rw [List.length_cons]; congr 1; omega
  unfold idxBy
  conv => lhs; rw [hsp]
  rw [gen A 0 hAm]
  by_cases hB0 : B = []
  · rw [if_pos hB0, if_neg (fun ha => any_of.1 ha (hB.trans hB0))]
    rfl
  · rw [if_neg hB0, if_pos (any_of.2 (fun e => hB0 (hB.symm.trans e)))]
    omega
end Go.Proofs.YtciibeldmcakeaaDoor
/- Views, plainly: which may be, who is up, what becomes of them. -/
namespace Go.Proofs.YtciibeldmcakeaaDoor

/-- A member. -/
structure Mb where
  nd : Int
  lf : Int
  up : Bool
deriving Inhabited, DecidableEq
def enM (m : Mb) : List Value := [.int .i64 m.nd, .int .i64 m.lf, .bool m.up]
abbrev mCells (l : List Mb) : List Value := l.flatMap enM
abbrev nds (l : List Mb) : List Int := l.map Mb.nd
def cntB (n : Int) : Bool := decide (1 ≤ n) && decide (n ≤ 1099511627775)
theorem cntB_iff {n : Int} : cntB n = true ↔ 1 ≤ n ∧ n ≤ 1099511627775 := by simp [cntB]
/-- May a view be? -/
def VwP (ep : Int) (l : List Mb) : Prop := cntB ep = true ∧ l ≠ [] ∧ (∀ m ∈ l, cntB m.lf = true) ∧ NodesP (nds l)
open Classical in
noncomputable def vB (ep : Int) (l : List Mb) : Bool := decide (VwP ep l)
open Classical in
theorem vB_true {ep : Int} {l : List Mb} (h : VwP ep l) : vB ep l = true := by unfold vB; exact decide_eq_true h
open Classical in
theorem vB_false {ep : Int} {l : List Mb} (h : ¬ VwP ep l) : vB ep l = false := by unfold vB; exact decide_eq_false h
theorem nodes_len {l : List Int} (h : NodesP l) : l.length ≤ 15 := by
  rw [← rgL_len h, rgL_of h]
  exact List.length_filter_le _ _
theorem VwP.len {ep : Int} {l : List Mb} (h : VwP ep l) : l.length ≤ 15 := by
  have := nodes_len h.2.2.2
  simpa [nds] using this
theorem VwP.pos {ep : Int} {l : List Mb} (h : VwP ep l) : 0 < l.length := List.length_pos_iff.2 h.2.1
/-- Who is up. -/
def upN (l : List Mb) : List Int := (l.filter Mb.up).map Mb.nd
noncomputable def lvL (ep : Int) (l : List Mb) : List Int := if vB ep l = true then upN l else []
/-- The first view of nodes. -/
def fsM (l : List Int) : List Mb := l.map fun n => ⟨n, 1, true⟩
/-- The error where a member turns. -/
def eOf (ep : Int) (up : Bool) (m : Mb) : Int := if m.up = up ∧ up = true then 5 else if m.up = up then 12 else if ep = 1099511627775 ∨ up = true ∧ m.lf = 1099511627775 then 13 else 0
/-- What a member becomes. -/
def tM (ep : Int) (up : Bool) (node : Int) (m : Mb) : Mb := if m.nd = node then ⟨m.nd, if up = true ∧ eOf ep up m = 0 then m.lf + 1 else m.lf, up⟩ else m
/-- The reference's error, member by member. -/
def eL (ep : Int) (up : Bool) (node : Int) (l : List Mb) : Int := l.foldl (fun e m => if m.nd = node then eOf ep up m else e) 4
noncomputable def tE (ep : Int) (up : Bool) (node : Int) (l : List Mb) : Int := if vB ep l = true then eL ep up node l else 1
noncomputable def tEp (ep : Int) (up : Bool) (node : Int) (l : List Mb) : Int := if tE ep up node l = 0 then ep + 1 else 0
noncomputable def tLs (ep : Int) (up : Bool) (node : Int) (l : List Mb) : List Mb := if tE ep up node l = 0 then l.map (tM ep up node) else []
theorem eL_snoc (ep : Int) (up : Bool) (node : Int) (l : List Mb) (m : Mb) : eL ep up node (l ++ [m]) = if m.nd = node then eOf ep up m else eL ep up node l := by
  simp [eL]
theorem fold_no (ep : Int) (up : Bool) (node : Int) : ∀ (l : List Mb) (c : Int), (∀ m ∈ l, m.nd ≠ node) → l.foldl (fun e m => if m.nd = node then eOf ep up m else e) c = c
  | [], _, _ => rfl
  | m :: l, c, h => by
    rw [List.foldl_cons, if_neg (h m (by simp))]
    exact fold_no ep up node l c fun x hx => h x (List.mem_cons_of_mem _ hx)
theorem eL_none {ep : Int} {up : Bool} {node : Int} {l : List Mb} (h : ∀ m ∈ l, m.nd ≠ node) : eL ep up node l = 4 := fold_no ep up node l 4 h
theorem nds_nodup {l : List Mb} (h : NodesP (nds l)) : ∀ (i j : Nat) (hi : i < l.length) (hj : j < l.length), l[i].nd = l[j].nd → i = j := by
  intro i j hi hj e
  have hn := nodes_nodup h
  rw [List.nodup_iff_pairwise_ne, List.pairwise_iff_getElem] at hn
  apply Classical.byContradiction
  intro hne
  rcases Nat.lt_or_gt_of_ne hne with h1 | h1
  · exact hn i j (by simpa [nds] using hi) (by simpa [nds] using hj) h1 (by simpa [nds] using e)
  · exact hn j i (by simpa [nds] using hj) (by simpa [nds] using hi) h1 (by simpa [nds] using e.symm)
theorem eL_at {ep : Int} {up : Bool} {node : Int} {l : List Mb} (h : NodesP (nds l)) (k : Nat) (hk : k < l.length) (e : l[k].nd = node) : eL ep up node l = eOf ep up l[k] := by
  have hs : l = l.take k ++ l[k] :: l.drop (k + 1) := by rw [List.getElem_cons_drop, List.take_append_drop]
  have : eL ep up node (l.take k ++ l[k] :: l.drop (k + 1)) = eOf ep up l[k] := by
    unfold eL
    rw [List.foldl_append, List.foldl_cons, if_pos e]
    refine fold_no ep up node _ _ fun m hm e2 => ?_
    obtain ⟨j, hj, rfl⟩ := List.mem_iff_getElem.1 hm
    rw [List.getElem_drop] at e2
    have := nds_nodup h (k + 1 + j) k (by simp at hj; omega) hk (e2.trans e.symm)
    omega
  rw [← hs] at this
  exact this
theorem set_map {ep : Int} {up : Bool} {node : Int} {l : List Mb} (h : NodesP (nds l)) (k : Nat) (hk : k < l.length) (e : l[k].nd = node) : l.set k (tM ep up node l[k]) = l.map (tM ep up node) := by
  apply List.ext_getElem
  · simp
  · intro i h1 h2
    rw [List.getElem_map, List.getElem_set]
    split
    · rename_i hi; subst hi; rfl
    · rename_i hi
      have hil : i < l.length := by simpa using h2
      have hne : ¬ l[i].nd = node := fun e2 => hi (nds_nodup h k i hk (by simpa using h2) (e.trans e2.symm))
      exact (show tM ep up node l[i] = l[i] by unfold tM; exact if_neg hne).symm
theorem tM_at {ep : Int} {up : Bool} {node : Int} {m : Mb} (e : m.nd = node) (h0 : eOf ep up m = 0) : tM ep up node m = ⟨m.nd, if up = true then m.lf + 1 else m.lf, up⟩ := by
  unfold tM
  rw [if_pos e]
  cases up <;> simp [h0]
/-- Who is gone. -/
noncomputable def gnL (ea : Int) (a : List Mb) (eb : Int) (b : List Mb) : List Int := if vB ea a = true ∧ vB eb b = true then (a.filter fun m => m.up && !decide (m ∈ b)).map Mb.nd else []
/-- A member's life. -/
noncomputable def lfL (ep : Int) (l : List Mb) (node : Int) : Int := if vB ep l = true then (match l.find? (fun m => m.nd == node) with | some m => m.lf | none => 0) else 0
/-- A member's cells. -/
theorem mCells_get : ∀ (l : List Mb) (i : Nat) (hi : i < l.length) (j : Nat), j < 3 → (mCells l)[i * 3 + j]? = (enM l[i])[j]?
  | d :: l, 0, _, j, hj => by
    rw [show mCells (d :: l) = enM d ++ mCells l from rfl, List.getElem?_append_left (by simp [enM]; omega)]
    simp
  | d :: l, i + 1, hi, j, hj => by
    rw [show mCells (d :: l) = enM d ++ mCells l from rfl, List.getElem?_append_right (by simp [enM]; omega)]
    rw [show (i + 1) * 3 + j - (enM d).length = i * 3 + j by simp [enM]; omega]
    exact mCells_get l i (by simpa using hi) j hj
theorem mCells_len (l : List Mb) : (mCells l).length = l.length * 3 := by
  induction l with
  | nil => rfl
  | cons x l ih => rw [show mCells (x :: l) = enM x ++ mCells l from rfl, List.length_append, ih]; simp [enM]; omega
theorem mCells_snoc (l : List Mb) (m : Mb) : mCells (l ++ [m]) = mCells l ++ enM m := by simp [mCells]
end Go.Proofs.YtciibeldmcakeaaDoor
/- Small laws of our own, over whatever program: an append of one element onto a row that the call owns; a row that is owned, read as cells. -/
namespace Go.Proofs.YtciibeldmcakeaaDoor
open Go.RowKit

theorem ret_int {k : IntKind} {a b : Int} (h : a = b) : Ending.returned (.int k a) = .returned (.int k b) := by rw [h]
theorem ret_str {xs ys : List Int} (h : xs = ys) : Ending.returned (.string (strOfNums xs)) = .returned (.string (strOfNums ys)) := by rw [h]

theorem wpl_app {P : Program} (wr : World) {ops : Array Oper} {rest : List Oper} {o : Oper} {a : Act} {Q : Exit → Act → World → Prop} (hgd : o.guard = none) (s x : Operand) (t e : TypeId)
    (ho : o.op = .call { callee := .builtin .append, args := #[s, x], argTypes := #[t, t] })
    (i : TypeInfo) (z : Value) (bytes : Nat) (ht : P.underlying t = some (.slice e)) (hi : P.info? e = some i) (hz : i.zero = some z)
    (hsize : i.size = 1) (hby : i.bytes = bytes) (hzs : z.cells.size = 1)
    (base : Nat) (v : Value) (n : Nat) (xs : List Value) (hs : a.eval s = v) (hown : wr.ownsRow base e 1 v n xs)
    (el : Value) (hx : a.eval x = .slice (some ⟨wr.heap.size, 0, none⟩) 1 1) (h1 : el.oneCell' = true)
    (hbytes : (n + 1) * bytes ≤ 140737488355328) (h63 : n + 1 ≤ maxLen) (hbase : base ≤ wr.heap.size)
    (h : ∀ v' w', w'.ownsRow base e 1 v' (n + 1) (xs ++ [el]) → Below base wr w' → v' ≠ .slice none 0 0 → wpList P ops Q rest (a.put o.dst v') w') :
    wpList P ops Q (o :: rest) a (wr.alloc (.cells #[el] e)) := by
  refine wpList_append_own _ hgd s x t ho base e i z 1 bytes ht hi hz hsize hby hzs (by omega) v n xs hs (hown.alloc _) ⟨wr.heap.size, 0, none⟩ 1 1 [el] hx rfl ?_ ?_ h63 hbytes ?_ ?_
  · intro j u hj
    match j, hj with
    | 0, hj => simp at hj; subst hj; simp [Addr.add]
  · intro u hu; simp at hu; subst hu; exact h1
  · simp; omega
  · intro v' w' h2 h3 h4
    refine h v' w' h2 ?_ (fun e => by have := (h4.1 e).2; omega)
    exact ((Below.refl _ _).alloc hbase _).grown h3 (by simp; omega) (fun k hk => (hown.lt k hk).1)

/-- An owned row of bytes that is not empty, laid open. -/
theorem own_open {w : World} {base : Nat} {e : TypeId} {v : Value} {n : Nat} {xs : List Value} (h : w.ownsRow base e 1 v n xs) (hn : 0 < n) :
    ∃ g cap, v = .slice (some ⟨g, 0, none⟩) n cap ∧ base ≤ g ∧ n ≤ cap ∧ cap ≤ maxLen ∧ xs.length = n ∧ (∀ j u, xs[j]? = some u → w.cell? ⟨g, j, none⟩ = some u) ∧ (∀ j, w.frozen? ⟨g, j, none⟩ = false) := by
  obtain ⟨h1, h2⟩ := h
  rcases h2 with ⟨_, h0⟩ | ⟨g, cap, cur, rfl, hb, hg, hc, hm, hs, ht⟩
  · omega
  · refine ⟨g, cap, rfl, hb, hc, hm, by omega, ?_, ?_⟩
    · intro j u hu
      rw [cell_of_row w g j cur e (0, 0) hg]
      rw [← ht, List.getElem?_take] at hu
      split at hu
      · simpa using hu
      · cases hu
    · intro j
      simp [World.frozen?, hg]

end Go.Proofs.YtciibeldmcakeaaDoor
/- Small laws of our own, over whatever program, more of them. -/
namespace Go.Proofs.YtciibeldmcakeaaDoor
open Go.RowKit
theorem bcell {B : Nat} {W w1 : World} (hb : Below B W w1) : (∀ b o, b < B → w1.cell? ⟨b, o, none⟩ = W.cell? ⟨b, o, none⟩) ∧ (∀ b o, b < B → w1.frozen? ⟨b, o, none⟩ = W.frozen? ⟨b, o, none⟩) :=
  ⟨fun b o h => hb.cell (p := ⟨b, o, none⟩) h, fun b o h => hb.frozen (p := ⟨b, o, none⟩) h⟩

/-- A block that was laid before a call that keeps what was there: it holds what it held. -/
theorem part_cells {w w1 : World} {C : Array Value} {t : TypeId} (hb : Below (w.alloc (.cells C t)).drew.heap.size (w.alloc (.cells C t)).drew w1) :
    (∀ j, w1.cell? ⟨w.heap.size, j, none⟩ = C[j]?) ∧ (∀ j, w1.frozen? ⟨w.heap.size, j, none⟩ = false) ∧ Below w.heap.size w w1 ∧ w.heap.size < w1.heap.size := by
  have hs := hb.size
  simp at hs
  refine ⟨fun j => ?_, fun j => ?_, ?_, by omega⟩
  · rw [hb.cell (p := ⟨w.heap.size, j, none⟩) (by simp)]
    simp
  · rw [hb.frozen (p := ⟨w.heap.size, j, none⟩) (by simp)]
    simp
  · exact ((Below.refl _ _).alloc (Nat.le_refl _) _).drew.trans (hb.mono (by simp))

theorem part_cells0 {w w1 : World} {C : Array Value} {t : TypeId} (hb : Below (w.alloc (.cells C t)).heap.size (w.alloc (.cells C t)) w1) :
    (∀ j, w1.cell? ⟨w.heap.size, j, none⟩ = C[j]?) ∧ (∀ j, w1.frozen? ⟨w.heap.size, j, none⟩ = false) ∧ Below w.heap.size w w1 ∧ w.heap.size < w1.heap.size := by
  have hs := hb.size
  simp at hs
  refine ⟨fun j => ?_, fun j => ?_, ?_, by omega⟩
  · rw [hb.cell (p := ⟨w.heap.size, j, none⟩) (by simp)]
    simp
  · rw [hb.frozen (p := ⟨w.heap.size, j, none⟩) (by simp)]
    simp
  · exact ((Below.refl _ _).alloc (Nat.le_refl _) _).trans (hb.mono (by simp))

end Go.Proofs.YtciibeldmcakeaaDoor
/- Rows that are read: a slice, its elements cell by cell, wherever it lies. -/
namespace Go.Proofs.YtciibeldmcakeaaDoor
open Go.RowKit

/-- The slice v has n elements of 'sz' cells each, and they hold xs. -/
def IsRow (w : World) (sz : Nat) (v : Value) (n : Nat) (xs : List Value) : Prop :=
  xs.length = n * sz ∧ ((n = 0 ∧ ∃ a cap, v = .slice a 0 cap) ∨
    ∃ b off cap, v = .slice (some ⟨b, off, none⟩) n cap ∧ b < w.heap.size ∧ n ≤ cap ∧ cap ≤ maxLen ∧ ∀ j u, xs[j]? = some u → w.cell? ⟨b, off + j, none⟩ = some u)

theorem IsRow.below {w w' : World} {sz : Nat} {v : Value} {n : Nat} {xs : List Value} (h : IsRow w sz v n xs) (hb : Below w.heap.size w w') : IsRow w' sz v n xs := by
  refine ⟨h.1, ?_⟩
  rcases h.2 with h | ⟨b, off, cap, rfl, hlt, hc, hm, hcell⟩
  · exact .inl h
  · exact .inr ⟨b, off, cap, rfl, Nat.lt_of_lt_of_le hlt hb.size, hc, hm, fun j u hu => (hb.cell (p := ⟨b, off + j, none⟩) hlt).trans (hcell j u hu)⟩

/-- What the call itself has made is such a row, too. -/
theorem IsRow.own {w : World} {base : Nat} {e : TypeId} {sz : Nat} {v : Value} {n : Nat} {xs : List Value} (h : w.ownsRow base e sz v n xs) : IsRow w sz v n xs := by
  obtain ⟨h1, h2⟩ := h
  refine ⟨h1, ?_⟩
  rcases h2 with ⟨hv, hn⟩ | ⟨g, cap, cur, rfl, hb, hg, hc, hm, hs, ht⟩
  · exact .inl ⟨hn, _, _, hv⟩
  · refine .inr ⟨g, 0, cap, rfl, (Array.getElem?_eq_some_iff.1 hg).1, hc, hm, fun j u hu => ?_⟩
    rw [Nat.zero_add, cell_of_row w g j cur e (0, 0) hg]
    rw [← ht, List.getElem?_take] at hu
    split at hu
    · simpa using hu
    · cases hu

theorem IsRow.nil (w : World) (sz : Nat) : IsRow w sz (.slice none 0 0) 0 [] := ⟨by simp, .inl ⟨rfl, _, _, rfl⟩⟩

/-- One that is not empty, laid open. -/
theorem IsRow.open {w : World} {sz : Nat} {v : Value} {n : Nat} {xs : List Value} (h : IsRow w sz v n xs) (hn : 0 < n) :
    ∃ b off cap, v = .slice (some ⟨b, off, none⟩) n cap ∧ b < w.heap.size ∧ n ≤ cap ∧ cap ≤ maxLen ∧ ∀ j u, xs[j]? = some u → w.cell? ⟨b, off + j, none⟩ = some u := by
  rcases h.2 with ⟨h0, _⟩ | h
  · omega
  · exact h
theorem IsRow.form {w : World} {sz : Nat} {v : Value} {n : Nat} {xs : List Value} (h : IsRow w sz v n xs) : ∃ a cap, v = .slice a n cap := by
  rcases h.2 with ⟨rfl, a, cap, rfl⟩ | ⟨b, off, cap, rfl, _⟩
  · exact ⟨a, cap, rfl⟩
  · exact ⟨_, _, rfl⟩

/-- An item: its kind, its number, its text. -/
structure It where
  k : Int
  n : Int
  s : ByteArray
def It.cells (x : It) : List Value := [.int .i64 x.k, .int .i64 x.n, .string x.s]
def itCells (l : List It) : List Value := l.flatMap It.cells
theorem itCells_len (l : List It) : (itCells l).length = l.length * 3 := by
  induction l with
  | nil => rfl
  | cons x l ih => simp only [itCells, List.flatMap_cons, List.length_append, List.length_cons] at ih ⊢; rw [ih]; simp [It.cells]; omega
theorem itCells_at (l : List It) (i : Nat) (h : i < l.length) : (itCells l)[3 * i]? = some (.int .i64 (l[i]'h).k) ∧ (itCells l)[3 * i + 1]? = some (.int .i64 (l[i]'h).n) ∧ (itCells l)[3 * i + 2]? = some (.string (l[i]'h).s) := by
  induction l generalizing i with
  | nil => simp at h
  | cons x l ih =>
    cases i with
    | zero => exact ⟨rfl, rfl, rfl⟩
    | succ i =>
      have h' : i < l.length := by simpa using h
      have := ih i h'
      have e : itCells (x :: l) = It.cells x ++ itCells l := by simp [itCells]
      have e0 : (It.cells x).length = 3 := rfl
      rw [e]
      refine ⟨?_, ?_, ?_⟩
      · rw [List.getElem?_append_right (by rw [e0]; omega), e0, show 3 * (i + 1) - 3 = 3 * i by omega]; exact this.1
      · rw [List.getElem?_append_right (by rw [e0]; omega), e0, show 3 * (i + 1) + 1 - 3 = 3 * i + 1 by omega]; exact this.2.1
      · rw [List.getElem?_append_right (by rw [e0]; omega), e0, show 3 * (i + 1) + 2 - 3 = 3 * i + 2 by omega]; exact this.2.2
theorem itCells_snoc (l : List It) (x : It) : itCells (l ++ [x]) = itCells l ++ It.cells x := by simp [itCells]
/-- A row of items, item i's cells, as the walk asks for them. -/
theorem items_at {w : World} {a : Option Addr} {cap : Nat} {l : List It} (h : IsRow w 3 (.slice a l.length cap) l.length (itCells l)) (i : Nat) (hi : i < l.length) :
    ∃ b off, a = some ⟨b, off, none⟩ ∧ b < w.heap.size ∧ w.cell? ⟨b, off + i * 3, none⟩ = some (.int .i64 (l[i]'hi).k) ∧ w.cell? ⟨b, off + i * 3 + 1, none⟩ = some (.int .i64 (l[i]'hi).n) ∧ w.cell? ⟨b, off + i * 3 + 2, none⟩ = some (.string (l[i]'hi).s) := by
  obtain ⟨b, off, cap', hv, hlt, _, _, hc⟩ := h.open (by omega)
  have := itCells_at l i hi
  simp only [Value.slice.injEq] at hv
  refine ⟨b, off, hv.1, hlt, ?_, ?_, ?_⟩
  · rw [show off + i * 3 = off + 3 * i by omega]; exact hc _ _ this.1
  · rw [show off + i * 3 + 1 = off + (3 * i + 1) by omega]; exact hc _ _ this.2.1
  · rw [show off + i * 3 + 2 = off + (3 * i + 2) by omega]; exact hc _ _ this.2.2
end Go.Proofs.YtciibeldmcakeaaDoor
/- ring.isNode, Nodes: walks. -/
namespace Go.Proofs.YtciibeldmcakeaaDoor
open Go.RowKit

def isN (x : Int) : Bool := decide (1 ≤ x) && decide (x ≤ 15)
theorem isN_of {x : Int} (h1 : 1 ≤ x) (h2 : x ≤ 15) : isN x = true := by simp [isN, h1, h2]
theorem isN_get {x : Int} (h : isN x = true) : 1 ≤ x ∧ x ≤ 15 := by simpa [isN] using h
theorem isNode_any (x : Int) (w : World) : Calls Tryd.prog 37 #[.int .i64 x] w fun e w' => e = .returned (.bool (isN x)) ∧ w' = w := by
  by_cases h1 : 1 ≤ x
  · have d1 : decide (1 ≤ x) = true := by simpa using h1
    by_cases h2 : x ≤ 15
    · have d2 : decide (x ≤ 15) = true := by simpa using h2
      rw [isN_of h1 h2]
      go_enter Tryd.func37, Tryd.ntmps37
      go_wp2
      go_ret
      exact ⟨rfl, rfl⟩
    · have d2 : decide (x ≤ 15) = false := by simpa using h2
      have e : isN x = false := by simp [isN, h2]
      rw [e]
      go_enter Tryd.func37, Tryd.ntmps37
      go_wp2
      go_ret
      exact ⟨rfl, rfl⟩
  · have d1 : decide (1 ≤ x) = false := by simpa using h1
    have e : isN x = false := by simp [isN, h1]
    rw [e]
    go_enter Tryd.func37, Tryd.ntmps37
    go_wp2
    go_ret
    exact ⟨rfl, rfl⟩
/-- The ints of a row. -/
def iCells (l : List Int) : List Value := l.map (Value.int .i64)
theorem iCells_at {w : World} {a : Option Addr} {cap n : Nat} {l : List Int} (h : IsRow w 1 (.slice a n cap) l.length (iCells l)) (h0 : 0 < l.length) :
    ∃ b off, a = some ⟨b, off, none⟩ ∧ n = l.length ∧ b < w.heap.size ∧ l.length ≤ cap ∧ ∀ (k : Nat) (hk : k < l.length), w.cell? ⟨b, off + k, none⟩ = some (.int .i64 l[k]) := by
  obtain ⟨b, off, cap', hv, hlt, q1, q2, hc⟩ := h.open (by omega)
  simp only [Value.slice.injEq] at hv
  exact ⟨b, off, hv.1, hv.2.1, hlt, by omega, fun k hk => hc k _ (by simp [iCells, hk])⟩
/-- May the number at a place be there? -/
def okAt (l : List Int) (k : Nat) (h : k < l.length) : Prop := 1 ≤ l[k] ∧ l[k] ≤ 15 ∧ ∀ (j : Nat) (e : j + 1 = k), l[j]'(by omega) < l[k]
set_option maxRecDepth 100000 in
set_option maxHeartbeats 1000000 in
theorem nodes_any (v : Value) (l : List Int) (w : World) (hr : IsRow w 1 v l.length (iCells l)) (hl : l.length ≤ 1000000) :
    Calls Tryd.prog 26 #[v] w fun e w' => e = .returned (.bool (nodesB l)) ∧ w' = w := by
  obtain ⟨a0, cap0, rfl⟩ := hr.form
  have HR : Hid (IsRow w 1 (.slice a0 l.length cap0) l.length (iCells l)) := hr
  clear hr
  go_enter Tryd.func26, Tryd.ntmps26
  go_wp2_with fail
  go_loopw [2, 7] (fun r i wr => r = .bool false ∧ ∃ k : Nat, k ≤ l.length ∧ i = .int .i64 (k : Int) ∧ Hid (∀ (j : Nat) (h : j < l.length), j < k → okAt l j h) ∧ w = wr) (fun _ i _ => l.length - (intOf i).toNat)
  case atStart => exact ⟨rfl, 0, Nat.zero_le _, rfl, fun j h hj => absurd hj (Nat.not_lt_zero _), rfl⟩
  case round =>
    obtain ⟨rfl, k, hk, rfl, HO, rfl⟩ := hrel
    by_cases hlk : k < l.length
    · have dk : decide ((k : Int) < l.length) = true := by simp; omega
      obtain ⟨b, off, rfl, -, hlt, hcap, hc⟩ := iCells_at HR.out (by omega)
      have ck := hc k hlk
      by_cases hok : okAt l k hlk
      · have HO2 : Hid (∀ (j : Nat) (h : j < l.length), j < k + 1 → okAt l j h) := fun j h hj => by
          by_cases e : j = k
          · subst e; exact hok
          · exact HO.out j h (by omega)
        have hi : isN l[k] = true := isN_of hok.1 hok.2.1
        have HI : Hid (∀ w, Calls Tryd.prog 37 #[.int .i64 l[k]] w fun e w' => e = .returned (.bool true) ∧ w' = w) := fun w => by have := isNode_any l[k] w; rw [hi] at this; exact this
        cases k with
        | zero =>
          simp only [Nat.add_zero] at ck
          generalize l[0]'hlk = x at *
          clear hok hi hc HO
          go_wp2_with fail
          refine (HI.out _).mono ?_
          rintro e w' ⟨rfl, hw⟩
          subst hw
          go_wp2
          go_roundw
          case rel => exact ⟨rfl, 0 + 1, by omega, by simp, HO2, trivial⟩
          case measure => simp [intOf]; omega
        | succ j =>
          have cj := hc j (by omega)
          have hlt2 := hok.2.2 j rfl
          generalize l[j + 1]'hlk = x at *
          generalize l[j]'(by omega) = y at *
          have d2 : decide (x ≤ y) = false := by simp; omega
          clear hok hi hc HO
          go_wp2_with fail
          refine (HI.out _).mono ?_
          rintro e w' ⟨rfl, hw⟩
          subst hw
          go_wp2
          go_roundw
          case rel => exact ⟨rfl, j + 1 + 1, by omega, by simp, HO2, trivial⟩
          case measure => simp [intOf]; omega
      · have hno : nodesB l = false := nodesB_false fun h => hok (h k hlk)
        have HN : Hid (nodesB l = false) := hno
        clear hno
        cases hi : isN l[k]
        · have HI : Hid (∀ w, Calls Tryd.prog 37 #[.int .i64 l[k]] w fun e w' => e = .returned (.bool false) ∧ w' = w) := fun w => by have := isNode_any l[k] w; rw [hi] at this; exact this
          generalize l[k]'hlk = x at *
          clear hok hi hc HO
          go_wp2_with fail
          refine (HI.out _).mono ?_
          rintro e w' ⟨rfl, hw⟩
          subst hw
          go_wp2
          go_ret
          exact ⟨by rw [HN.out]; rfl, rfl⟩
        · have HI : Hid (∀ w, Calls Tryd.prog 37 #[.int .i64 l[k]] w fun e w' => e = .returned (.bool true) ∧ w' = w) := fun w => by have := isNode_any l[k] w; rw [hi] at this; exact this
          obtain ⟨i1, i2⟩ := isN_get hi
          cases k with
          | zero => exact absurd ⟨i1, i2, fun j e => absurd e (by omega)⟩ hok
          | succ j =>
            have cj := hc j (by omega)
            have hle : ¬ l[j]'(by omega) < l[j + 1]'hlk := fun hh => hok ⟨i1, i2, fun j' e => by
              have : j' = j := by omega
              subst this
              exact hh⟩
            generalize l[j + 1]'hlk = x at *
            generalize l[j]'(by omega) = y at *
            have d2 : decide (x ≤ y) = true := by simp; omega
            clear hok hi hc HO
            go_wp2_with fail
            refine (HI.out _).mono ?_
            rintro e w' ⟨rfl, hw⟩
            subst hw
            go_wp2
            go_ret
            exact ⟨by rw [HN.out]; rfl, rfl⟩
    · have hk' : k = l.length := by omega
      subst hk'
      have dk : decide ((l.length : Int) < l.length) = false := by simp
      have hyes : nodesB l = true := nodesB_true fun k h => HO.out k h h
      clear HO
      go_wp2
      go_ret
      exact ⟨by rw [hyes]; rfl, rfl⟩
end Go.Proofs.YtciibeldmcakeaaDoor
/- Rows of members; view.counts, membersMayBe, Check: walks. -/
namespace Go.Proofs.YtciibeldmcakeaaDoor
open Go.RowKit

/-- An append of one element of some cells onto a row of the call's own. -/
theorem wpl_appV {P : Program} (wr : World) {ops : Array Oper} {rest : List Oper} {o : Oper} {a : Act} {Q : Exit → Act → World → Prop} (hgd : o.guard = none) (s x : Operand) (t e : TypeId)
    (ho : o.op = .call { callee := .builtin .append, args := #[s, x], argTypes := #[t, t] })
    (i : TypeInfo) (z : Value) (size bytes : Nat) (ht : P.underlying t = some (.slice e)) (hi : P.info? e = some i) (hz : i.zero = some z)
    (hsize : i.size = size) (hby : i.bytes = bytes) (hzs : z.cells.size = size) (hsz : 0 < size)
    (base : Nat) (v : Value) (n : Nat) (xs : List Value) (hs : a.eval s = v) (hown : wr.ownsRow base e size v n xs)
    (es : List Value) (hes : es.length = size) (C : Array Value) (hC : C = es.toArray) (N : Nat) (hN : N = wr.heap.size) (hx : a.eval x = .slice (some ⟨N, 0, none⟩) 1 1) (h1 : ∀ u ∈ es, u.oneCell' = true)
    (hbytes : (n + 1) * bytes ≤ 140737488355328) (h63 : n + 1 ≤ maxLen) (hbase : base ≤ wr.heap.size)
    (h : ∀ v' w', w'.ownsRow base e size v' (n + 1) (xs ++ es) → Below base wr w' → (∀ b, b < wr.heap.size → v.ownBlock ≠ some b → w'.heap[b]? = wr.heap[b]?) → wpList P ops Q rest (a.put o.dst v') w') :
    wpList P ops Q (o :: rest) a (wr.alloc (.cells C e)) := by
  subst hN
  subst hC
  refine wpList_append_own _ hgd s x t ho base e i z size bytes ht hi hz hsize hby hzs hsz v n xs hs (hown.alloc _) ⟨wr.heap.size, 0, none⟩ 1 1 es hx (by omega) ?_ h1 h63 hbytes ?_ ?_
  · intro j u hj
    have : (⟨wr.heap.size, 0, none⟩ : Addr).add j = ⟨wr.heap.size, j, none⟩ := by unfold Addr.add; split <;> simp_all
    rw [this]
    simp
    exact hj
  · simp; omega
  · intro v' w' h2 h3 _
    refine h v' w' h2 (((Below.refl _ _).alloc hbase _).grown h3 (by simp; omega) (fun k hk => (hown.lt k hk).1)) ?_
    intro b hb hne
    have := h3.block b (by simp; omega) hne.symm
    rw [this]
    exact Below.heap_alloc wr _ b hb
theorem own_belowV {w w1 : World} {base : Nat} {e : TypeId} {sz : Nat} {v : Value} {n : Nat} {xs : List Value} (h : w.ownsRow base e sz v n xs) (hb : Below w.heap.size w w1) : w1.ownsRow base e sz v n xs :=
  h.kept (row := none) ⟨hb.os, hb.tape, hb.output, hb.size, fun k hk _ => hb.block k hk⟩ (by cases hv : v.ownBlock <;> simp)
theorem al_belowV (w : World) (o : Obj) : Below w.heap.size w (w.alloc o) := (Below.refl _ _).alloc (Nat.le_refl _) _
theorem info_inV : (Tryd.prog.info? 3).map (fun i => (i.zero, i.size, i.bytes)) = some (some (.int .i64 0), 1, 8) := by kernel_rfl
theorem info_mb : (Tryd.prog.info? 51).map (fun i => (i.zero, i.size, i.bytes)) = some (some (.agg #[.int .i64 0, .int .i64 0, .bool false]), 3, 24) := by kernel_rfl
/-- A member's cells where it lies. -/
theorem mb_at {w : World} {v : Value} {l : List Mb} (h : IsRow w 3 v l.length (mCells l)) {i : Nat} (hi : i < l.length) :
    ∃ b off cap, v = .slice (some ⟨b, off, none⟩) l.length cap ∧ b < w.heap.size ∧ l.length ≤ cap ∧ cap ≤ maxLen ∧ (w.cell? ⟨b, off + i * 3, none⟩ = some (.int .i64 l[i].nd) ∧ w.cell? ⟨b, off + i * 3 + 1, none⟩ = some (.int .i64 l[i].lf) ∧ w.cell? ⟨b, off + i * 3 + 2, none⟩ = some (.bool l[i].up)) := by
  rcases h.2 with ⟨h0, -⟩ | ⟨b, off, cap, hv, hb, h1, h2, hc⟩
  · omega
  refine ⟨b, off, cap, hv, hb, h1, h2, ?_, ?_, ?_⟩
  · exact hc (i * 3 + 0) _ (mCells_get l i hi 0 (by omega))
  · exact hc (i * 3 + 1) _ (mCells_get l i hi 1 (by omega))
  · exact hc (i * 3 + 2) _ (mCells_get l i hi 2 (by omega))
/-- A view as a value. -/
abbrev vwV (ep : Int) (v : Value) : Value := .agg #[.int .i64 ep, v]

theorem counts_any (n : Int) (w : World) : Calls Tryd.prog 24 #[.int .i64 n] w fun e w' => e = .returned (.bool (cntB n)) ∧ w' = w := by
  by_cases h1 : 1 ≤ n
  · have d1 : decide (1 ≤ n) = true := by simpa using h1
    by_cases h2 : n ≤ 1099511627775
    · have d2 : decide (n ≤ 1099511627775) = true := by simpa using h2
      have e : cntB n = true := cntB_iff.2 ⟨h1, h2⟩
      rw [e]
      go_enter Tryd.func24, Tryd.ntmps24
      go_wp2
      go_ret
      exact ⟨rfl, rfl⟩
    · have d2 : decide (n ≤ 1099511627775) = false := by simpa using h2
      have e : cntB n = false := by simp [cntB, h2]
      rw [e]
      go_enter Tryd.func24, Tryd.ntmps24
      go_wp2
      go_ret
      exact ⟨rfl, rfl⟩
  · have d1 : decide (1 ≤ n) = false := by simpa using h1
    have e : cntB n = false := by simp [cntB, h1]
    rw [e]
    go_enter Tryd.func24, Tryd.ntmps24
    go_wp2
    go_ret
    exact ⟨rfl, rfl⟩
/-- May members be? -/
def MbP (l : List Mb) : Prop := (∀ m ∈ l, cntB m.lf = true) ∧ NodesP (nds l)
open Classical in
noncomputable def mbB (l : List Mb) : Bool := decide (MbP l)
open Classical in
theorem mbB_true {l : List Mb} (h : MbP l) : mbB l = true := by unfold mbB; exact decide_eq_true h
open Classical in
theorem mbB_false {l : List Mb} (h : ¬ MbP l) : mbB l = false := by unfold mbB; exact decide_eq_false h
set_option maxRecDepth 100000 in
set_option maxHeartbeats 1000000 in
theorem members_any (v : Value) (l : List Mb) (w : World) (hr : IsRow w 3 v l.length (mCells l)) (hl : l.length ≤ 1000) :
    Calls Tryd.prog 25 #[v] w fun e w' => e = .returned (.bool (mbB l)) ∧ Below w.heap.size w w' := by
  obtain ⟨a0, cap0, rfl⟩ := hr.form
  have HR : Hid (IsRow w 3 (.slice a0 l.length cap0) l.length (mCells l)) := hr
  clear hr
  obtain ⟨i0, hi0, hz0, hz1, hz2⟩ := info_parts info_inV
  obtain ⟨w1, hmk, hown, hgr⟩ := run_make_own (P := Tryd.prog) w w.heap.size 41 3 i0 _ 1 Tryd.underlying41 hi0 hz0 hz1 .i64 .i64 l.length (by rw [hz2]; omega) (by unfold maxLen; omega) (Nat.le_refl _)
  have hb1 : Below w.heap.size w w1 := (Below.refl w.heap.size w).grown hgr (Nat.le_refl _) (fun k hk => by cases hk)
  have hs1 := hb1.size
  clear hgr
  have HC : Hid (∀ n w, Calls Tryd.prog 24 #[.int .i64 n] w fun e w' => e = .returned (.bool (cntB n)) ∧ w' = w) := counts_any
  have HN : Hid (∀ v w, IsRow w 1 v (nds l).length (iCells (nds l)) → Calls Tryd.prog 26 #[v] w fun e w' => e = .returned (.bool (nodesB (nds l))) ∧ w' = w) := fun v w h => nodes_any v (nds l) w h (by simp; omega)
  go_enter Tryd.func25, Tryd.ntmps25
  go_wp2_with fail
  clear hmk
  go_loopw [2, 3, 11] (fun r o i wr => r = .bool false ∧ ∃ k : Nat, k ≤ l.length ∧ i = .int .i64 (k : Int) ∧ Hid (∀ m ∈ l.take k, cntB m.lf = true) ∧ wr.ownsRow w.heap.size 3 1 o k (iCells (nds (l.take k))) ∧ Below w.heap.size w wr) (fun _ _ i _ => l.length - (intOf i).toNat)
  case atStart => exact ⟨rfl, 0, Nat.zero_le _, rfl, fun m hm => by simp at hm, hown, hb1⟩
  case round =>
    obtain ⟨rfl, k, hk, rfl, HA, hown, hB⟩ := hrel
    have hsz := hB.size
    by_cases hlk : k < l.length
    · have dk : decide ((k : Int) < l.length) = true := by simp; omega
      obtain ⟨b, off, cap, hv, hlt, hc1, hc2, c0, c1, c2⟩ := mb_at (HR.out.below hB) hlk
      obtain ⟨rfl, -, rfl⟩ := Value.slice.inj hv
      have HT : Hid (iCells (nds (l.take (k + 1))) = iCells (nds (l.take k)) ++ [.int .i64 l[k].nd]) := by
        show _ = _
        rw [List.take_succ_eq_append_getElem hlk, show nds (l.take k ++ [l[k]]) = nds (l.take k) ++ [l[k].nd] from List.map_append]
        exact List.map_append
      have HA2 : Hid (cntB l[k].lf = true → ∀ m ∈ l.take (k + 1), cntB m.lf = true) := fun h m hm => by
        rw [List.take_succ_eq_append_getElem hlk] at hm
        rcases List.mem_append.1 hm with h2 | h2
        · exact HA.out m h2
        · simp at h2; subst h2; exact h
      have HF : Hid (cntB l[k].lf = false → mbB l = false) := fun h => mbB_false fun hp => by have := hp.1 l[k] (List.getElem_mem hlk); rw [h] at this; cases this
      generalize l[k]'hlk = m at *
      obtain ⟨mn, ml, mu⟩ := m
      dsimp only at *
      have HO : Hid ((wr.alloc (.cells #[.int .i64 mn, .int .i64 ml, .bool mu] 51)).ownsRow w.heap.size 3 1 u3 k (iCells (nds (l.take k)))) := own_belowV hown (al_belowV wr _)
      have HBa : Hid (Below w.heap.size w (wr.alloc (.cells #[.int .i64 mn, .int .i64 ml, .bool mu] 51))) := hB.trans ((al_belowV wr _).mono hsz)
      have hsa : w.heap.size ≤ (wr.alloc (.cells #[.int .i64 mn, .int .i64 ml, .bool mu] 51)).heap.size := HBa.out.size
      clear hown hB hv HA HN HR
      go_wp2_with fail
      refine (HC.out _ _).mono ?_
      rintro e w' ⟨rfl, hw⟩
      subst hw
      cases hcb : cntB ml
      · have HF2 : Hid (mbB l = false) := HF.out hcb
        clear HF hcb HA2
        go_wp2
        go_ret
        exact ⟨by rw [HF2.out]; rfl, HBa.out⟩
      · have HA3 : Hid (∀ m ∈ l.take (k + 1), cntB m.lf = true) := HA2.out hcb
        clear HF HA2 hcb
        go_wp2_with (at_builtin; go_loud (refine wpl_appV (wr.alloc (.cells #[.int .i64 mn, .int .i64 ml, .bool mu] 51)) rfl (.tmp 19) (.tmp 22) 41 3 rfl i0 _ 1 8 Tryd.underlying41 hi0 hz0 hz1 hz2 rfl (by decide) w.heap.size u3 k _ rfl HO.out [.int .i64 mn] rfl _ rfl (wr.heap.size + 1) (by simp) rfl (by simp [Value.oneCell']) (by omega) (by unfold maxLen; omega) hsa ?_; intro v4 w4 hown4 hb4 hne4))
        have HO4 : Hid (w4.ownsRow w.heap.size 3 1 v4 (k + 1) (iCells (nds (l.take (k + 1))))) := by show World.ownsRow _ _ _ _ _ _ _; rw [HT.out]; exact hown4
        have HB4 : Hid (Below w.heap.size w w4) := HBa.out.trans hb4
        clear hown4 hb4 HT HO hne4
        go_wp2
        go_roundw
        case rel => exact ⟨rfl, k + 1, by omega, by simp, HA3, HO4.out, HB4.out⟩
        case measure => simp [intOf]; omega
    · have hk' : k = l.length := by omega
      subst hk'
      have dk : decide ((l.length : Int) < l.length) = false := by simp
      rw [List.take_of_length_le (Nat.le_refl _)] at hown HA
      have hrow : IsRow wr 1 u3 (nds l).length (iCells (nds l)) := by have := IsRow.own hown; rw [show (nds l).length = l.length by simp]; exact this
      have HX : Hid (Calls Tryd.prog 26 #[u3] wr fun e w' => e = .returned (.bool (nodesB (nds l))) ∧ w' = wr) := HN.out _ _ hrow
      have HB : Hid (Below w.heap.size w wr) := hB
      have HE : Hid (nodesB (nds l) = mbB l) := by
        show _ = _
        by_cases hn : NodesP (nds l)
        · rw [nodesB_true hn, mbB_true ⟨HA.out, hn⟩]
        · rw [nodesB_false hn, mbB_false fun h => hn h.2]
      clear hown hB HN HR hrow HA
      go_wp2_with fail
      refine HX.out.mono ?_
      rintro e w' ⟨rfl, hw⟩
      subst hw
      go_wp2
      go_ret
      exact ⟨by rw [← HE.out]; rfl, HB.out⟩
theorem vB_split (ep : Int) (l : List Mb) : vB ep l = (cntB ep && (decide (1 ≤ (l.length : Int)) && (decide ((l.length : Int) ≤ 15) && mbB l))) := by
  by_cases h : VwP ep l
  · have h1 := h.len
    have h2 := h.pos
    rw [vB_true h, h.1, mbB_true h.2.2, decide_eq_true (by omega), decide_eq_true (by omega)]
    rfl
  · rw [vB_false h]
    symm
    rw [Bool.eq_false_iff]
    intro e
    simp only [Bool.and_eq_true, decide_eq_true_eq] at e
    refine h ⟨e.1, fun e2 => ?_, ?_⟩
    · rw [e2] at e; simp at e
    · apply Classical.byContradiction
      intro hn
      have := e.2.2.2
      rw [mbB_false hn] at this
      cases this
set_option maxRecDepth 100000 in
set_option maxHeartbeats 1000000 in
theorem check_any (ep : Int) (v : Value) (l : List Mb) (w : World) (hr : IsRow w 3 v l.length (mCells l)) (hl : l.length ≤ 140737488355328) :
    Calls Tryd.prog 12 #[vwV ep v] w fun e w' => e = .returned (.bool (vB ep l)) ∧ Below w.heap.size w w' := by
  obtain ⟨a0, cap0, rfl⟩ := hr.form
  have HC : Hid (∀ n w, Calls Tryd.prog 24 #[.int .i64 n] w fun e w' => e = .returned (.bool (cntB n)) ∧ w' = w) := counts_any
  have HB1 : Hid (Below w.heap.size w (w.alloc (.cells #[.int .i64 ep, .slice a0 l.length cap0] 24))) := al_belowV w _
  have HM : Hid (l.length ≤ 15 → Calls Tryd.prog 25 #[.slice a0 l.length cap0] (w.alloc (.cells #[.int .i64 ep, .slice a0 l.length cap0] 24)) fun e w' => e = .returned (.bool (mbB l)) ∧ Below w.heap.size w w') := fun h => (members_any _ l _ (hr.below (al_belowV w _)) (by omega)).mono fun e w' ⟨h1, h2⟩ => ⟨h1, HB1.out.trans (h2.mono (by simp))⟩
  have HS : Hid (vB ep l = (cntB ep && (decide (1 ≤ (l.length : Int)) && (decide ((l.length : Int) ≤ 15) && mbB l)))) := vB_split ep l
  clear hr
  cases h0 : cntB ep
  · have e : vB ep l = false := by rw [HS.out, h0]; rfl
    rw [e]
    clear e HS
    go_enter Tryd.func12, Tryd.ntmps12
    go_wp2_with fail
    refine (HC.out _ _).mono ?_
    rintro e w' ⟨rfl, hw⟩
    subst hw
    rw [h0]
    go_wp2
    go_ret
    exact ⟨rfl, HB1.out⟩
  by_cases h1 : (1 : Int) ≤ (l.length : Int)
  · have d1 : decide ((1 : Int) ≤ (l.length : Int)) = true := by simpa using h1
    have d1' : decide (1 ≤ l.length) = true := decide_eq_true (by omega)
    by_cases h2 : (l.length : Int) ≤ 15
    · have d2 : decide ((l.length : Int) ≤ 15) = true := by simpa using h2
      have d2' : decide (l.length ≤ 15) = true := decide_eq_true (by omega)
      have e : vB ep l = mbB l := by rw [HS.out, h0, d1, d2]; simp
      rw [e]
      have HM2 := HM.out (by omega)
      have HM2 : Hid (Calls Tryd.prog 25 #[.slice a0 l.length cap0] (w.alloc (.cells #[.int .i64 ep, .slice a0 l.length cap0] 24)) fun e w' => e = .returned (.bool (mbB l)) ∧ Below w.heap.size w w') := HM2
      clear e HS HM
      generalize mbB l = B at *
      go_enter Tryd.func12, Tryd.ntmps12
      go_wp2_with fail
      refine (HC.out _ _).mono ?_
      rintro e w' ⟨rfl, hw⟩
      subst hw
      rw [h0]
      go_wp2_with fail
      refine HM2.out.mono ?_
      rintro e w' ⟨rfl, hb⟩
      have HB2 : Hid (Below w.heap.size w w') := hb
      clear hb HM2
      go_wp2
      go_ret
      exact ⟨rfl, HB2.out⟩
    · have d2 : decide ((l.length : Int) ≤ 15) = false := by simpa using h2
      have d2' : decide (l.length ≤ 15) = false := decide_eq_false (by omega)
      have e : vB ep l = false := by rw [HS.out, h0, d1, d2]; rfl
      rw [e]
      clear e HS HM
      go_enter Tryd.func12, Tryd.ntmps12
      go_wp2_with fail
      refine (HC.out _ _).mono ?_
      rintro e w' ⟨rfl, hw⟩
      subst hw
      rw [h0]
      go_wp2
      go_ret
      exact ⟨rfl, HB1.out⟩
  · have d1 : decide ((1 : Int) ≤ (l.length : Int)) = false := by simpa using h1
    have d1' : decide (1 ≤ l.length) = false := decide_eq_false (by omega)
    have e : vB ep l = false := by rw [HS.out, h0, d1]; rfl
    rw [e]
    clear e HS HM
    go_enter Tryd.func12, Tryd.ntmps12
    go_wp2_with fail
    refine (HC.out _ _).mono ?_
    rintro e w' ⟨rfl, hw⟩
    subst hw
    rw [h0]
    go_wp2
    go_ret
    exact ⟨rfl, HB1.out⟩
end Go.Proofs.YtciibeldmcakeaaDoor
/- view.First, find: walks. -/
namespace Go.Proofs.YtciibeldmcakeaaDoor
open Go.RowKit

theorem setCell_atV (w : World) {g : Nat} (c : Nat) {cur : Array Value} {t : TypeId} (hb : w.heap[g]? = some (.cells cur t (0, 0))) (v : Value) :
    (w.setCell ⟨g, c, none⟩ v).heap[g]? = some (.cells (cur.setIfInBounds c v) t (0, 0)) ∧ (∀ k, k ≠ g → (w.setCell ⟨g, c, none⟩ v).heap[k]? = w.heap[k]?) := by
  rw [setCell_eq_setRow w g c cur t (0, 0) v hb]
  exact ⟨setRow_heap w g cur _ t _ hb, fun k hk => setRow_other w g k _ hk⟩
theorem results_csV {fn : Func} {p q : Tmp} {ty : TypeId} (h : fn.results = #[.cell p ty, .tmp q]) (tmps : Array Value) (P : Program) (w : World) :
    (results fn tmps).run P w = ((asAddr (tmps.getD p undef)).run P w).andThen fun a w₁ => ((loadVar ty a).run P w₁).andThen fun v w₂ => .ok (.tuple #[v, tmps.getD q undef]) w₂ := by
  simp only [results, h]
  simp [Sem.run_bind, Result.andThen]
theorem results_c3V {fn : Func} {p u v : Tmp} {ty : TypeId} (h : fn.results = #[.cell p ty, .tmp u, .tmp v]) (tmps : Array Value) (P : Program) (w : World) :
    (results fn tmps).run P w =
      ((asAddr (tmps.getD p undef)).run P w).andThen fun a w₁ => ((loadVar ty a).run P w₁).andThen fun x w₂ => .ok (.tuple #[x, tmps.getD u undef, tmps.getD v undef]) w₂ := by
  simp only [results, h]
  simp [Sem.run_bind, Result.andThen]
theorem heap_at {w : World} {b : Nat} {C : Array Value} {t : TypeId} (h : w.heap[b]? = some (.cells C t (0, 0))) : (∀ j, w.cell? ⟨b, j, none⟩ = C[j]?) ∧ (∀ j, w.frozen? ⟨b, j, none⟩ = false) ∧ b < w.heap.size :=
  ⟨fun j => by rw [Lib.cell_of_heap h], fun j => by simp [World.frozen?, h], (Array.getElem?_eq_some_iff.1 h).1⟩
theorem alloc_top (w : World) (o : Obj) : (w.alloc o).heap[w.heap.size]? = some o := by
  show (w.heap.push o)[w.heap.size]? = some o
  simp
theorem alloc_old (w : World) (o : Obj) {b : Nat} (h : b < w.heap.size) : (w.alloc o).heap[b]? = w.heap[b]? := Below.heap_alloc w o b h
/-- A slice that lies at block B or behind. -/
def NewB (B : Nat) (v : Value) : Prop := ∀ a n c, v = .slice (some a) n c → B ≤ a.block
theorem NewB.own {w : World} {base : Nat} {e : TypeId} {sz : Nat} {v : Value} {n : Nat} {xs : List Value} (h : w.ownsRow base e sz v n xs) : NewB base v := by
  intro a m c hv
  rcases h.2 with ⟨h1, -⟩ | ⟨g, cap, cur, h1, hb, -⟩
  · rw [h1] at hv; cases hv
  · rw [h1] at hv
    obtain ⟨ha, -, -⟩ := Value.slice.inj hv
    simp at ha
    rw [← ha]
    exact hb
theorem NewB.mono {A B : Nat} {v : Value} (h : NewB B v) (hab : A ≤ B) : NewB A v := fun a n c hv => Nat.le_trans hab (h a n c hv)
theorem IsRow.far {w : World} {sz : Nat} {v : Value} {n : Nat} {xs : List Value} (h : IsRow w sz v n xs) {B b o : Nat} (hn : NewB B v) (hb : b < B) (u : Value) : IsRow (w.setCell ⟨b, o, none⟩ u) sz v n xs := by
  refine ⟨h.1, ?_⟩
  rcases h.2 with h | ⟨g, off, cap, rfl, hlt, hc, hm, hcell⟩
  · exact .inl h
  · have := hn _ _ _ rfl
    have hne : g ≠ b := by show _ ≠ _; intro e; subst e; exact absurd this (by show ¬ B ≤ g; omega)
    refine .inr ⟨g, off, cap, rfl, by simpa using hlt, hc, hm, fun j u' hu => ?_⟩
    rw [World.cell?_setCell_other _ _ _ _ (fun e => hne (congrArg Addr.block e).symm)]
    exact hcell j u' hu
/-- A view that came out, and its error. -/
def VwPost (ep : Int) (l : List Mb) (er : Int) (w : World) (e : Ending) (w' : World) : Prop :=
  ∃ v, e = .returned (.tuple #[vwV ep v, .int .i64 er]) ∧ IsRow w' 3 v l.length (mCells l) ∧ NewB w.heap.size v ∧ Below w.heap.size w w'
theorem NewB.nil (B : Nat) : NewB B (.slice none 0 0) := fun a n c h => by cases h
theorem VwPost.none (er : Int) {w w' : World} (h : Below w.heap.size w w') : VwPost 0 [] er w (.returned (.tuple #[vwV 0 (.slice none 0 0), .int .i64 er])) w' := ⟨_, rfl, IsRow.nil _ _, NewB.nil _, h⟩
/-- May numbers be the first view's? -/
noncomputable def fsB (l : List Int) : Bool := !l.isEmpty && nodesB l
set_option maxRecDepth 100000 in
set_option maxHeartbeats 1000000 in
theorem first_any (v : Value) (l : List Int) (w : World) (hr : IsRow w 1 v l.length (iCells l)) (hl : l.length ≤ 1000000) :
    Calls Tryd.prog 13 #[v] w fun e w' => VwPost (if fsB l = true then 1 else 0) (if fsB l = true then fsM l else []) (if fsB l = true then 0 else 1) w e w' := by
  obtain ⟨a0, cap0, rfl⟩ := hr.form
  obtain ⟨i0, hi0, hz0, hz1, hz2⟩ := info_parts info_mb
  have HN : Hid (∀ w', Below w.heap.size w w' → Calls Tryd.prog 26 #[.slice a0 l.length cap0] w' fun e w'' => e = .returned (.bool (nodesB l)) ∧ w'' = w') := fun w' h => nodes_any _ l w' (hr.below h) hl
  have HB1 : Hid (Below w.heap.size w (w.alloc (.cells #[.int .i64 0, .slice none 0 0] 24))) := al_belowV w _
  cases hb : fsB l
  · have hcase : l = [] ∨ (l ≠ [] ∧ nodesB l = false) := by
      by_cases h0 : l = []
      · exact .inl h0
      · refine .inr ⟨h0, ?_⟩
        cases l with
        | nil => exact absurd rfl h0
        | cons x t => simpa [fsB] using hb
    simp only [Bool.false_eq_true, if_false]
    rcases hcase with rfl | ⟨hne, hnb⟩
    · clear hr HN hb
      go_enter Tryd.func13, Tryd.ntmps13
      go_wp2
      refine bodyPost_ret (v := .tuple #[vwV 0 (.slice none 0 0), .int .i64 1]) ?_ rfl (VwPost.none 1 HB1.out)
      rw [results_csV rfl]; go_simp
    · have hlp : 0 < l.length := List.length_pos_iff.2 hne
      have n1 : ((l.length : Int) == 0) = false := by rw [beq_eq_false_iff_ne]; omega
      have HX : Hid (Calls Tryd.prog 26 #[.slice a0 l.length cap0] (w.alloc (.cells #[.int .i64 0, .slice none 0 0] 24)) fun e w'' => e = .returned (.bool false) ∧ w'' = w.alloc (.cells #[.int .i64 0, .slice none 0 0] 24)) := by
        have := HN.out _ HB1.out
        rw [hnb] at this
        exact this
      clear hr HN hb hne hnb
      go_enter Tryd.func13, Tryd.ntmps13
      go_wp2_with fail
      refine HX.out.mono ?_
      rintro e w' ⟨rfl, hw⟩
      subst hw
      go_wp2
      refine bodyPost_ret (v := .tuple #[vwV 0 (.slice none 0 0), .int .i64 1]) ?_ rfl (VwPost.none 1 HB1.out)
      rw [results_csV rfl]; go_simp
  · have hcase : l ≠ [] ∧ nodesB l = true := by
      cases l with
      | nil => simp [fsB] at hb
      | cons x t => exact ⟨by simp, by simpa [fsB] using hb⟩
    obtain ⟨hne, hnb⟩ := hcase
    simp only [if_true]
    have hlp : 0 < l.length := List.length_pos_iff.2 hne
    have n1 : ((l.length : Int) == 0) = false := by rw [beq_eq_false_iff_ne]; omega
    have HX : Hid (Calls Tryd.prog 26 #[.slice a0 l.length cap0] (w.alloc (.cells #[.int .i64 0, .slice none 0 0] 24)) fun e w'' => e = .returned (.bool true) ∧ w'' = w.alloc (.cells #[.int .i64 0, .slice none 0 0] 24)) := by
      have := HN.out _ HB1.out
      rw [hnb] at this
      exact this
    have HR : Hid (IsRow w 1 (.slice a0 l.length cap0) l.length (iCells l)) := hr
    clear hr HN hb hne hnb
    go_enter Tryd.func13, Tryd.ntmps13
    go_wp2_with fail
    refine HX.out.mono ?_
    rintro e w' ⟨rfl, hw⟩
    subst hw
    clear HX
    go_wp2_with fail
    go_loopw [6, 19] (fun nn i wr => nn = nn ∧ ∃ (k : Nat) (va : Option Addr) (vc : Nat), k ≤ l.length ∧ i = .int .i64 (k : Int) ∧ Hid (wr.ownsRow (w.heap.size + 2) 51 3 (.slice va k vc) k (mCells (fsM (l.take k)))) ∧ Hid (wr.heap[w.heap.size]? = some (.cells #[.int .i64 0, .slice none 0 0] 24 (0, 0))) ∧ Hid (wr.heap[w.heap.size + 1]? = some (.cells #[.int .i64 1, .slice va k vc] 24 (0, 0))) ∧ Hid (Below w.heap.size w wr)) (fun _ i _ => l.length - (intOf i).toNat)
    case atStart =>
      refine ⟨rfl, 0, none, 0, Nat.zero_le _, rfl, World.ownsRow_nil _ _ _ _, ?_, ?_, ?_⟩
      · show _ = _
        rw [alloc_old _ _ (by simp), alloc_top]
      · show _ = _
        have := alloc_top (w.alloc (.cells #[.int .i64 0, .slice none 0 0] 24)) (.cells #[.int .i64 1, .slice none 0 0] 24)
        simpa using this
      · exact HB1.out.alloc HB1.out.size _
    case round =>
      obtain ⟨-, k, va, vc, hk, rfl, HO, HH0, HH1, HB⟩ := hrel
      have hsz := HB.out.size
      obtain ⟨z0, z1, z2⟩ := heap_at HH0.out
      obtain ⟨y0, y1, y2⟩ := heap_at HH1.out
      have a0' := z0 0; have a1' := z0 1; have b0' := y0 0; have b1' := y0 1; have f0' := y1 0; have f1' := y1 1; have g0' := z1 0; have g1' := z1 1
      simp only [List.getElem?_toArray, List.getElem?_cons_zero, List.getElem?_cons_succ] at a0' a1' b0' b1'
      clear z0 z1 z2 y0 y1
      by_cases hlk : k < l.length
      · have dk : decide ((k : Int) < l.length) = true := by simp; omega
        obtain ⟨b, off, hva, -, hlt, hcap, hc⟩ := iCells_at (HR.out.below HB.out) (by omega)
        subst hva
        have ck := hc k hlk
        have HT : Hid (mCells (fsM (l.take (k + 1))) = mCells (fsM (l.take k)) ++ [.int .i64 l[k], .int .i64 1, .bool true]) := by
          show _ = _
          rw [List.take_succ_eq_append_getElem hlk, show fsM (l.take k ++ [l[k]]) = fsM (l.take k) ++ [⟨l[k], 1, true⟩] from List.map_append, mCells_snoc]
          rfl
        generalize l[k]'hlk = x at *
        clear hc HR
        go_wp2_with (at_builtin; go_loud (refine wpl_appV wr rfl (.tmp 24) (.tmp 27) 22 51 rfl i0 _ 3 24 Tryd.underlying22 hi0 hz0 hz1 hz2 rfl (by decide) (w.heap.size + 2) (.slice va k vc) k (mCells (fsM (l.take k))) rfl HO.out [.int .i64 x, .int .i64 1, .bool true] rfl _ rfl wr.heap.size rfl rfl (by simp [Value.oneCell']) (by omega) (by unfold maxLen; omega) (by omega) ?_; intro v4 w4 hown4 hb4 hne4; obtain ⟨va4, vc4, rfl⟩ := (IsRow.own hown4).form; have q1 := (hb4.block _ (by omega)).trans HH1.out; have p00 := (heap_at q1).1 1; have p11 := (heap_at q1).2.1 1; simp only [List.getElem?_toArray, List.getElem?_cons_zero, List.getElem?_cons_succ] at p00))
        have q0 : w4.heap[w.heap.size]? = _ := (hb4.block _ (by omega)).trans HH0.out
        have s1 := setCell_atV w4 1 q1 (.slice va4 (k + 1) vc4)
        have HO4 : Hid ((w4.setCell ⟨w.heap.size + 1, 1, none⟩ (.slice va4 (k + 1) vc4)).ownsRow (w.heap.size + 2) 51 3 (.slice va4 (k + 1) vc4) (k + 1) (mCells (fsM (l.take (k + 1))))) := by
          show World.ownsRow _ _ _ _ _ _ _
          rw [HT.out]
          refine hown4.kept (row := some (w.heap.size + 1)) ⟨rfl, rfl, rfl, by simp, fun j _ hj => s1.2 j (fun e => hj (by rw [e]))⟩ (.inr ?_)
          intro e
          have := (hown4.lt _ e).1
          omega
        have HH0' : Hid ((w4.setCell ⟨w.heap.size + 1, 1, none⟩ (.slice va4 (k + 1) vc4)).heap[w.heap.size]? = some (.cells #[.int .i64 0, .slice none 0 0] 24 (0, 0))) := (s1.2 _ (by omega)).trans q0
        have HH1' : Hid ((w4.setCell ⟨w.heap.size + 1, 1, none⟩ (.slice va4 (k + 1) vc4)).heap[w.heap.size + 1]? = some (.cells #[.int .i64 1, .slice va4 (k + 1) vc4] 24 (0, 0))) := s1.1
        have HB4 : Hid (Below w.heap.size w (w4.setCell ⟨w.heap.size + 1, 1, none⟩ (.slice va4 (k + 1) vc4))) := (HB.out.trans (hb4.mono (by omega))).setCell (p := ⟨w.heap.size + 1, 1, none⟩) (by simp) _
        clear hown4 hb4 HT HO hne4 q0 q1 s1 HH0 HH1
        go_wp2
        go_roundw
        case rel => exact ⟨trivial, k + 1, va4, vc4, by omega, by simp, HO4, HH0', HH1', HB4⟩
        case measure => simp [intOf]; omega
      · have hk' : k = l.length := by omega
        subst hk'
        have dk : decide ((l.length : Int) < l.length) = false := by simp
        have hown := HO.out
        rw [List.take_of_length_le (Nat.le_refl _)] at hown
        have HF : Hid (∀ x y, IsRow ((wr.setCell ⟨w.heap.size, 0, none⟩ x).setCell ⟨w.heap.size, 1, none⟩ y) 3 (.slice va l.length vc) (fsM l).length (mCells (fsM l)) ∧ Below w.heap.size w ((wr.setCell ⟨w.heap.size, 0, none⟩ x).setCell ⟨w.heap.size, 1, none⟩ y)) := fun x y => by
          have hlen : (fsM l).length = l.length := by simp [fsM]
          have s1 := setCell_atV wr 0 HH0.out x
          have s2 := setCell_atV _ 1 s1.1 y
          refine ⟨?_, (HB.out.setCell (p := ⟨w.heap.size, 0, none⟩) (by simp) _).setCell (p := ⟨w.heap.size, 1, none⟩) (by simp) _⟩
          rw [hlen]
          refine IsRow.own (base := w.heap.size + 2) (hown.kept (row := some w.heap.size) ⟨rfl, rfl, rfl, by simp, fun j _ hj => (s2.2 j (fun e => hj (by rw [e]))).trans (s1.2 j (fun e => hj (by rw [e])))⟩ (.inr ?_))
          intro e
          have := (hown.lt _ e).1
          omega
        have HNw : Hid (NewB w.heap.size (.slice va l.length vc)) := (NewB.own hown).mono (by omega)
        clear hown HO HR
        go_wp2
        refine bodyPost_ret (v := .tuple #[vwV 1 (.slice va l.length vc), .int .i64 0]) ?_ rfl ⟨_, rfl, (HF.out _ _).1, HNw.out, (HF.out _ _).2⟩
        rw [results_csV rfl]; go_simp
end Go.Proofs.YtciibeldmcakeaaDoor
/- view.find, next: walks. -/
namespace Go.Proofs.YtciibeldmcakeaaDoor
open Go.RowKit

/-- Where a node's member stands. -/
def IxM (node : Int) (l : List Mb) (X : Int) : Prop := (X = -1 ∧ ∀ m ∈ l, m.nd ≠ node) ∨ ∃ (k : Nat) (h : k < l.length), X = (k : Int) ∧ l[k].nd = node
theorem find_fn (m : Mb) (node : Int) (B : Nat) (w : World) (hB : B < w.heap.size) (hk : w.cell? ⟨B, 0, none⟩ = some (.int .i64 node)) :
    Calls Tryd.prog 39 #[.agg #[.int .i64 m.nd, .int .i64 m.lf, .bool m.up], .pointer (some ⟨B, 0, none⟩)] w fun e w' => e = .returned (.bool (m.nd == node)) ∧ Below w.heap.size w w' := by
  obtain ⟨mn, ml, mu⟩ := m
  have HB : Hid (Below w.heap.size w (w.alloc (.cells #[.int .i64 mn, .int .i64 ml, .bool mu] 51))) := al_belowV w _
  dsimp only
  go_enter Tryd.func39, Tryd.ntmps39
  go_wp2
  go_ret
  exact ⟨rfl, HB.out⟩
set_option maxRecDepth 100000 in
set_option maxHeartbeats 1000000 in
theorem indexM_any (node : Int) (B : Nat) (v : Value) (l : List Mb) (w : World) (hr : IsRow w 3 v l.length (mCells l)) (hl : l.length ≤ 1000) (hB : B < w.heap.size) (hk : w.cell? ⟨B, 0, none⟩ = some (.int .i64 node)) :
    Calls Tryd.prog 38 #[v, .func (.func 39) #[] #[.pointer (some ⟨B, 0, none⟩)]] w fun e w' => ∃ X, e = .returned (.int .i64 X) ∧ IxM node l X ∧ Below w.heap.size w w' := by
  obtain ⟨a0, cap0, rfl⟩ := hr.form
  have HR : Hid (IsRow w 3 (.slice a0 l.length cap0) l.length (mCells l)) := hr
  have HK : Hid (∀ w', Below w.heap.size w w' → B < w'.heap.size ∧ w'.cell? ⟨B, 0, none⟩ = some (.int .i64 node)) := fun w' h => ⟨Nat.lt_of_lt_of_le hB h.size, (h.cell (p := ⟨B, 0, none⟩) hB).trans hk⟩
  clear hr hk
  go_enter Tryd.func38, Tryd.ntmps38
  go_wp2_with fail
  go_loopw [4, 5, 8] (fun r q i wr => r = .int .i64 0 ∧ q = q ∧ ∃ k : Nat, k ≤ l.length ∧ i = .int .i64 (k : Int) ∧ Hid (∀ m ∈ l.take k, m.nd ≠ node) ∧ Hid (Below w.heap.size w wr)) (fun _ _ i _ => l.length - (intOf i).toNat)
  case atStart => exact ⟨rfl, rfl, 0, Nat.zero_le _, rfl, fun m hm => by simp at hm, Below.refl _ _⟩
  case round =>
    obtain ⟨rfl, -, k, hk, rfl, HA, HB⟩ := hrel
    by_cases hlk : k < l.length
    · have dk : decide ((k : Int) < l.length) = true := by simp; omega
      obtain ⟨b, off, cap, hv, hlt, hc1, hc2, c0, c1, c2⟩ := mb_at (HR.out.below HB.out) hlk
      obtain ⟨rfl, -, rfl⟩ := Value.slice.inj hv
      have HF : Hid (Calls Tryd.prog 39 #[.agg #[.int .i64 l[k].nd, .int .i64 l[k].lf, .bool l[k].up], .pointer (some ⟨B, 0, none⟩)] wr fun e w' => e = .returned (.bool (l[k].nd == node)) ∧ Below wr.heap.size wr w') := find_fn l[k] node B wr (HK.out _ HB.out).1 (HK.out _ HB.out).2
      have HA2 : Hid (¬ l[k].nd = node → ∀ m ∈ l.take (k + 1), m.nd ≠ node) := fun h m hm => by
        rw [List.take_succ_eq_append_getElem hlk] at hm
        rcases List.mem_append.1 hm with h2 | h2
        · exact HA.out m h2
        · simp at h2; subst h2; exact h
      have HI : Hid (l[k].nd = node → IxM node l (k : Int)) := fun h => .inr ⟨k, hlk, rfl, h⟩
      have hsz := HB.out.size
      generalize l[k]'hlk = m at *
      obtain ⟨mn, ml, mu⟩ := m
      dsimp only at *
      clear hv HA HR HK
      go_wp2_with fail
      refine HF.out.mono ?_
      rintro e w4 ⟨rfl, hb4⟩
      have HB4 : Hid (Below w.heap.size w w4) := HB.out.trans (hb4.mono hsz)
      clear HF hb4
      by_cases hn : mn = node
      · have nb : (mn == node) = true := by simpa using hn
        have HI2 : Hid (IxM node l (k : Int)) := HI.out hn
        clear HI HA2 hn
        go_wp2
        go_ret
        exact ⟨_, rfl, HI2.out, HB4.out⟩
      · have nb : (mn == node) = false := by simpa using hn
        have HA3 : Hid (∀ m ∈ l.take (k + 1), m.nd ≠ node) := HA2.out hn
        clear HI HA2 hn
        go_wp2
        go_roundw
        case rel => exact ⟨rfl, trivial, k + 1, by omega, by simp, HA3, HB4⟩
        case measure => simp [intOf]; omega
    · have hk' : k = l.length := by omega
      subst hk'
      have dk : decide ((l.length : Int) < l.length) = false := by simp
      have HI : Hid (IxM node l (-1)) := .inl ⟨rfl, by have := HA.out; rwa [List.take_of_length_le (Nat.le_refl _)] at this⟩
      clear HA HR HK
      go_wp2
      go_ret
      exact ⟨_, rfl, HI.out, HB.out⟩
/-- What find answers. -/
def FdPost (ep : Int) (l : List Mb) (node : Int) (w : World) (e : Ending) (w' : World) : Prop :=
  ∃ (m : Mb) (at' er : Int), e = .returned (.tuple #[.agg #[.int .i64 m.nd, .int .i64 m.lf, .bool m.up], .int .i64 at', .int .i64 er]) ∧ Below w.heap.size w w' ∧
    ((er = 1 ∧ ¬ VwP ep l ∧ m = ⟨0, 0, false⟩) ∨ (er = 4 ∧ VwP ep l ∧ (∀ x ∈ l, x.nd ≠ node) ∧ m = ⟨0, 0, false⟩) ∨ (er = 0 ∧ VwP ep l ∧ ∃ (k : Nat) (h : k < l.length), at' = (k : Int) ∧ m = l[k] ∧ l[k].nd = node))
abbrev fdW (w : World) (ep : Int) (v : Value) (node : Int) : World := ((w.alloc (.cells #[.int .i64 ep, v] 24)).alloc (.cells #[.int .i64 node] 3)).alloc (.cells #[.int .i64 0, .int .i64 0, .bool false] 51)
theorem fdW_facts (w : World) (ep : Int) (v : Value) (node : Int) : Below w.heap.size w (fdW w ep v node) ∧ w.heap.size + 2 < (fdW w ep v node).heap.size ∧ ∀ w', Below (fdW w ep v node).heap.size (fdW w ep v node) w' → Below w.heap.size w w' ∧ w'.heap[w.heap.size]? = some (.cells #[.int .i64 ep, v] 24 (0, 0)) ∧ w'.heap[w.heap.size + 1]? = some (.cells #[.int .i64 node] 3 (0, 0)) ∧ w'.heap[w.heap.size + 2]? = some (.cells #[.int .i64 0, .int .i64 0, .bool false] 51 (0, 0)) := by
  have b1 : Below w.heap.size w ((w.alloc (.cells #[.int .i64 ep, v] 24)).alloc (.cells #[.int .i64 node] 3)) := (al_belowV w _).trans ((al_belowV _ _).mono (al_belowV w _).size)
  have b0 : Below w.heap.size w (fdW w ep v node) := b1.trans ((al_belowV _ _).mono b1.size)
  have hn : w.heap.size + 2 < (fdW w ep v node).heap.size := by simp [fdW]
  refine ⟨b0, hn, fun w' h => ⟨b0.trans (h.mono b0.size), ?_, ?_, ?_⟩⟩
  · rw [h.block _ (by omega)]
    show (((w.heap.push _).push _).push _)[w.heap.size]? = _
    rw [Array.getElem?_push, if_neg (by first | (simp; done) | (simp; omega)), Array.getElem?_push, if_neg (by first | (simp; done) | (simp; omega)), Array.getElem?_push, if_pos rfl]
  · rw [h.block _ (by omega)]
    show (((w.heap.push _).push _).push _)[w.heap.size + 1]? = _
    rw [Array.getElem?_push, if_neg (by first | (simp; done) | (simp; omega)), Array.getElem?_push, if_pos (by simp)]
  · rw [h.block _ hn]
    show (((w.heap.push _).push _).push _)[w.heap.size + 2]? = _
    rw [Array.getElem?_push, if_pos (by simp)]
theorem set3_V {w0 w : World} {b : Nat} (h : Below w0.heap.size w0 w) (hb : w0.heap.size ≤ b) (x y z : Value) : Below w0.heap.size w0 (((w.setCell ⟨b, 0, none⟩ x).setCell ⟨b, 1, none⟩ y).setCell ⟨b, 2, none⟩ z) :=
  ((h.setCell (p := ⟨b, 0, none⟩) hb _).setCell (p := ⟨b, 1, none⟩) hb _).setCell (p := ⟨b, 2, none⟩) hb _
set_option maxRecDepth 100000 in
set_option maxHeartbeats 2000000 in
theorem find_any (ep : Int) (v : Value) (l : List Mb) (node : Int) (w : World) (hr : IsRow w 3 v l.length (mCells l)) (hl : l.length ≤ 140737488355328) :
    Calls Tryd.prog 27 #[vwV ep v, .int .i64 node] w fun e w' => FdPost ep l node w e w' := by
  obtain ⟨a0, cap0, rfl⟩ := hr.form
  obtain ⟨f1, f2, f3⟩ := fdW_facts w ep (.slice a0 l.length cap0) node
  have HCk : Hid (Calls Tryd.prog 12 #[.agg #[.int .i64 ep, .slice a0 l.length cap0]] (fdW w ep (.slice a0 l.length cap0) node) fun e w' => e = .returned (.bool (vB ep l)) ∧ Below (fdW w ep (.slice a0 l.length cap0) node).heap.size (fdW w ep (.slice a0 l.length cap0) node) w') := check_any ep _ l _ (hr.below f1) hl
  have HF3 : Hid _ := f3
  have HR : Hid (∀ w', Below w.heap.size w w' → IsRow w' 3 (.slice a0 l.length cap0) l.length (mCells l)) := fun w' h => hr.below h
  clear hr f1 f3
  go_enter Tryd.func27, Tryd.ntmps27
  go_wp2_with fail
  refine HCk.out.mono ?_
  rintro e w1 ⟨rfl, hb1⟩
  obtain ⟨B1, h0, h1, h2⟩ := HF3.out _ hb1
  have HB1 : Hid (Below w.heap.size w w1) := B1
  obtain ⟨p0, p1, p2⟩ := heap_at h2
  have z0 := p0 0; have z1 := p0 1; have z2 := p0 2; have y0 := p1 0; have y1 := p1 1; have y2 := p1 2
  obtain ⟨r0, -, -⟩ := heap_at h0
  have v0 := r0 0; have v1 := r0 1
  simp only [List.getElem?_toArray, List.getElem?_cons_zero, List.getElem?_cons_succ] at z0 z1 z2 v0 v1
  by_cases hv : VwP ep l
  · have hvb : vB ep l = true := vB_true hv
    rw [hvb]
    have HX : Hid (Calls Tryd.prog 38 #[.slice a0 l.length cap0, .func (.func 39) #[] #[.pointer (some ⟨w.heap.size + 1, 0, none⟩)]] w1 fun e w' => ∃ X, e = .returned (.int .i64 X) ∧ IxM node l X ∧ Below w1.heap.size w1 w') := indexM_any node (w.heap.size + 1) _ l w1 (HR.out _ B1) (by have := hv.len; omega) (heap_at h1).2.2 ((heap_at h1).1 0)
    have HV : Hid (VwP ep l) := hv
    have hs1 := B1.size
    have hw1 := p2
    clear hvb hv HCk HF3 B1 h0 h1 hb1 p0 p1 r0 h2
    go_wp2_with fail
    refine HX.out.mono ?_
    rintro e w2 ⟨X, rfl, hX, hb2⟩
    have HB2 : Hid (Below w.heap.size w w2) := HB1.out.trans (hb2.mono hs1)
    have z0' := (hb2.cell (p := ⟨w.heap.size + 2, 0, none⟩) hw1).trans z0
    have z1' := (hb2.cell (p := ⟨w.heap.size + 2, 1, none⟩) hw1).trans z1
    have z2' := (hb2.cell (p := ⟨w.heap.size + 2, 2, none⟩) hw1).trans z2
    have y0' := (hb2.frozen (p := ⟨w.heap.size + 2, 0, none⟩) hw1).trans y0
    have y1' := (hb2.frozen (p := ⟨w.heap.size + 2, 1, none⟩) hw1).trans y1
    have y2' := (hb2.frozen (p := ⟨w.heap.size + 2, 2, none⟩) hw1).trans y2
    have v1' := (hb2.cell (p := ⟨w.heap.size, 1, none⟩) (show w.heap.size < _ by omega)).trans v1
    have hw2 := hb2.size
    have HR2 : Hid (IsRow w2 3 (.slice a0 l.length cap0) l.length (mCells l)) := HR.out _ HB2.out
    clear HX hb2 z0 z1 z2 y0 y1 y2 v0 v1 HR HB1
    rcases hX with ⟨rfl, hno⟩ | ⟨k, hk, rfl, hkn⟩
    · have HNo : Hid (∀ x ∈ l, x.nd ≠ node) := hno
      clear hno HR2
      go_wp2
      refine bodyPost_ret (v := .tuple #[.agg #[.int .i64 0, .int .i64 0, .bool false], .int .i64 0, .int .i64 4]) ?_ rfl ⟨⟨0, 0, false⟩, 0, 4, rfl, set3_V HB2.out (by omega) _ _ _, .inr (.inl ⟨rfl, HV.out, HNo.out, rfl⟩)⟩
      rw [results_c3V rfl]; go_simp
    · obtain ⟨b, off, cap, hvv, hlt, hc1, hc2, c0, c1, c2⟩ := mb_at HR2.out hk
      obtain ⟨rfl, -, rfl⟩ := Value.slice.inj hvv
      have HK : Hid (∃ (j : Nat) (h : j < l.length), (k : Int) = (j : Int) ∧ l[k] = l[j] ∧ l[j].nd = node) := ⟨k, hk, rfl, rfl, hkn⟩
      have i1 : (0 : Int) ≤ (k : Int) := by omega
      have i2 : (k : Int) < (l.length : Int) := by omega
      have i3 : ¬ (k : Int) < 0 := by omega
      generalize hm : l[k]'hk = m at *
      obtain ⟨mn, ml, mu⟩ := m
      dsimp only at *
      clear hvv HR2 hkn hm
      go_wp2
      refine bodyPost_ret (v := .tuple #[.agg #[.int .i64 mn, .int .i64 ml, .bool mu], .int .i64 (k : Int), .int .i64 0]) ?_ rfl ⟨⟨mn, ml, mu⟩, k, 0, rfl, set3_V HB2.out (by omega) _ _ _, .inr (.inr ⟨rfl, HV.out, HK.out⟩)⟩
      rw [results_c3V rfl]; go_simp
  · have hvb : vB ep l = false := vB_false hv
    rw [hvb]
    have HV : Hid (¬ VwP ep l) := hv
    clear hvb hv HCk HF3 B1 h0 h1 hb1 p0 p1 r0 HR h2
    go_wp2
    refine bodyPost_ret (v := .tuple #[.agg #[.int .i64 0, .int .i64 0, .bool false], .int .i64 0, .int .i64 1]) ?_ rfl ⟨⟨0, 0, false⟩, 0, 1, rfl, set3_V HB1.out (by omega) _ _ _, .inl ⟨rfl, HV.out, rfl⟩⟩
    rw [results_c3V rfl]; go_simp
end Go.Proofs.YtciibeldmcakeaaDoor
/- slices.Clone of members, view.next: walks. -/
namespace Go.Proofs.YtciibeldmcakeaaDoor
open Go.RowKit

theorem wrapI {z : Int} (h1 : -9223372036854775808 ≤ z) (h2 : z ≤ 9223372036854775807) : IntKind.i64.wrap z = z := by
  simp only [IntKind.wrap, IntKind.signed, IntKind.bits]
  simp
  omega
theorem own_openV {w : World} {base : Nat} {e : TypeId} {sz : Nat} {v : Value} {n : Nat} {xs : List Value} (h : w.ownsRow base e sz v n xs) (hn : 0 < n) :
    ∃ g cap cur, v = .slice (some ⟨g, 0, none⟩) n cap ∧ base ≤ g ∧ w.heap[g]? = some (.cells cur e (0, 0)) ∧ n ≤ cap ∧ cap ≤ maxLen ∧ cur.size = cap * sz ∧ cur.toList.take (n * sz) = xs := by
  rcases h.2 with ⟨_, h0⟩ | h
  · omega
  · exact h
theorem enM_one : ∀ (l : List Mb), ∀ u ∈ mCells l, u.oneCell' = true := by
  intro l u hu
  obtain ⟨m, -, hm⟩ := List.mem_flatMap.1 hu
  simp [enM] at hm
  rcases hm with rfl | rfl | rfl <;> rfl
def ClPost (l : List Mb) (w : World) (e : Ending) (w' : World) : Prop := ∃ g cap, e = .returned (.slice (some ⟨g, 0, none⟩) l.length cap) ∧ w'.ownsRow w.heap.size 51 3 (.slice (some ⟨g, 0, none⟩) l.length cap) l.length (mCells l) ∧ Below w.heap.size w w'
set_option maxRecDepth 100000 in
set_option maxHeartbeats 1000000 in
theorem cloneM_any (v : Value) (l : List Mb) (w : World) (hr : IsRow w 3 v l.length (mCells l)) (h0 : 0 < l.length) (hl : l.length ≤ 1000) :
    Calls Tryd.prog 40 #[v] w fun e w' => ClPost l w e w' := by
  obtain ⟨b, off, cap, rfl, hlt, hc1, hc2, hc⟩ := hr.open h0
  obtain ⟨i0, hi0, hz0, hz1, hz2⟩ := info_parts info_mb
  have HW : Hid ((w.alloc (.cells #[] 51)).ownsRow w.heap.size 51 3 (.slice (some ⟨w.heap.size, 0, none⟩) 0 0) 0 []) := ⟨rfl, .inr ⟨w.heap.size, 0, #[], rfl, Nat.le_refl _, alloc_top w _, Nat.le_refl _, Nat.zero_le _, rfl, rfl⟩⟩
  have HC : Hid (∀ j u, (mCells l)[j]? = some u → (w.alloc (.cells #[] 51)).cell? ((⟨b, off, none⟩ : Addr).add j) = some u) := fun j u hu => by
    have : (⟨b, off, none⟩ : Addr).add j = ⟨b, off + j, none⟩ := by unfold Addr.add; split <;> simp_all
    rw [this]
    exact ((al_belowV w _).cell (p := ⟨b, off + j, none⟩) hlt).trans (hc j u hu)
  have HB : Hid (Below w.heap.size w (w.alloc (.cells #[] 51))) := al_belowV w _
  have heq : ∀ w, (binOp BinOp.eql 22 (.slice (some ⟨b, off, none⟩) l.length cap) (.slice none 0 0)).run Tryd.prog w = .ok (.bool false) w := fun w => by kernel_rfl
  clear hr hc
  go_enter Tryd.func40, Tryd.ntmps40
  go_wp2_with (at_builtin; go_loud (refine wpList_append_own (w.alloc (.cells #[] 51)) rfl (.tmp 5) (.tmp 6) 22 rfl w.heap.size 51 i0 _ 3 24 Tryd.underlying22 hi0 hz0 hz1 hz2 rfl (by decide) (.slice (some ⟨w.heap.size, 0, none⟩) 0 0) 0 [] rfl HW.out ⟨b, off, none⟩ l.length cap (mCells l) rfl (mCells_len l) HC.out (enM_one l) (by unfold maxLen; omega) (by omega) (by simp) ?_; intro v4 w4 hown4 hg4 hne4))
  rw [Nat.zero_add, List.nil_append] at hown4
  obtain ⟨g, cap', cur, hv4, hbg, -⟩ := own_openV hown4 h0
  subst hv4
  have HO : Hid (w4.ownsRow w.heap.size 51 3 (.slice (some ⟨g, 0, none⟩) l.length cap') l.length (mCells l)) := hown4
  have HB4 : Hid (Below w.heap.size w w4) := HB.out.grown hg4 HB.out.size (fun k hk => by cases hk; exact Nat.le_refl _)
  clear hown4 hg4 hne4 HC HW
  go_wp2
  go_ret
  exact ⟨g, cap', rfl, HO.out, HB4.out⟩
/-- A member is put into its place. -/
theorem row_set3 {w : World} {base : Nat} {l : List Mb} {g cap : Nat} (h : w.ownsRow base 51 3 (.slice (some ⟨g, 0, none⟩) l.length cap) l.length (mCells l)) (k : Nat) (hk : k < l.length) (m : Mb) :
    IsRow (((w.setCell ⟨g, k * 3, none⟩ (.int .i64 m.nd)).setCell ⟨g, k * 3 + 1, none⟩ (.int .i64 m.lf)).setCell ⟨g, k * 3 + 2, none⟩ (.bool m.up)) 3 (.slice (some ⟨g, 0, none⟩) (l.set k m).length cap) (l.set k m).length (mCells (l.set k m)) := by
  obtain ⟨g', cap', cur, hv, hb, hg, h1, h2, h3, h4⟩ := own_openV h (by omega)
  obtain ⟨hgg, -, rfl⟩ := Value.slice.inj hv
  obtain rfl : g = g' := by simpa using hgg
  have s1 := setCell_atV w (k * 3) hg (.int .i64 m.nd)
  have s2 := setCell_atV _ (k * 3 + 1) s1.1 (.int .i64 m.lf)
  have s3 := setCell_atV _ (k * 3 + 2) s2.1 (.bool m.up)
  have hlt := (heap_at s3.1).2.2
  refine ⟨mCells_len _, .inr ⟨g, 0, cap, rfl, hlt, by simpa using h1, h2, fun j u hu => ?_⟩⟩
  have hj : j < (l.set k m).length * 3 := by
    have := (List.getElem?_eq_some_iff.1 hu).1
    rwa [mCells_len] at this
  rw [Nat.zero_add, (heap_at s3.1).1 j]
  have hdiv : j = j / 3 * 3 + j % 3 := by omega
  have hi : j / 3 < l.length := by simp at hj; omega
  have hgt := mCells_get (l.set k m) (j / 3) (by simpa using hi) (j % 3) (by omega)
  rw [← hdiv, hu] at hgt
  have hold := mCells_get l (j / 3) hi (j % 3) (by omega)
  rw [← hdiv, ← h4, List.getElem?_take] at hold
  rw [if_pos (by omega)] at hold
  have hsz : k * 3 + 2 < cur.size := by rw [h3]; omega
  rw [List.getElem_set] at hgt
  simp only [Array.getElem?_setIfInBounds, Array.size_setIfInBounds]
  by_cases hk2 : k = j / 3
  · rw [if_pos hk2] at hgt
    have hr : j % 3 = 0 ∨ j % 3 = 1 ∨ j % 3 = 2 := by omega
    rcases hr with hr | hr | hr <;> rw [hr] at hgt <;> simp [enM] at hgt
    · rw [if_neg (by omega), if_neg (by omega), if_pos (by omega), if_pos (by omega), hgt]
    · rw [if_neg (by omega), if_pos (by omega), if_pos (by omega), hgt]
    · rw [if_pos (by omega), if_pos (by omega), hgt]
  · rw [if_neg hk2] at hgt
    rw [if_neg (by omega), if_neg (by omega), if_neg (by omega)]
    rw [hgt, ← hold]
    simp
set_option maxRecDepth 100000 in
set_option maxHeartbeats 2000000 in
theorem next_any (ep : Int) (v : Value) (l : List Mb) (k : Nat) (m : Mb) (w : World) (hr : IsRow w 3 v l.length (mCells l)) (hk : k < l.length) (hl : l.length ≤ 1000) (he1 : 1 ≤ ep) (he2 : ep ≤ 1099511627775) :
    Calls Tryd.prog 28 #[vwV ep v, .int .i64 (k : Int), .agg #[.int .i64 m.nd, .int .i64 m.lf, .bool m.up]] w fun e w' => VwPost (if ep = 1099511627775 then 0 else ep + 1) (if ep = 1099511627775 then [] else l.set k m) (if ep = 1099511627775 then 13 else 0) w e w' := by
  obtain ⟨a0, cap0, rfl⟩ := hr.form
  obtain ⟨mn, ml, mu⟩ := m
  dsimp only
  have b1 : Below w.heap.size w (w.alloc (.cells #[.int .i64 ep, .slice a0 l.length cap0] 24)) := al_belowV w _
  have b2 : Below w.heap.size w ((w.alloc (.cells #[.int .i64 ep, .slice a0 l.length cap0] 24)).alloc (.cells #[.int .i64 mn, .int .i64 ml, .bool mu] 51)) := b1.alloc b1.size _
  have HB3 : Hid (Below w.heap.size w (((w.alloc (.cells #[.int .i64 ep, .slice a0 l.length cap0] 24)).alloc (.cells #[.int .i64 mn, .int .i64 ml, .bool mu] 51)).alloc (.cells #[.int .i64 0, .slice none 0 0] 24))) := b2.alloc b2.size _
  by_cases he : ep = 1099511627775
  · rw [if_pos he, if_pos he, if_pos he]
    have nb : (ep == 1099511627775) = true := by simpa using he
    clear hr b1 b2 he he1 he2
    go_enter Tryd.func28, Tryd.ntmps28
    go_wp2
    refine bodyPost_ret (v := .tuple #[vwV 0 (.slice none 0 0), .int .i64 13]) ?_ rfl (VwPost.none 13 HB3.out)
    rw [results_csV rfl]; go_simp
  · rw [if_neg he, if_neg he, if_neg he]
    have nb : (ep == 1099511627775) = false := by simpa using he
    have we : IntKind.i64.wrap (ep + 1) = ep + 1 := wrapI (by omega) (by omega)
    have HX : Hid (∀ W, Below w.heap.size w W → Calls Tryd.prog 40 #[.slice a0 l.length cap0] W fun e w' => ClPost l W e w') := fun W h => cloneM_any _ l W (hr.below h) (by omega) hl
    have i1 : (0 : Int) ≤ (k : Int) := by omega
    have i2 : (k : Int) < (l.length : Int) := by omega
    clear hr b1 b2 he he1 he2
    go_enter Tryd.func28, Tryd.ntmps28
    go_wp2_with fail
    refine (HX.out _ HB3.out).mono ?_
    rintro e w1 ⟨g, cap, rfl, hown, hb1⟩
    have hH0 : w1.heap[w.heap.size]? = some (.cells #[.int .i64 ep, .slice a0 l.length cap0] 24 (0, 0)) := by
      rw [hb1.block _ (by first | (simp; done) | (simp; omega)), alloc_old _ _ (by first | (simp; done) | (simp; omega)), alloc_old _ _ (by simp), alloc_top]
    have hH1 : w1.heap[w.heap.size + 1]? = some (.cells #[.int .i64 mn, .int .i64 ml, .bool mu] 51 (0, 0)) := by
      rw [hb1.block _ (by first | (simp; done) | (simp; omega)), alloc_old _ _ (by first | (simp; done) | (simp; omega))]
      have := alloc_top (w.alloc (.cells #[.int .i64 ep, .slice a0 l.length cap0] 24)) (.cells #[.int .i64 mn, .int .i64 ml, .bool mu] 51)
      simpa using this
    have hH2 : w1.heap[w.heap.size + 1 + 1]? = some (.cells #[.int .i64 0, .slice none 0 0] 24 (0, 0)) := by
      rw [hb1.block _ (by simp)]
      have := alloc_top ((w.alloc (.cells #[.int .i64 ep, .slice a0 l.length cap0] 24)).alloc (.cells #[.int .i64 mn, .int .i64 ml, .bool mu] 51)) (.cells #[.int .i64 0, .slice none 0 0] 24)
      simpa using this
    have hgb : w.heap.size + 3 ≤ g := by
      obtain ⟨g', cap', cur, hv, hb, -⟩ := own_openV hown (by omega)
      obtain ⟨hgg, -, -⟩ := Value.slice.inj hv
      simp at hgg
      subst hgg
      simp at hb
      omega
    have HO : Hid (w1.ownsRow w.heap.size 51 3 (.slice (some ⟨g, 0, none⟩) l.length cap) l.length (mCells l)) := by
      refine ⟨hown.1, ?_⟩
      rcases hown.2 with h | ⟨g', c', cur, h1, h2, h3⟩
      · exact .inl h
      · exact .inr ⟨g', c', cur, h1, by have := HB3.out.size; omega, h3⟩
    have HB1 : Hid (Below w.heap.size w w1) := HB3.out.trans (hb1.mono HB3.out.size)
    obtain ⟨g', cap', cur, hv, hgb', hgc, hlc, hcm, hcs, hct⟩ := own_openV HO.out (by omega)
    obtain ⟨hgg, -, rfl⟩ := Value.slice.inj hv
    simp at hgg
    subst hgg
    have ccs : k * 3 + 2 < cur.size := by rw [hcs]; omega
    have t0 := (heap_at hH0).1 0; have t1 := (heap_at hH1).1 0; have t2 := (heap_at hH1).1 1; have t3 := (heap_at hH1).1 2
    simp only [List.getElem?_toArray, List.getElem?_cons_zero, List.getElem?_cons_succ] at t0 t1 t2 t3
    have gf : ∀ j, w1.frozen? ⟨g, j, none⟩ = false := (heap_at hgc).2.1
    have g0 : w1.cell? ⟨g, k * 3, none⟩ = some (cur[k * 3]'(by omega)) := by rw [(heap_at hgc).1]; exact Array.getElem?_eq_getElem (by omega)
    have g1 : w1.cell? ⟨g, k * 3 + 1, none⟩ = some (cur[k * 3 + 1]'(by omega)) := by rw [(heap_at hgc).1]; exact Array.getElem?_eq_getElem (by omega)
    have g2 : w1.cell? ⟨g, k * 3 + 2, none⟩ = some (cur[k * 3 + 2]'(by omega)) := by rw [(heap_at hgc).1]; exact Array.getElem?_eq_getElem (by omega)
    have HRow : Hid _ := row_set3 HO.out k hk ⟨mn, ml, mu⟩
    have s1 := setCell_atV w1 (k * 3) hgc (.int .i64 mn)
    have s2 := setCell_atV _ (k * 3 + 1) s1.1 (.int .i64 ml)
    have s3 := setCell_atV _ (k * 3 + 2) s2.1 (.bool mu)
    have HH0 : Hid ((((w1.setCell ⟨g, k * 3, none⟩ (.int .i64 mn)).setCell ⟨g, k * 3 + 1, none⟩ (.int .i64 ml)).setCell ⟨g, k * 3 + 2, none⟩ (.bool mu)).heap[w.heap.size]? = _) := (s3.2 _ (by omega)).trans ((s2.2 _ (by omega)).trans ((s1.2 _ (by omega)).trans hH0))
    have HH2 : Hid ((((w1.setCell ⟨g, k * 3, none⟩ (.int .i64 mn)).setCell ⟨g, k * 3 + 1, none⟩ (.int .i64 ml)).setCell ⟨g, k * 3 + 2, none⟩ (.bool mu)).heap[w.heap.size + 1 + 1]? = _) := (s3.2 _ (by omega)).trans ((s2.2 _ (by omega)).trans ((s1.2 _ (by omega)).trans hH2))
    have HB2 : Hid (Below w.heap.size w (((w1.setCell ⟨g, k * 3, none⟩ (.int .i64 mn)).setCell ⟨g, k * 3 + 1, none⟩ (.int .i64 ml)).setCell ⟨g, k * 3 + 2, none⟩ (.bool mu))) := ((HB1.out.setCell (p := ⟨g, k * 3, none⟩) (by omega) _).setCell (p := ⟨g, k * 3 + 1, none⟩) (by omega) _).setCell (p := ⟨g, k * 3 + 2, none⟩) (by omega) _
    clear hb1 s1 s2 s3 hown HO HX hv hct hgc hH0 hH1 hH2 HB1 HB3
    go_upto_region 5 with fail
    generalize ((w1.setCell ⟨g, k * 3, none⟩ (.int .i64 mn)).setCell ⟨g, k * 3 + 1, none⟩ (.int .i64 ml)).setCell ⟨g, k * 3 + 2, none⟩ (.bool mu) = W2 at *
    clear t0 t1 t2 t3 gf g0 g1 g2
    have t0 := (heap_at HH0.out).1 0; have t1 := (heap_at HH2.out).1 0; have t2 := (heap_at HH2.out).1 1; have u0 := (heap_at HH2.out).2.1 0; have u1 := (heap_at HH2.out).2.1 1
    simp only [List.getElem?_toArray, List.getElem?_cons_zero, List.getElem?_cons_succ] at t0 t1 t2
    have HF : Hid (∀ x y, IsRow ((W2.setCell ⟨w.heap.size + 1 + 1, 0, none⟩ x).setCell ⟨w.heap.size + 1 + 1, 1, none⟩ y) 3 (.slice (some ⟨g, 0, none⟩) l.length cap) (l.set k ⟨mn, ml, mu⟩).length (mCells (l.set k ⟨mn, ml, mu⟩)) ∧ Below w.heap.size w ((W2.setCell ⟨w.heap.size + 1 + 1, 0, none⟩ x).setCell ⟨w.heap.size + 1 + 1, 1, none⟩ y)) := fun x y => by
      have s1 := setCell_atV W2 0 HH2.out x
      have s2 := setCell_atV _ 1 s1.1 y
      refine ⟨?_, (HB2.out.setCell (p := ⟨w.heap.size + 1 + 1, 0, none⟩) (by show w.heap.size ≤ w.heap.size + 1 + 1; omega) _).setCell (p := ⟨w.heap.size + 1 + 1, 1, none⟩) (by show w.heap.size ≤ w.heap.size + 1 + 1; omega) _⟩
      have hrow := HRow.out
      rw [show (l.set k ⟨mn, ml, mu⟩).length = l.length by simp] at hrow ⊢
      obtain ⟨b', off', cap', hv', hlt', hc1', hc2', hc'⟩ := IsRow.open hrow (by omega)
      obtain ⟨hgg, -, rfl⟩ := Value.slice.inj hv'
      simp at hgg
      obtain ⟨rfl, rfl⟩ := hgg
      refine ⟨hrow.1, .inr ⟨g, 0, cap, rfl, by simpa using hlt', hc1', hc2', fun j u hu => ?_⟩⟩
      rw [World.cell?_setCell_other _ _ _ _ (by first | (simp; done) | (simp; omega)), World.cell?_setCell_other _ _ _ _ (by first | (simp; done) | (simp; omega))]
      exact hc' j u hu
    have HNw : Hid (NewB w.heap.size (.slice (some ⟨g, 0, none⟩) l.length cap)) := fun a n c hv => by
      obtain ⟨ha, -, -⟩ := Value.slice.inj hv
      simp at ha
      rw [← ha]
      show w.heap.size ≤ g
      omega
    clear HRow
    go_wp2
    refine bodyPost_ret (v := .tuple #[vwV (ep + 1) (.slice (some ⟨g, 0, none⟩) l.length cap), .int .i64 0]) ?_ rfl ⟨_, rfl, (HF.out _ _).1, HNw.out, (HF.out _ _).2⟩
    rw [results_csV rfl]; go_simp
end Go.Proofs.YtciibeldmcakeaaDoor
/- view.Down: its walk. -/
namespace Go.Proofs.YtciibeldmcakeaaDoor
open Go.RowKit

theorem VwP.ep {ep : Int} {l : List Mb} (h : VwP ep l) : 1 ≤ ep ∧ ep ≤ 1099511627775 := cntB_iff.1 h.1
theorem tE_no {ep : Int} {up : Bool} {node : Int} {l : List Mb} (h : ¬ VwP ep l) : tE ep up node l = 1 := by unfold tE; rw [if_neg (by rw [vB_false h]; decide)]
theorem tE_none {ep : Int} {up : Bool} {node : Int} {l : List Mb} (h : VwP ep l) (hn : ∀ x ∈ l, x.nd ≠ node) : tE ep up node l = 4 := by unfold tE; rw [if_pos (vB_true h), eL_none hn]
theorem tE_at {ep : Int} {up : Bool} {node : Int} {l : List Mb} (h : VwP ep l) (k : Nat) (hk : k < l.length) (e : l[k].nd = node) : tE ep up node l = eOf ep up l[k] := by unfold tE; rw [if_pos (vB_true h), eL_at h.2.2.2 k hk e]
theorem tE_bad {ep : Int} {up : Bool} {node : Int} {l : List Mb} {x : Int} (h : tE ep up node l = x) (hx : x ≠ 0) : tEp ep up node l = 0 ∧ tLs ep up node l = [] := by
  unfold tEp tLs
  rw [h, if_neg hx, if_neg hx]
  exact ⟨rfl, rfl⟩
theorem tE_ok {ep : Int} {up : Bool} {node : Int} {l : List Mb} (h : VwP ep l) (k : Nat) (hk : k < l.length) (e : l[k].nd = node) (h0 : eOf ep up l[k] = 0) : tE ep up node l = 0 ∧ tEp ep up node l = ep + 1 ∧ tLs ep up node l = l.set k ⟨l[k].nd, if up = true then l[k].lf + 1 else l[k].lf, up⟩ := by
  have h1 := (tE_at (up := up) h k hk e).trans h0
  refine ⟨h1, ?_, ?_⟩
  · unfold tEp; rw [if_pos h1]
  · unfold tLs; rw [if_pos h1, ← set_map h.2.2.2 k hk e, tM_at e h0]
/-- What Down and Up answer. -/
def TnPost (ep : Int) (up : Bool) (node : Int) (l : List Mb) (w : World) (e : Ending) (w' : World) : Prop := VwPost (tEp ep up node l) (tLs ep up node l) (tE ep up node l) w e w'
theorem TnPost.bad {ep : Int} {up : Bool} {node : Int} {l : List Mb} {x : Int} (h : tE ep up node l = x) (hx : x ≠ 0) {w w' : World} (hb : Below w.heap.size w w') : TnPost ep up node l w (.returned (.tuple #[vwV 0 (.slice none 0 0), .int .i64 x])) w' := by
  obtain ⟨h1, h2⟩ := tE_bad h hx
  unfold TnPost
  rw [h1, h2, h]
  exact VwPost.none x hb
abbrev dnW (w : World) (ep : Int) (v : Value) : World := (w.alloc (.cells #[.int .i64 ep, v] 24)).alloc (.cells #[.int .i64 0, .slice none 0 0] 24)
theorem dnW_facts (w : World) (ep : Int) (v : Value) : Below w.heap.size w (dnW w ep v) ∧ ∀ w', Below (dnW w ep v).heap.size (dnW w ep v) w' → Below w.heap.size w w' ∧ w.heap.size + 1 < w'.heap.size ∧ w'.heap[w.heap.size]? = some (.cells #[.int .i64 ep, v] 24 (0, 0)) ∧ w'.heap[w.heap.size + 1]? = some (.cells #[.int .i64 0, .slice none 0 0] 24 (0, 0)) := by
  have b0 : Below w.heap.size w (dnW w ep v) := (al_belowV w _).trans ((al_belowV _ _).mono (al_belowV w _).size)
  have hn : w.heap.size + 1 < (dnW w ep v).heap.size := by simp [dnW]
  refine ⟨b0, fun w' h => ⟨b0.trans (h.mono b0.size), Nat.lt_of_lt_of_le hn h.size, ?_, ?_⟩⟩
  · rw [h.block _ (by omega)]
    show ((w.heap.push _).push _)[w.heap.size]? = _
    rw [Array.getElem?_push, if_neg (by first | (simp; done) | (simp; omega)), Array.getElem?_push, if_pos rfl]
  · rw [h.block _ hn]
    show ((w.heap.push _).push _)[w.heap.size + 1]? = _
    rw [Array.getElem?_push, if_pos (by simp)]
theorem two_V {w : World} {b : Nat} {x y : Value} {t : TypeId} (h : w.heap[b]? = some (.cells #[x, y] t (0, 0))) : w.cell? ⟨b, 0, none⟩ = some x ∧ w.cell? ⟨b, 1, none⟩ = some y ∧ w.frozen? ⟨b, 0, none⟩ = false ∧ w.frozen? ⟨b, 1, none⟩ = false := ⟨(heap_at h).1 0, (heap_at h).1 1, (heap_at h).2.1 0, (heap_at h).2.1 1⟩
theorem set2_V {w0 w : World} {b : Nat} (h : Below w0.heap.size w0 w) (hb : w0.heap.size ≤ b) (x y : Value) : Below w0.heap.size w0 ((w.setCell ⟨b, 0, none⟩ x).setCell ⟨b, 1, none⟩ y) :=
  (h.setCell (p := ⟨b, 0, none⟩) hb _).setCell (p := ⟨b, 1, none⟩) hb _
theorem set2a_V {w0 w : World} {b : Nat} (h : Below w0.heap.size w0 w) (hb : w0.heap.size ≤ b) (x y : Value) (o : Obj) : Below w0.heap.size w0 (((w.setCell ⟨b, 0, none⟩ x).setCell ⟨b, 1, none⟩ y).alloc o) := (set2_V h hb x y).alloc (set2_V h hb x y).size o
set_option maxRecDepth 100000 in
set_option maxHeartbeats 2000000 in
theorem down_any (ep : Int) (v : Value) (l : List Mb) (node : Int) (w : World) (hr : IsRow w 3 v l.length (mCells l)) (hl : l.length ≤ 140737488355328) :
    Calls Tryd.prog 14 #[vwV ep v, .int .i64 node] w fun e w' => TnPost ep false node l w e w' := by
  obtain ⟨a0, cap0, rfl⟩ := hr.form
  obtain ⟨f1, f2⟩ := dnW_facts w ep (.slice a0 l.length cap0)
  have HFd : Hid (Calls Tryd.prog 27 #[.agg #[.int .i64 ep, .slice a0 l.length cap0], .int .i64 node] (dnW w ep (.slice a0 l.length cap0)) fun e w' => FdPost ep l node (dnW w ep (.slice a0 l.length cap0)) e w') := find_any ep _ l node _ (hr.below f1) hl
  have HF2 : Hid _ := f2
  have HNx : Hid (∀ (k : Nat) (hk : k < l.length) (mn ml : Int) (mu : Bool) (W : World), VwP ep l → Below w.heap.size w W → Calls Tryd.prog 28 #[.agg #[.int .i64 ep, .slice a0 l.length cap0], .int .i64 (k : Int), .agg #[.int .i64 mn, .int .i64 ml, .bool mu]] W fun e w' => VwPost (if ep = 1099511627775 then 0 else ep + 1) (if ep = 1099511627775 then [] else l.set k ⟨mn, ml, mu⟩) (if ep = 1099511627775 then 13 else 0) W e w') := fun k hk mn ml mu W hv hb => next_any ep _ l k ⟨mn, ml, mu⟩ W (hr.below hb) hk (by have := hv.len; omega) hv.ep.1 hv.ep.2
  clear hr f1 f2
  go_enter Tryd.func14, Tryd.ntmps14
  go_wp2_with fail
  refine HFd.out.mono ?_
  rintro e w1 ⟨m, at', er, rfl, hb1, hcase⟩
  obtain ⟨B1, hs1, h0, h1⟩ := HF2.out _ hb1
  have HB1 : Hid (Below w.heap.size w w1) := B1
  have HH0 : Hid (w1.heap[w.heap.size]? = _) := h0
  have HH1 : Hid (w1.heap[w.heap.size + 1]? = _) := h1
  obtain ⟨p0, p1, -, -⟩ := two_V h0
  obtain ⟨q0, q1, q2, q3⟩ := two_V h1
  clear HFd HF2 hb1 h0 h1 B1
  obtain ⟨mn, ml, mu⟩ := m
  dsimp only at *
  have HBa : Hid (Below w.heap.size w (w1.alloc (.cells #[.int .i64 mn, .int .i64 ml, .bool mu] 51))) := HB1.out.alloc HB1.out.size _
  rcases hcase with ⟨rfl, hno, hm⟩ | ⟨rfl, hv, hno, hm⟩ | ⟨rfl, hv, k, hk, rfl, hm, hkn⟩
  · have HE : Hid (tE ep false node l = 1) := tE_no hno
    clear hno hm HNx
    go_wp2
    refine bodyPost_ret (v := .tuple #[vwV 0 (.slice none 0 0), .int .i64 1]) ?_ rfl (TnPost.bad HE.out (by decide) (set2a_V HB1.out (by omega) _ _ _))
    rw [results_csV rfl]; go_simp
  · have HE : Hid (tE ep false node l = 4) := tE_none hv hno
    clear hno hm HNx hv
    go_wp2
    refine bodyPost_ret (v := .tuple #[vwV 0 (.slice none 0 0), .int .i64 4]) ?_ rfl (TnPost.bad HE.out (by decide) (set2a_V HB1.out (by omega) _ _ _))
    rw [results_csV rfl]; go_simp
  · cases mu
    · have HE : Hid (tE ep false node l = 12) := by
        show _ = _
        rw [tE_at hv k hk hkn, ← hm]
        unfold eOf
        simp
      clear hm HNx hv hkn
      go_wp2
      refine bodyPost_ret (v := .tuple #[vwV 0 (.slice none 0 0), .int .i64 12]) ?_ rfl (TnPost.bad HE.out (by decide) (set2a_V HB1.out (by omega) _ _ _))
      rw [results_csV rfl]; go_simp
    · have HBb : Hid (Below w.heap.size w (w1.alloc (.cells #[.int .i64 mn, .int .i64 ml, .bool false] 51))) := HB1.out.alloc HB1.out.size _
      have HC : Hid (Calls Tryd.prog 28 #[.agg #[.int .i64 ep, .slice a0 l.length cap0], .int .i64 (k : Int), .agg #[.int .i64 mn, .int .i64 ml, .bool false]] (w1.alloc (.cells #[.int .i64 mn, .int .i64 ml, .bool false] 51)) fun e w' => VwPost (tEp ep false node l) (tLs ep false node l) (tE ep false node l) (w1.alloc (.cells #[.int .i64 mn, .int .i64 ml, .bool false] 51)) e w') := by
        have := HNx.out k hk mn ml false _ hv HBb.out
        by_cases he : ep = 1099511627775
        · have h13 : tE ep false node l = 13 := by rw [tE_at hv k hk hkn, ← hm]; unfold eOf; simp [he]
          obtain ⟨t1, t2⟩ := tE_bad h13 (by decide)
          rw [t1, t2, h13]
          rw [if_pos he, if_pos he, if_pos he] at this
          exact this
        · have h00 : eOf ep false l[k] = 0 := by rw [← hm]; unfold eOf; simp [he]
          obtain ⟨t0, t1, t2⟩ := tE_ok hv k hk hkn h00
          rw [t0, t1, t2]
          rw [if_neg he, if_neg he, if_neg he] at this
          rw [← hm]
          exact this
      have p0' := ((al_belowV w1 (.cells #[.int .i64 mn, .int .i64 ml, .bool false] 51)).cell (p := ⟨w.heap.size, 0, none⟩) (show w.heap.size < _ by omega)).trans p0
      have p1' := ((al_belowV w1 (.cells #[.int .i64 mn, .int .i64 ml, .bool false] 51)).cell (p := ⟨w.heap.size, 1, none⟩) (show w.heap.size < _ by omega)).trans p1
      have hl1 : w.heap.size < w1.heap.size := by omega
      clear hm HNx hv hkn
      go_wp2_with fail
      refine HC.out.mono ?_
      rintro e w2 ⟨v2, rfl, hrow, hnew, hb2⟩
      obtain ⟨a2, cap2, rfl⟩ := hrow.form
      have hs2 : w.heap.size + 1 < (w1.alloc (.cells #[.int .i64 mn, .int .i64 ml, .bool false] 51)).heap.size := by simp; omega
      have HQ : w2.heap[w.heap.size + 1]? = _ := (hb2.block _ hs2).trans ((alloc_old _ _ hs1).trans HH1.out)
      obtain ⟨r0, r1, r2, r3⟩ := two_V HQ
      have HF : Hid (∀ x y, TnPost ep false node l w (.returned (.tuple #[vwV (tEp ep false node l) (.slice a2 (tLs ep false node l).length cap2), .int .i64 (tE ep false node l)])) ((w2.setCell ⟨w.heap.size + 1, 0, none⟩ x).setCell ⟨w.heap.size + 1, 1, none⟩ y)) := fun x y => ⟨_, rfl, (hrow.far hnew (by omega) _).far hnew (by omega) _, hnew.mono (by have := HBb.out.size; omega), set2_V (HBb.out.trans (hb2.mono HBb.out.size)) (by omega) _ _⟩
      clear HC hrow hnew hb2 HQ p0 p1 p0' p1' q0 q1 q2 q3
      generalize tEp ep false node l = TEP at *
      generalize tE ep false node l = TE at *
      generalize (tLs ep false node l).length = TN at *
      go_wp2
      refine bodyPost_ret (v := .tuple #[vwV TEP (.slice a2 TN cap2), .int .i64 TE]) ?_ rfl (HF.out _ _)
      rw [results_csV rfl]; go_simp
end Go.Proofs.YtciibeldmcakeaaDoor
/- view.Up, Life: walks. -/
namespace Go.Proofs.YtciibeldmcakeaaDoor
open Go.RowKit

set_option maxRecDepth 100000 in
set_option maxHeartbeats 2000000 in
theorem up_any (ep : Int) (v : Value) (l : List Mb) (node : Int) (w : World) (hr : IsRow w 3 v l.length (mCells l)) (hl : l.length ≤ 140737488355328) :
    Calls Tryd.prog 15 #[vwV ep v, .int .i64 node] w fun e w' => TnPost ep true node l w e w' := by
  obtain ⟨a0, cap0, rfl⟩ := hr.form
  obtain ⟨f1, f2⟩ := dnW_facts w ep (.slice a0 l.length cap0)
  have HFd : Hid (Calls Tryd.prog 27 #[.agg #[.int .i64 ep, .slice a0 l.length cap0], .int .i64 node] (dnW w ep (.slice a0 l.length cap0)) fun e w' => FdPost ep l node (dnW w ep (.slice a0 l.length cap0)) e w') := find_any ep _ l node _ (hr.below f1) hl
  have HF2 : Hid _ := f2
  have HNx : Hid (∀ (k : Nat) (hk : k < l.length) (mn ml : Int) (mu : Bool) (W : World), VwP ep l → Below w.heap.size w W → Calls Tryd.prog 28 #[.agg #[.int .i64 ep, .slice a0 l.length cap0], .int .i64 (k : Int), .agg #[.int .i64 mn, .int .i64 ml, .bool mu]] W fun e w' => VwPost (if ep = 1099511627775 then 0 else ep + 1) (if ep = 1099511627775 then [] else l.set k ⟨mn, ml, mu⟩) (if ep = 1099511627775 then 13 else 0) W e w') := fun k hk mn ml mu W hv hb => next_any ep _ l k ⟨mn, ml, mu⟩ W (hr.below hb) hk (by have := hv.len; omega) hv.ep.1 hv.ep.2
  clear hr f1 f2
  go_enter Tryd.func15, Tryd.ntmps15
  go_wp2_with fail
  refine HFd.out.mono ?_
  rintro e w1 ⟨m, at', er, rfl, hb1, hcase⟩
  obtain ⟨B1, hs1, h0, h1⟩ := HF2.out _ hb1
  have HB1 : Hid (Below w.heap.size w w1) := B1
  have HH0 : Hid (w1.heap[w.heap.size]? = _) := h0
  have HH1 : Hid (w1.heap[w.heap.size + 1]? = _) := h1
  obtain ⟨p0, p1, -, -⟩ := two_V h0
  obtain ⟨q0, q1, q2, q3⟩ := two_V h1
  clear HFd HF2 hb1 h0 h1 B1
  obtain ⟨mn, ml, mu⟩ := m
  dsimp only at *
  have HBa : Hid (Below w.heap.size w (w1.alloc (.cells #[.int .i64 mn, .int .i64 ml, .bool mu] 51))) := HB1.out.alloc HB1.out.size _
  rcases hcase with ⟨rfl, hno, hm⟩ | ⟨rfl, hv, hno, hm⟩ | ⟨rfl, hv, k, hk, rfl, hm, hkn⟩
  · have HE : Hid (tE ep true node l = 1) := tE_no hno
    clear hno hm HNx
    go_wp2
    refine bodyPost_ret (v := .tuple #[vwV 0 (.slice none 0 0), .int .i64 1]) ?_ rfl (TnPost.bad HE.out (by decide) (set2a_V HB1.out (by omega) _ _ _))
    rw [results_csV rfl]; go_simp
  · have HE : Hid (tE ep true node l = 4) := tE_none hv hno
    clear hno hm HNx hv
    go_wp2
    refine bodyPost_ret (v := .tuple #[vwV 0 (.slice none 0 0), .int .i64 4]) ?_ rfl (TnPost.bad HE.out (by decide) (set2a_V HB1.out (by omega) _ _ _))
    rw [results_csV rfl]; go_simp
  · cases mu
    · by_cases hlm : ml = 1099511627775
      · have nb : (ml == 1099511627775) = true := by simpa using hlm
        have HE : Hid (tE ep true node l = 13) := by
          show _ = _
          rw [tE_at hv k hk hkn, ← hm]
          unfold eOf
          simp [hlm]
        clear hm HNx hv hkn hlm
        go_wp2
        refine bodyPost_ret (v := .tuple #[vwV 0 (.slice none 0 0), .int .i64 13]) ?_ rfl (TnPost.bad HE.out (by decide) (set2a_V HB1.out (by omega) _ _ _))
        rw [results_csV rfl]; go_simp
      · have nb : (ml == 1099511627775) = false := by simpa using hlm
        have hml := cntB_iff.1 (hv.2.2.1 l[k] (List.getElem_mem hk))
        rw [← hm] at hml
        dsimp only at hml
        have wl : IntKind.i64.wrap (ml + 1) = ml + 1 := wrapI (by omega) (by omega)
        have HBb : Hid (Below w.heap.size w (w1.alloc (.cells #[.int .i64 mn, .int .i64 (ml + 1), .bool true] 51))) := HB1.out.alloc HB1.out.size _
        have HC : Hid (Calls Tryd.prog 28 #[.agg #[.int .i64 ep, .slice a0 l.length cap0], .int .i64 (k : Int), .agg #[.int .i64 mn, .int .i64 (ml + 1), .bool true]] (w1.alloc (.cells #[.int .i64 mn, .int .i64 (ml + 1), .bool true] 51)) fun e w' => VwPost (tEp ep true node l) (tLs ep true node l) (tE ep true node l) (w1.alloc (.cells #[.int .i64 mn, .int .i64 (ml + 1), .bool true] 51)) e w') := by
          have := HNx.out k hk mn (ml + 1) true _ hv HBb.out
          by_cases he : ep = 1099511627775
          · have h13 : tE ep true node l = 13 := by rw [tE_at hv k hk hkn, ← hm]; unfold eOf; simp [he]
            obtain ⟨t1, t2⟩ := tE_bad h13 (by decide)
            rw [t1, t2, h13]
            rw [if_pos he, if_pos he, if_pos he] at this
            exact this
          · have h00 : eOf ep true l[k] = 0 := by rw [← hm]; unfold eOf; simp [he, hlm]
            obtain ⟨t0, t1, t2⟩ := tE_ok hv k hk hkn h00
            rw [t0, t1, t2]
            rw [if_neg he, if_neg he, if_neg he] at this
            rw [← hm]
            exact this
        have p0' := ((al_belowV w1 (.cells #[.int .i64 mn, .int .i64 (ml + 1), .bool true] 51)).cell (p := ⟨w.heap.size, 0, none⟩) (show w.heap.size < _ by omega)).trans p0
        have p1' := ((al_belowV w1 (.cells #[.int .i64 mn, .int .i64 (ml + 1), .bool true] 51)).cell (p := ⟨w.heap.size, 1, none⟩) (show w.heap.size < _ by omega)).trans p1
        have hl1 : w.heap.size < w1.heap.size := by omega
        clear hm HNx hv hkn hlm hml
        go_wp2_with fail
        refine HC.out.mono ?_
        rintro e w2 ⟨v2, rfl, hrow, hnew, hb2⟩
        obtain ⟨a2, cap2, rfl⟩ := hrow.form
        have hs2 : w.heap.size + 1 < (w1.alloc (.cells #[.int .i64 mn, .int .i64 (ml + 1), .bool true] 51)).heap.size := by simp; omega
        have HQ : w2.heap[w.heap.size + 1]? = _ := (hb2.block _ hs2).trans ((alloc_old _ _ hs1).trans HH1.out)
        obtain ⟨r0, r1, r2, r3⟩ := two_V HQ
        have HF : Hid (∀ x y, TnPost ep true node l w (.returned (.tuple #[vwV (tEp ep true node l) (.slice a2 (tLs ep true node l).length cap2), .int .i64 (tE ep true node l)])) ((w2.setCell ⟨w.heap.size + 1, 0, none⟩ x).setCell ⟨w.heap.size + 1, 1, none⟩ y)) := fun x y => ⟨_, rfl, (hrow.far hnew (by omega) _).far hnew (by omega) _, hnew.mono (by have := HBb.out.size; omega), set2_V (HBb.out.trans (hb2.mono HBb.out.size)) (by omega) _ _⟩
        clear HC hrow hnew hb2 HQ p0 p1 p0' p1' q0 q1 q2 q3
        generalize tEp ep true node l = TEP at *
        generalize tE ep true node l = TE at *
        generalize (tLs ep true node l).length = TN at *
        go_wp2
        refine bodyPost_ret (v := .tuple #[vwV TEP (.slice a2 TN cap2), .int .i64 TE]) ?_ rfl (HF.out _ _)
        rw [results_csV rfl]; go_simp
    · have HE : Hid (tE ep true node l = 5) := by
        show _ = _
        rw [tE_at hv k hk hkn, ← hm]
        unfold eOf
        simp
      clear hm HNx hv hkn
      go_wp2
      refine bodyPost_ret (v := .tuple #[vwV 0 (.slice none 0 0), .int .i64 5]) ?_ rfl (TnPost.bad HE.out (by decide) (set2a_V HB1.out (by omega) _ _ _))
      rw [results_csV rfl]; go_simp
theorem find_at {l : List Mb} (hn : NodesP (nds l)) {node : Int} (k : Nat) (hk : k < l.length) (e : l[k].nd = node) : l.find? (fun m => m.nd == node) = some l[k] := by
  rw [List.find?_eq_some_iff_getElem]
  refine ⟨by simpa using e, k, hk, rfl, fun j hj => ?_⟩
  simp only [Bool.not_eq_true', beq_eq_false_iff_ne]
  intro e2
  have := nds_nodup hn j k (by omega) hk (e2.trans e.symm)
  omega
end Go.Proofs.YtciibeldmcakeaaDoor
/- view.up: what it yields. -/
namespace Go.Proofs.YtciibeldmcakeaaDoor
open Go.RowKit Go.Shelf
attribute [local go_sem] Oper.semAt_some

/-- The members that are up. -/
noncomputable def upM (ep : Int) (l : List Mb) : List Mb := if vB ep l = true then l.filter Mb.up else []
abbrev mbV (m : Mb) : Value := .agg #[.int .i64 m.nd, .int .i64 m.lf, .bool m.up]
theorem below_grown {w w' : World} (h : Below w.heap.size w w') : w.grownBy w' none := ⟨h.os, h.tape, h.output, h.size, fun k hk _ => h.block k hk⟩
theorem filt_take (l : List Mb) (k : Nat) (hk : k < l.length) : (l.take (k + 1)).filter Mb.up = (l.take k).filter Mb.up ++ (if l[k].up = true then [l[k]] else []) := by
  rw [List.take_succ_eq_append_getElem hk, List.filter_append]
  congr 1
  simp only [List.filter_cons, List.filter_nil]
theorem filt_pre (l : List Mb) (k : Nat) : (l.take k).filter Mb.up <+: l.filter Mb.up := by
  conv => rhs; rw [← List.take_append_drop k l, List.filter_append]
  exact List.prefix_append _ _
set_option maxRecDepth 100000 in
set_option maxHeartbeats 2000000 in
theorem upS_stops (ep : Int) (v : Value) (l : List Mb) (wL w : World) (hr : IsRow wL 3 v l.length (mCells l)) (hl : l.length ≤ 140737488355328) (hb : Below wL.heap.size wL w) (Bn : Nat) (hBn : Bn < w.heap.size) (hc : w.heap[Bn]? = some (.cells #[.int .i64 ep, v] 24 (0, 0))) (n : Nat) :
    SeqStopsK Fence.wide n Tryd.prog 41 #[.pointer (some ⟨Bn, 0, none⟩)] (fun m : Mb => #[mbV m]) (Below wL.heap.size) (fun ys => ys = upM ep l) (fun pre => pre <+: upM ep l) l.length w := fun ll J Jx W hW hJ hJx hY h0 => by
  obtain ⟨a0, cap0, rfl⟩ := hr.form
  have hW2 : Below wL.heap.size wL W := hb.trans (hW.mono hb.size)
  have hc' : W.heap[Bn]? = some (.cells #[.int .i64 ep, .slice a0 l.length cap0] 24 (0, 0)) := (hW.block Bn hBn).trans hc
  have hlt : Bn < W.heap.size := (heap_at hc').2.2
  obtain ⟨c0, c1, -, -⟩ := two_V hc'
  have HCk : Hid (Calls Tryd.prog 12 #[.agg #[.int .i64 ep, .slice a0 l.length cap0]] W fun e w' => e = .returned (.bool (vB ep l)) ∧ Below W.heap.size W w') := check_any ep _ l W (hr.below hW2) hl
  have HR : Hid (∀ w', Below wL.heap.size wL w' → IsRow w' 3 (.slice a0 l.length cap0) l.length (mCells l)) := fun w' h => hr.below h
  have HJ : Hid (∀ s A B, J s A → Below A.heap.size A B → J s B) := fun s A B h hb => hJ s A B none h (below_grown hb) (fun r e => by cases e)
  have HY : Hid _ := hY
  have H0 : Hid (J [] W) := h0
  have HB2 : Hid (Below wL.heap.size wL W) := hW2
  clear hr hb hc hJx hJ hY h0 hW hW2 hc' hBn
  show CallsIn Fence.wide n Tryd.prog 41 #[.func (.yield ll) #[] #[], .pointer (some ⟨Bn, 0, none⟩)] W _
  refine callsIn_of_wp Tryd.func41 rfl trivial ?_ rfl
  simp only [Tryd.ntmps41, List.size_toArray, List.length_cons, List.length_nil, Nat.reduceAdd, Nat.reduceSub, Array.replicate_succ, Array.replicate_zero, List.push_toArray, List.append_toArray, List.nil_append, List.cons_append]
  gi_wp2_with fail
  refine ⟨trivial, fun h => (by cases h), (callsIn_wide.2 HCk.out).mono ?_⟩
  rintro e w1 ⟨rfl, hb1⟩
  have H1 : Hid (J [] w1) := HJ.out _ _ _ H0.out hb1
  have HB1 : Hid (Below wL.heap.size wL w1) := HB2.out.trans (hb1.mono HB2.out.size)
  have c0' := (hb1.cell (p := ⟨Bn, 0, none⟩) hlt).trans c0
  have c1' := (hb1.cell (p := ⟨Bn, 1, none⟩) hlt).trans c1
  clear HCk H0 HB2 hb1 c0 c1 hlt
  cases hvb : vB ep l
  · have HE : Hid (upM ep l = []) := by show _ = _; unfold upM; rw [if_neg (by rw [hvb]; decide)]
    clear hvb HY HJ HR
    gi_wp2
    refine bodyPost_ret (results_none rfl _ _ _) rfl ?_
    exact ⟨⟨_, rfl⟩, .inl ⟨[], HE.out.symm, H1.out⟩⟩
  · have HE : Hid (upM ep l = l.filter Mb.up) := by show _ = _; unfold upM; rw [if_pos hvb]
    clear hvb
    gi_wp2_with fail
    gi_loopw [11] (fun i wr => ∃ k : Nat, k ≤ l.length ∧ i = .int .i64 (k : Int) ∧ Hid (J ((l.take k).filter Mb.up) wr) ∧ Hid (Below wL.heap.size wL wr)) (fun i _ => l.length - (intOf i).toNat)
    case atStart => exact ⟨0, Nat.zero_le _, rfl, H1, HB1⟩
    case round =>
      obtain ⟨k, hk, rfl, HJk, HB⟩ := hrel
      clear H1 HB1 c0' c1'
      by_cases hlk : k < l.length
      · have dk : decide ((k : Int) < l.length) = true := by simp; omega
        obtain ⟨b, off, cap, hv, hlt, hc1, hc2, c0, c1, c2⟩ := mb_at (HR.out _ HB.out) hlk
        obtain ⟨rfl, -, rfl⟩ := Value.slice.inj hv
        have HT : Hid ((l.take (k + 1)).filter Mb.up = (l.take k).filter Mb.up ++ (if l[k].up = true then [l[k]] else [])) := filt_take l k hlk
        have HP : Hid ((l.take (k + 1)).filter Mb.up <+: l.filter Mb.up) := filt_pre l (k + 1)
        have HJa : Hid (J ((l.take k).filter Mb.up) (wr.alloc (.cells #[.int .i64 l[k].nd, .int .i64 l[k].lf, .bool l[k].up] 51))) := HJ.out _ _ _ HJk.out (al_belowV wr _)
        have HBa : Hid (Below wL.heap.size wL (wr.alloc (.cells #[.int .i64 l[k].nd, .int .i64 l[k].lf, .bool l[k].up] 51))) := HB.out.trans ((al_belowV wr _).mono HB.out.size)
        have hlen : ((l.take k).filter Mb.up).length < l.length := Nat.lt_of_le_of_lt (List.length_filter_le _ _) (by simp; omega)
        generalize l[k]'hlk = m at *
        obtain ⟨mn, ml, mu⟩ := m
        dsimp only at *
        clear hv HJ HR
        cases mu
        · have HT2 : Hid ((l.take (k + 1)).filter Mb.up = (l.take k).filter Mb.up) := by show _ = _; have := HT.out; simpa using this
          clear HT HY HP hlen
          gi_wp2
          refine ⟨fun _ h => (by cases h), ?_⟩
          gi_wp2
          go_roundw
          case rel => exact ⟨k + 1, by omega, by simp, by rw [HT2.out]; exact HJa, HBa⟩
          case measure => simp [intOf]; omega
        · have HT2 : Hid ((l.take (k + 1)).filter Mb.up = (l.take k).filter Mb.up ++ [⟨mn, ml, true⟩]) := by show _ = _; have := HT.out; simpa using this
          obtain ⟨fn, tmps, assign, body, hy, hR⟩ := HY.out _ ⟨mn, ml, true⟩ _ HJa.out hlen
          try dsimp only [mbV] at hy
          clear HT HY
          gi_wp2
          refine ⟨fun h => (by cases h), hR.mono ?_⟩
          rintro e W3 (⟨rfl, hJ3, hk3⟩ | ⟨rfl, hJx3⟩)
          · have HJ3 : Hid (J ((l.take (k + 1)).filter Mb.up) W3) := by show J _ _; rw [HT2.out]; exact hJ3
            have HB3 : Hid (Below wL.heap.size wL W3) := HBa.out.trans hk3
            clear hJ3 hk3
            gi_wp2
            go_roundw
            case rel => exact ⟨k + 1, by omega, by simp, HJ3, HB3⟩
            case measure => simp [intOf]; omega
          · have HJ3 : Hid (Jx ((l.take (k + 1)).filter Mb.up) W3) := by show Jx _ _; rw [HT2.out]; exact hJx3
            clear hJx3
            gi_wp2
            refine bodyPost_ret (results_none rfl _ _ _) rfl ?_
            exact ⟨⟨_, rfl⟩, .inr ⟨_, by rw [HE.out]; exact HP.out, HJ3.out⟩⟩
      · have hk' : k = l.length := by omega
        subst hk'
        have dk : decide ((l.length : Int) < l.length) = false := by simp
        have HJ2 : Hid (J (l.filter Mb.up) wr) := by have := HJk.out; rwa [List.take_of_length_le (Nat.le_refl _)] at this
        clear HJk HJ HR HY
        gi_wp2
        go_end0
        exact ⟨⟨_, rfl⟩, .inl ⟨_, HE.out.symm, HJ2.out⟩⟩
end Go.Proofs.YtciibeldmcakeaaDoor
/- view.Live: its walk. -/
namespace Go.Proofs.YtciibeldmcakeaaDoor
open Go.RowKit Go.Shelf
theorem up_fn (ep : Int) (v : Value) (w : World) : Calls Tryd.prog 29 #[vwV ep v] w fun e w' => e = .returned (.func (.func 41) #[] #[.pointer (some ⟨w.heap.size, 0, none⟩)]) ∧ w' = w.alloc (.cells #[.int .i64 ep, v] 24) := by
  go_enter Tryd.func29, Tryd.ntmps29
  go_wp2
  go_ret
  exact ⟨rfl, rfl⟩
attribute [local go_sem] Oper.semAt_some
theorem nds_up (ep : Int) (l : List Mb) : nds (upM ep l) = lvL ep l := by
  unfold upM lvL upN
  split <;> rfl
theorem row_own {B : Nat} {C : Array Value} {t : TypeId} : Own (fun (_ : Unit) W => W.heap[B]? = some (.cells C t (0, 0))) := by
  rintro s X Y row h hg hrow
  refine (hg.block B (heap_at h).2.2 (fun e' => ?_)).trans h
  obtain ⟨o, ho, hc⟩ := hrow B e'.symm
  rw [show X.heap[B]? = _ from h] at ho; cases ho; cases hc
/-- What Live answers. -/
def LvPost (r : List Int) (w : World) (e : Ending) (w' : World) : Prop := ∃ v, e = .returned v ∧ IsRow w' 1 v r.length (iCells r) ∧ NewB w.heap.size v ∧ Below w.heap.size w w'
set_option maxRecDepth 100000 in
set_option maxHeartbeats 2000000 in
theorem live_any (ep : Int) (v : Value) (l : List Mb) (w : World) (hr : IsRow w 3 v l.length (mCells l)) (hl : l.length ≤ 1000000) :
    Calls Tryd.prog 17 #[vwV ep v] w fun e w' => LvPost (lvL ep l) w e w' := by
  obtain ⟨a0, cap0, rfl⟩ := hr.form
  obtain ⟨i0, hi, hz0, hz1, hz2⟩ := info_parts info_inV
  refine (callsIn_wide (n := 3)).1 ?_
  refine callsIn_of_wp_marks Tryd.func17 rfl trivial ?_ rfl
  simp only [Tryd.ntmps17, List.size_toArray, List.length_cons, List.length_nil, Nat.reduceAdd, Nat.reduceSub, Array.replicate_succ, Array.replicate_zero, List.push_toArray, List.append_toArray, List.nil_append, List.cons_append]
  gi_wp2_with fail
  refine ⟨trivial, (callsIn_wide.2 (up_fn _ _ _)).mono ?_⟩
  rintro e w' ⟨rfl, rfl⟩
  have hB0 : Below w.heap.size w (((w.alloc (.cells #[.int .i64 ep, .slice a0 l.length cap0] 24)).alloc (.cells #[.slice none 0 0] 41)).alloc (.cells #[.int .i64 ep, .slice a0 l.length cap0] 24)) := (((Below.refl _ w).alloc (Nat.le_refl _) _).alloc (by simp) _).alloc (by simp; omega) _
  have bO : Boxed (w.alloc (.cells #[.int .i64 ep, .slice a0 l.length cap0] 24) |>.alloc (.cells #[.slice none 0 0] 41)) (w.heap.size + 1) 41 (.slice none 0 0) := by have := Boxed.new (w.alloc (.cells #[.int .i64 ep, .slice a0 l.length cap0] 24)) 41 (.slice none 0 0); rw [World.size_alloc] at this; exact this
  have hBn : (((w.alloc (.cells #[.int .i64 ep, .slice a0 l.length cap0] 24)).alloc (.cells #[.slice none 0 0] 41)).alloc (.cells #[.int .i64 ep, .slice a0 l.length cap0] 24)).heap[w.heap.size + 1 + 1]? = some (.cells #[.int .i64 ep, .slice a0 l.length cap0] 24 (0, 0)) := by
    have := alloc_top ((w.alloc (.cells #[.int .i64 ep, .slice a0 l.length cap0] 24)).alloc (.cells #[.slice none 0 0] 41)) (.cells #[.int .i64 ep, .slice a0 l.length cap0] 24)
    simpa using this
  gi_wp2_with fail
  refine wpIn_rangeFunc_ownH rfl (by omega) (gf := 41) (lb := #[.pointer (some ⟨w.heap.size + 1 + 1, 0, none⟩)]) rfl trivial (enters_of Tryd.func41 (by kernel_rfl) rfl)
    (upS_stops ep _ l w _ hr (by omega) hB0 (w.heap.size + 1 + 1) (by simp) hBn 2) belowK_t (belowK_b (by simp; omega)) (Below.refl _ _) (fun _ => rfl)
    (fun pre W => (∃ v, Boxed W (w.heap.size + 1) 41 v ∧ W.ownsRow w.heap.size 3 1 v pre.length (iCells (nds pre)) ∧ True) ∧ Below w.heap.size w W)
    (fun _ _ _ => False)
    (OwnFrom.and (Own.from (holdsRow_own w.heap.size (w.heap.size + 1) 41 3 1 (fun pre => pre.length) (fun pre => iCells (nds pre)) (fun _ _ => True)) _) (ownFrom_below (Nat.le_refl _) (by simp; omega)))
    (fun _ _ _ _ _ hs _ _ => hs)
    ⟨⟨_, bO.alloc _, World.ownsRow_nil _ _ _ _, trivial⟩, hB0⟩
    (fun x a' W => ∃ Bx, w.heap.size + 1 < Bx ∧ W.heap[Bx]? = some (.cells #[.int .i64 x.nd, .int .i64 x.lf, .bool x.up] 51 (0, 0)) ∧ a' = { tmps := #[vwV ep (.slice a0 l.length cap0), .pointer (some ⟨w.heap.size, 0, none⟩), .pointer (some ⟨w.heap.size + 1, 0, none⟩), .pointer (some ⟨Bx, 0, none⟩), vwV ep (.slice a0 l.length cap0), .func (.func 41) #[] #[.pointer (some ⟨w.heap.size + 1 + 1, 0, none⟩)], mbV x, undef, undef, undef, undef, undef, undef], defers := [] })
    (fun x a' => Own.from (fun s X Y row h hg hrow => by
      obtain ⟨Bx, h1, h2, h3⟩ := h
      exact ⟨Bx, h1, row_own () X Y row h2 hg hrow, h3⟩) _) ?assign ?body ?done ?stop
  case assign =>
    rintro ll pre x W K ⟨⟨vv, hv, hrow, -⟩, hB⟩ hK
    gi_wp2
    exact hK _ _ ((KeepsOthers.alloc _ _).from _) ((Below.refl _ W).alloc hB.size _) ⟨⟨vv, hv.alloc _, hrow.alloc _, trivial⟩, hB.alloc hB.size _⟩ ⟨W.heap.size, hv.lt, alloc_top _ _, rfl⟩
  case body =>
    rintro ll pre x a' W hlw ⟨r, hrr⟩ ⟨⟨vv, hv, hrow, -⟩, hB⟩ ⟨Bx, hBx, bX, rfl⟩ hlt
    have hc := hv.cell
    have x0 := (heap_at bX).1 0
    simp only [List.getElem?_toArray, List.getElem?_cons_zero] at x0
    gi_wp2_with (gi_at_builtin; refine wpListIn_append_own _ rfl _ _ 41 rfl w.heap.size 3 i0 (.int .i64 0) 1 8 Tryd.underlying41 hi hz0 hz1 hz2 rfl (by decide) _ _ _ rfl (hrow.alloc _) ⟨W.heap.size, 0, none⟩ 1 1 [.int .i64 x.nd] rfl rfl (cell_one_new _ _ _) (by simp [Value.oneCell']) (by unfold maxLen; omega) (by omega) (by have := hB.size; simp; omega) ?_; intro v' w1 hown' hgrow _; obtain ⟨g', cap', rfl⟩ := ownsRow_succ hown'; obtain ⟨hv1, hv2, hr2, hk2, hb2⟩ := hv.appended (by decide) hrow hB.size (by omega) hown' hgrow; have hc1 := hv1.cell; have hf1 := hv1.frozen)
    exact ⟨hk2.from _, hb2, ⟨_, hv2, by rw [show iCells (nds (pre ++ [x])) = iCells (nds pre) ++ [.int .i64 x.nd] by simp [iCells]]; simpa using hr2, trivial⟩, hB.trans hb2⟩
  case done =>
    rintro D ys W hD rfl ⟨⟨vv, hv, hrow, -⟩, hB⟩ hK
    obtain ⟨va, vc, rfl⟩ := (IsRow.own hrow).form
    have hc := hv.cell
    have hf := hv.frozen
    gi_wp2
    have hK' := (KeepsOthers.setCell W ⟨w.heap.size + 1, 0, none⟩ (.slice va (upM ep l).length vc)).same D _ hK rfl
    refine ⟨by simp, .inl ⟨_, _, rfl, run_takeDeferred hK', ?_⟩⟩
    have hv2 := hv.set (.slice va (upM ep l).length vc)
    have hr2 : (W.setCell ⟨w.heap.size + 1, 0, none⟩ (.slice va (upM ep l).length vc)).ownsRow w.heap.size 3 1 (.slice va (upM ep l).length vc) (upM ep l).length (iCells (nds (upM ep l))) := hrow.kept (grownBy_setCell' W (w.heap.size + 1) _) (.inr (hv.not_row (by decide) hrow).symm)
    have hr3 := ownsRow_putObj hr2 (.deferred none) hK' rfl
    have hc5 := cell_kept hv2.cell (grownBy_putObj' _ D (.deferred none)) (fun r e => by cases e; exact ⟨_, hK', rfl⟩)
    refine ⟨.slice va (upM ep l).length vc, ?_, ?_⟩
    rotate_left
    · refine ⟨.slice va (upM ep l).length vc, rfl, ?_, NewB.own hrow, (hB.setCell (p := ⟨w.heap.size + 1, 0, none⟩) (by simp) _).trans (belowK_b (w := w) (Nat.le_refl _) _ D _ _ (by simp at hD; omega) hK' rfl rfl)⟩
      rw [← nds_up, show (nds (upM ep l)).length = (upM ep l).length by simp]
      exact IsRow.own hr3
    · simp [results, Tryd.f17, go_sem, hc5]
  case stop =>
    rintro D c pre W _ _ h _
    exact h.elim
end Go.Proofs.YtciibeldmcakeaaDoor
