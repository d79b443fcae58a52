/- Runes of bytes; small letters; which runes are a name: plain, of no program. -/
import Derived.Lib.ValidLaws
import Derived.Lib.RuneCount
import Derived.Laws.Cover4
import Derived.Lib.SlBy
import Derived.Test.YtmnmjphgpblbhaaDoorRows
import Derived.WalkKit
import Derived.WalkSpells
import Derived.WalkLawsBesides
import Derived.Deep.RegionWith
import Derived.Lib.OthersKept
import Derived.BigCall
namespace Go.Proofs.YtmnmjphgpblbhaaDoor
open Go.Lib
set_option maxRecDepth 100000

def rnGo : Nat → List UInt8 → List Nat
  | 0, _ => []
  | n + 1, l => if l = [] then [] else (decodeL l).1 :: rnGo n (l.drop (decodeL l).2)
/-- The runes of bytes, as a range hands them over. -/
def rns (l : List UInt8) : List Nat := rnGo l.length l
theorem rnGo_nil : ∀ n, rnGo n [] = []
  | 0 => rfl
  | _ + 1 => by simp [rnGo]
theorem rnGo_fuel : ∀ (n m : Nat) (l : List UInt8), l.length ≤ n → l.length ≤ m → rnGo n l = rnGo m l
  | 0, m, l, hn, _ => by
    have : l = [] := List.eq_nil_of_length_eq_zero (by omega)
    subst this
    rw [rnGo_nil, rnGo_nil]
  | n + 1, 0, l, _, hm => by
    have : l = [] := List.eq_nil_of_length_eq_zero (by omega)
    subst this
    rw [rnGo_nil, rnGo_nil]
  | n + 1, m + 1, l, hn, hm => by
    unfold rnGo
    by_cases hne : l = []
    · simp [hne]
    · have hw := decodeL_width l
      have hl : 0 < l.length := List.length_pos_iff.2 hne
      rw [if_neg hne, if_neg hne, rnGo_fuel n m (l.drop (decodeL l).2) (by rw [List.length_drop]; omega) (by rw [List.length_drop]; omega)]
theorem rns_nil : rns [] = [] := rfl
theorem rns_step (l : List UInt8) (hne : l ≠ []) : rns l = (decodeL l).1 :: rns (l.drop (decodeL l).2) := by
  have hl : 0 < l.length := List.length_pos_iff.2 hne
  have hw := decodeL_width l
  obtain ⟨n, hn⟩ : ∃ n, l.length = n + 1 := ⟨l.length - 1, by omega⟩
  unfold rns
  rw [hn]
  show (if l = [] then [] else _) = _
  rw [if_neg hne, rnGo_fuel n (l.drop (decodeL l).2).length _ (by rw [List.length_drop]; omega) (Nat.le_refl _)]
/-- From a place of a text on. -/
theorem rns_at (s : ByteArray) (pos : Nat) (h : pos < s.size) : rns (s.data.toList.drop pos) = (Utf8.decode s pos).1 :: rns (s.data.toList.drop (pos + (Utf8.decode s pos).2)) := by
  have hne : s.data.toList.drop pos ≠ [] := by
    intro e
    have := congrArg List.length e
    rw [List.length_drop] at this
    have e2 : s.data.toList.length = s.size := Array.length_toList
    simp at this
    omega
  rw [rns_step _ hne, decodeL_drop, List.drop_drop]
theorem rns_end (s : ByteArray) (pos : Nat) (h : ¬ pos < s.size) : rns (s.data.toList.drop pos) = [] := by
  have e2 : s.data.toList.length = s.size := Array.length_toList
  rw [List.drop_of_length_le (by omega)]
  rfl
theorem rns_len_le : ∀ (n : Nat) (l : List UInt8), (rnGo n l).length ≤ n
  | 0, _ => by simp [rnGo]
  | n + 1, l => by
    unfold rnGo
    split
    · simp
    · have := rns_len_le n (l.drop (decodeL l).2)
      simp; omega
theorem runeCount_rns (s : ByteArray) : runeCount s = (rns s.data.toList).length := by
  have key : ∀ (f pos : Nat), s.size ≤ pos + f → runeCountFrom s f pos = (rns (s.data.toList.drop pos)).length := by
    intro f
    induction f with
    | zero => intro pos h; rw [rns_end s pos (by omega)]; rfl
    | succ f ih =>
      intro pos h
      unfold runeCountFrom
      by_cases hp : pos < s.size
      · have hw := width_pos s pos
        rw [if_pos hp, rns_at s pos hp, ih _ (by omega), List.length_cons]; omega
      · rw [if_neg hp, rns_end s pos hp]; rfl
  have := key s.size 0 (by omega)
  simpa [runeCount] using this

/-- A rune that UTF-8 has. -/
def scal (c : Nat) : Prop := c < 55296 ∨ (57344 ≤ c ∧ c ≤ 1114111)
theorem decodeN_scal (n b0 b1 b2 b3 : Nat) (h0 : b0 < 256) : scal (decodeN n b0 b1 b2 b3).1 := by
  unfold decodeN scal
  repeat' split
  all_goals (simp only; omega)
theorem decodeL_scal (l : List UInt8) : scal (decodeL l).1 := by rw [decodeL_N]; exact decodeN_scal _ _ _ _ _ (UInt8.toNat_lt _)
theorem rnGo_scal : ∀ (n : Nat) (l : List UInt8), ∀ c ∈ rnGo n l, scal c
  | 0, _ => by simp [rnGo]
  | n + 1, l => by
    unfold rnGo
    split
    · simp
    · intro c hc
      rcases List.mem_cons.1 hc with rfl | hc
      · exact decodeL_scal l
      · exact rnGo_scal n _ c hc
theorem rns_scal (l : List UInt8) : ∀ c ∈ rns l, scal c := rnGo_scal _ l

/-- The bytes of a rune. -/
def enc (c : Nat) : List UInt8 := (Utf8.encode c).data.toList
theorem enc1 {c : Nat} (h : c < 128) : enc c = [UInt8.ofNat c] := by
  have hv : Utf8.valid (c : Int) = true := by simp [Utf8.valid]; omega
  simp [enc, Utf8.encode, hv, h]
theorem enc2 {c : Nat} (h : 128 ≤ c) (h2 : c < 2048) : enc c = [UInt8.ofNat (192 + c / 64), UInt8.ofNat (128 + c % 64)] := by
  have hv : Utf8.valid (c : Int) = true := by simp [Utf8.valid]; omega
  have a : ¬ c < 128 := by omega
  simp [enc, Utf8.encode, hv, a, h2]
theorem enc3 {c : Nat} (h : 2048 ≤ c) (h2 : c < 65536) (hs : scal c) : enc c = [UInt8.ofNat (224 + c / 4096), UInt8.ofNat (128 + c / 64 % 64), UInt8.ofNat (128 + c % 64)] := by
  unfold scal at hs
  have hv : Utf8.valid (c : Int) = true := by simp [Utf8.valid]; omega
  have a : ¬ c < 128 := by omega
  have b : ¬ c < 2048 := by omega
  simp [enc, Utf8.encode, hv, a, b, h2]
theorem enc4 {c : Nat} (h : 65536 ≤ c) (hs : scal c) : enc c = [UInt8.ofNat (240 + c / 262144), UInt8.ofNat (128 + c / 4096 % 64), UInt8.ofNat (128 + c / 64 % 64), UInt8.ofNat (128 + c % 64)] := by
  unfold scal at hs
  have hv : Utf8.valid (c : Int) = true := by simp [Utf8.valid]; omega
  have a : ¬ c < 128 := by omega
  have b : ¬ c < 2048 := by omega
  have d : ¬ c < 65536 := by omega
  simp [enc, Utf8.encode, hv, a, b, d]
theorem toNat_of {n : Nat} (h : n < 256) : (UInt8.ofNat n).toNat = n := by simp; omega

set_option maxHeartbeats 1000000 in
/-- What is encoded is decoded, whatever stands behind it. -/
theorem dec_enc (c : Nat) (t : List UInt8) (hs : scal c) : decodeL (enc c ++ t) = (c, (enc c).length) := by
  rw [decodeL_N]
  by_cases h1 : c < 128
  · rw [enc1 h1]
    simp only [List.cons_append, List.nil_append, List.getD_cons_zero, List.length_cons, List.length_nil, toNat_of (show c < 256 by omega)]
    unfold decodeN
    rw [if_pos h1]
  by_cases h2 : c < 2048
  · rw [enc2 (by omega) h2]
    simp only [List.cons_append, List.nil_append, List.getD_cons_zero, List.getD_cons_succ, List.length_cons, List.length_nil, toNat_of (show 192 + c / 64 < 256 by omega), toNat_of (show 128 + c % 64 < 256 by omega)]
    unfold decodeN
    rw [if_neg (by omega), if_pos (by omega), if_pos (by omega)]
    apply Prod.ext <;> simp only <;> omega
  by_cases h3 : c < 65536
  · rw [enc3 (by omega) h3 hs]
    simp only [List.cons_append, List.nil_append, List.getD_cons_zero, List.getD_cons_succ, List.length_cons, List.length_nil, toNat_of (show 224 + c / 4096 < 256 by omega), toNat_of (show 128 + c / 64 % 64 < 256 by omega), toNat_of (show 128 + c % 64 < 256 by omega)]
    unfold scal at hs
    unfold decodeN
    rw [if_neg (by omega), if_neg (by omega), if_pos (by omega), if_pos (by omega)]
    apply Prod.ext <;> simp only <;> omega
  · rw [enc4 (by omega) hs]
    unfold scal at hs
    simp only [List.cons_append, List.nil_append, List.getD_cons_zero, List.getD_cons_succ, List.length_cons, List.length_nil, toNat_of (show 240 + c / 262144 < 256 by omega), toNat_of (show 128 + c / 4096 % 64 < 256 by omega), toNat_of (show 128 + c / 64 % 64 < 256 by omega), toNat_of (show 128 + c % 64 < 256 by omega)]
    unfold decodeN
    rw [if_neg (by omega), if_neg (by omega), if_neg (by omega), if_pos (by omega), if_pos (by omega)]
    apply Prod.ext <;> simp only <;> omega
theorem enc_len (c : Nat) : 1 ≤ (enc c).length := by
  unfold enc Utf8.encode
  simp only
  repeat' split
  all_goals simp
theorem enc_len4 (c : Nat) : (enc c).length ≤ 4 := by
  unfold enc Utf8.encode
  simp only
  repeat' split
  all_goals simp
theorem enc_err (c : Nat) (h : c = 65533) : (enc c).length = 3 := by subst h; decide +kernel

theorem rns_enc : ∀ cs : List Nat, (∀ c ∈ cs, scal c) → rns (cs.flatMap enc) = cs ∧ validD (cs.flatMap enc) = true
  | [], _ => ⟨rfl, rfl⟩
  | c :: cs, h => by
    obtain ⟨i1, i2⟩ := rns_enc cs (fun x hx => h x (List.mem_cons_of_mem _ hx))
    have hl := enc_len c
    have hne : enc c ++ cs.flatMap enc ≠ [] := by
      intro e
      have := congrArg List.length e
      simp at this
      rw [this.1] at hl
      simp at hl
    have hd := dec_enc c (cs.flatMap enc) (h c (by simp))
    rw [List.flatMap_cons]
    constructor
    · rw [rns_step _ hne, hd]
      simp [i1]
    · rw [validD_step _ hne, hd, if_neg]
      · simp [i2]
      · rintro ⟨e1, e2⟩
        have := enc_err c e1
        simp at e2
        omega
theorem enc_rns : ∀ (n : Nat) (l : List UInt8), l.length ≤ n → validD l = true → (rns l).flatMap enc = l
  | 0, l, hn, _ => by
    have : l = [] := List.eq_nil_of_length_eq_zero (by omega)
    subst this
    rfl
  | n + 1, l, hn, hv => by
    by_cases hne : l = []
    · subst hne; rfl
    have hl : 0 < l.length := List.length_pos_iff.2 hne
    have hw := decodeL_width l
    rw [validD_step l hne] at hv
    split at hv
    · cases hv
    · rename_i hc
      rw [rns_step l hne, List.flatMap_cons, enc_rns n _ (by rw [List.length_drop]; omega) hv]
      have he := encode_decode l hne hc
      have e3 : enc (decodeL l).1 = l.take (decodeL l).2 := by
        rw [← he]
        have hs := decodeL_scal l
        generalize (decodeL l).1 = c at hs
        by_cases h1 : c < 128
        · rw [enc1 h1, encodeRune, encodeRuneZ_one (by omega) (by omega)]; simp
        by_cases h2 : c < 2048
        · rw [enc2 (by omega) h2, encodeRune, encodeRuneZ_two (by omega) (by omega)]
          simp only [List.map_cons, List.map_nil]
          congr 1
        by_cases h3 : c < 65536
        · rw [enc3 (by omega) h3 hs, encodeRune, encodeRuneZ_three (by unfold scal at hs; omega)]
          simp only [List.map_cons, List.map_nil]
          congr 1
        · rw [enc4 (by omega) hs, encodeRune, encodeRuneZ_four (by omega) (by unfold scal at hs; omega)]
          simp only [List.map_cons, List.map_nil]
          congr 1
      rw [e3, List.take_append_drop]

/-! ### letters -/
def letterN (c : Nat) : Bool := decide ((65 ≤ c ∧ c ≤ 90) ∨ (97 ≤ c ∧ c ≤ 122) ∨ (192 ≤ c ∧ c ≤ 591 ∧ c ≠ 215 ∧ c ≠ 247) ∨ (913 ≤ c ∧ c ≤ 937 ∧ c ≠ 930) ∨ (945 ≤ c ∧ c ≤ 969) ∨ (1040 ≤ c ∧ c ≤ 1103) ∨ (19968 ≤ c ∧ c ≤ 40959))
def bigN (c : Nat) : Bool := decide ((65 ≤ c ∧ c ≤ 90) ∨ (192 ≤ c ∧ c ≤ 222 ∧ c ≠ 215) ∨ (913 ≤ c ∧ c ≤ 937 ∧ c ≠ 930) ∨ (1040 ≤ c ∧ c ≤ 1071))
def smallN (c : Nat) : Nat := if bigN c then c + 32 else c
theorem smallN_scal {c : Nat} (h : scal c) : scal (smallN c) := by
  unfold smallN
  split
  · rename_i hb
    simp only [bigN, decide_eq_true_eq] at hb
    unfold scal
    omega
  · exact h
theorem smallN_idem (c : Nat) : smallN (smallN c) = smallN c := by
  by_cases hb : bigN c = true
  · have hb2 : bigN (c + 32) = false := by
      simp only [bigN, decide_eq_true_eq] at hb
      simp only [bigN, decide_eq_false_iff_not]
      omega
    simp [smallN, hb, hb2]
  · simp [smallN, hb]
def beginsN (c : Nat) : Bool := c == 95 || letterN c
theorem beginsN_small (c : Nat) : beginsN (smallN c) = beginsN c := by
  by_cases hb : bigN c = true
  · simp only [smallN, hb, if_true]
    simp only [bigN, decide_eq_true_eq] at hb
    have h1 : letterN c = true := by simp only [letterN, decide_eq_true_eq]; omega
    have h2 : letterN (c + 32) = true := by simp only [letterN, decide_eq_true_eq]; omega
    simp [beginsN, h1, h2]
  · simp [smallN, hb]

/-- What Check answers, from some parts and runes on. -/
def chk : Nat → Nat → Bool → List Nat → Int
  | p, r, f, [] => if f then 3 else if 5 < p ∨ 40 < r then 2 else 0
  | p, r, f, c :: cs => if beginsN c then chk p (r + 1) false cs else if f then 3 else if c = 46 then chk (p + 1) (r + 1) true cs else if c ≠ 45 ∧ ¬ (48 ≤ c ∧ c ≤ 57) then 3 else chk p (r + 1) f cs
def checkL (l : List UInt8) : Int := chk 1 0 true (rns l)
theorem chk_small : ∀ (cs : List Nat) (p r : Nat) (f : Bool), chk p r f (cs.map smallN) = chk p r f cs
  | [], _, _, _ => rfl
  | c :: cs, p, r, f => by
    simp only [List.map_cons, chk, beginsN_small, chk_small cs]
    by_cases hb : beginsN c = true
    · simp [hb]
    · have hn : smallN c = c := by
        by_cases h : bigN c = true
        · exfalso
          apply hb
          simp only [bigN, decide_eq_true_eq] at h
          have h1 : letterN c = true := by simp only [letterN, decide_eq_true_eq]; omega
          simp [beginsN, h1]
        · simp [smallN, h]
      rw [hn]

/-- What Fold answers. -/
def foldL (l : List UInt8) : List UInt8 := if validD l = true then ((rns l).map smallN).flatMap enc else l
theorem foldL_valid (l : List UInt8) : validD (foldL l) = validD l := by
  unfold foldL
  by_cases h : validD l = true
  · rw [if_pos h, h]
    exact (rns_enc _ (by intro c hc; obtain ⟨x, hx, rfl⟩ := List.mem_map.1 hc; exact smallN_scal (rns_scal l x hx))).2
  · rw [if_neg h]
theorem foldL_rns {l : List UInt8} (h : validD l = true) : rns (foldL l) = (rns l).map smallN := by
  unfold foldL
  rw [if_pos h]
  exact (rns_enc _ (by intro c hc; obtain ⟨x, hx, rfl⟩ := List.mem_map.1 hc; exact smallN_scal (rns_scal l x hx))).1
theorem foldL_idem (l : List UInt8) : foldL (foldL l) = foldL l := by
  by_cases h : validD l = true
  · have hv := foldL_valid l
    rw [h] at hv
    have e : foldL (foldL l) = ((rns (foldL l)).map smallN).flatMap enc := by rw [foldL, if_pos hv]
    rw [e, foldL_rns h, List.map_map]
    have e2 : (smallN ∘ smallN) = smallN := funext smallN_idem
    rw [e2, foldL, if_pos h]
  · have e : foldL l = l := if_neg h
    rw [e, e]
theorem foldL_check (l : List UInt8) : checkL (foldL l) = checkL l := by
  by_cases h : validD l = true
  · unfold checkL
    rw [foldL_rns h, chk_small]
  · rw [show foldL l = l from if_neg h]
theorem foldL_count (l : List UInt8) : (rns (foldL l)).length = (rns l).length := by
  by_cases h : validD l = true
  · rw [foldL_rns h, List.length_map]
  · rw [show foldL l = l from if_neg h]
theorem flat_len : ∀ cs : List Nat, (cs.flatMap enc).length ≤ 4 * cs.length
  | [] => by simp
  | c :: cs => by
    have := flat_len cs
    have := enc_len4 c
    simp only [List.flatMap_cons, List.length_append, List.length_cons]
    omega
theorem foldL_len (l : List UInt8) : (foldL l).length ≤ 4 * l.length := by
  unfold foldL
  split
  · have h1 := flat_len ((rns l).map smallN)
    have h2 := rns_len_le l.length l
    rw [List.length_map] at h1
    have : (rns l).length ≤ l.length := h2
    omega
  · omega

/-- FNV-1a. -/
def hashL (l : List UInt8) : Nat := l.foldl (fun h b => ((h ^^^ b.toNat) * 1099511628211) % 18446744073709551616) 14695981039346656037
end Go.Proofs.YtmnmjphgpblbhaaDoor
/- Nodes, their points, the ring, a key's heirs: plain, of no program. -/
namespace Go.Proofs.YtmnmjphgpblbhaaDoor
open Go.Lib
set_option maxRecDepth 100000

/-- The digits of a node's number. -/
def nt (n : Nat) : List UInt8 := if n < 10 then [UInt8.ofNat (48 + n)] else [49, UInt8.ofNat (38 + n)]
/-- A node's point. -/
def pt (n : Nat) : Nat := hashL (110 :: 111 :: 100 :: 101 :: 32 :: nt n)
/-- All nodes, by their points. -/
def R15 : List Nat := [12, 13, 10, 11, 14, 15, 7, 6, 5, 4, 3, 2, 1, 9, 8]
theorem R15_sorted : R15.Pairwise (fun a b => pt a < pt b) := by decide +kernel
theorem R15_nodup : R15.Nodup := by decide
theorem pt_lt (n : Nat) : pt n < 18446744073709551616 := by
  unfold pt hashL
  generalize 110 :: 111 :: 100 :: 101 :: 32 :: nt n = l
  have : ∀ (l : List UInt8) (h : Nat), h < 18446744073709551616 → l.foldl (fun h b => ((h ^^^ b.toNat) * 1099511628211) % 18446744073709551616) h < 18446744073709551616 := by
    intro l
    induction l with
    | nil => intro h hh; exact hh
    | cons b l ih => intro h _; exact ih _ (Nat.mod_lt _ (by decide))
  exact this l _ (by decide)
theorem R15_mem {n : Nat} : n ∈ R15 ↔ 1 ≤ n ∧ n ≤ 15 := by
  constructor
  · intro h
    have : ∀ m ∈ R15, 1 ≤ m ∧ m ≤ 15 := by decide
    exact this n h
  · intro h
    have : ∀ m : Fin 16, 1 ≤ m.val → m.val ∈ R15 := by decide
    exact this ⟨n, by omega⟩ h.1
/-- May numbers be nodes? -/
def NodesP (l : List Int) : Prop := ∀ (k : Nat) (h : k < l.length), 1 ≤ l[k] ∧ l[k] ≤ 15 ∧ ∀ (j : Nat) (e : j + 1 = k), l[j]'(by omega) < l[k]
open Classical in
noncomputable def nodesB (l : List Int) : Bool := decide (NodesP l)
open Classical in
theorem nodesB_true {l : List Int} (h : NodesP l) : nodesB l = true := by unfold nodesB; exact decide_eq_true h
open Classical in
theorem nodesB_false {l : List Int} (h : ¬ NodesP l) : nodesB l = false := by unfold nodesB; exact decide_eq_false h
/-- A node where it stands. -/
def st (n : Nat) : Int × Int := ((n : Int), (pt n : Int))
/-- The ring of nodes. -/
noncomputable def rgL (l : List Int) : List Nat := if nodesB l = true then R15.filter (fun (n : Nat) => decide ((n : Int) ∈ l)) else []
theorem rgL_of {l : List Int} (h : NodesP l) : rgL l = R15.filter (fun (n : Nat) => decide ((n : Int) ∈ l)) := if_pos (nodesB_true h)
theorem rgL_not {l : List Int} (h : ¬ NodesP l) : rgL l = [] := if_neg (by rw [nodesB_false h]; decide)
theorem rgL_sorted (l : List Int) : (rgL l).Pairwise (fun a b => pt a < pt b) := by
  unfold rgL
  split
  · exact R15_sorted.filter _
  · exact .nil
theorem rgL_nodup (l : List Int) : (rgL l).Nodup := by
  unfold rgL
  split
  · exact R15_nodup.filter _
  · exact .nil
theorem rgL_node {l : List Int} {n : Nat} (h : n ∈ rgL l) : 1 ≤ n ∧ n ≤ 15 := by
  unfold rgL at h
  split at h
  · exact R15_mem.1 (List.mem_filter.1 h).1
  · cases h
theorem nodes_rise {l : List Int} (h : NodesP l) : ∀ (k i : Nat) (hk : k < l.length) (hi : i < k), l[i]'(by omega) < l[k]
  | 0, _, _, hi => absurd hi (Nat.not_lt_zero _)
  | k + 1, i, hk, hi => by
    have h1 := (h (k + 1) hk).2.2 k rfl
    by_cases e : i = k
    · subst e; exact h1
    · have := nodes_rise h k i (by omega) (by omega)
      omega
theorem nodes_nodup {l : List Int} (h : NodesP l) : l.Nodup := by
  rw [List.nodup_iff_pairwise_ne, List.pairwise_iff_getElem]
  intro i j hi hj hij e
  have := nodes_rise h j i hj hij
  omega
theorem nodes_mem {l : List Int} (h : NodesP l) {x : Int} (hx : x ∈ l) : 1 ≤ x ∧ x ≤ 15 := by
  obtain ⟨k, hk, rfl⟩ := List.mem_iff_getElem.1 hx
  exact ⟨(h k hk).1, (h k hk).2.1⟩
theorem rgL_mem {l : List Int} (h : NodesP l) {x : Int} : x ∈ (rgL l).map (fun (n : Nat) => (n : Int)) ↔ x ∈ l := by
  rw [rgL_of h]
  constructor
  · intro hx
    obtain ⟨n, hn, rfl⟩ := List.mem_map.1 hx
    simpa using (List.mem_filter.1 hn).2
  · intro hx
    have := nodes_mem h hx
    refine List.mem_map.2 ⟨x.toNat, List.mem_filter.2 ⟨R15_mem.2 (by omega), ?_⟩, by omega⟩
    rw [show ((x.toNat : Nat) : Int) = x by omega]
    simpa using hx
theorem map_cast_nodup {r : List Nat} (h : r.Nodup) : (r.map (fun (n : Nat) => (n : Int))).Nodup := by
  rw [List.nodup_iff_pairwise_ne] at *
  rw [List.pairwise_map]
  exact h.imp fun hne e => hne (by omega)
theorem rgL_perm {l : List Int} (h : NodesP l) : ((rgL l).map (fun (n : Nat) => (n : Int))).Perm l :=
  (List.perm_ext_iff_of_nodup (map_cast_nodup (rgL_nodup l)) (nodes_nodup h)).2 fun _ => rgL_mem h
theorem rgL_len {l : List Int} (h : NodesP l) : (rgL l).length = l.length := by
  have := (rgL_perm h).length_eq
  simpa using this
/-- How two that stand on the ring stand to one another. -/
def cfS (x y : Int × Int) : Int := if x.2 < y.2 then -1 else if y.2 < x.2 then 1 else if x.1 < y.1 then -1 else if y.1 < x.1 then 1 else 0
/-- What is sorted by the points is the ring. -/
theorem sorted_ring {l : List Int} (h : NodesP l) {D : List (Int × Int)} (hp : D.Perm (l.map fun x => (x, (pt x.toNat : Int)))) (hs : D.Pairwise fun a b => ¬ cfS b a < 0) : D = (rgL l).map st := by
  have hp2 : D.Perm ((rgL l).map st) := by
    refine hp.trans ?_
    have := ((rgL_perm h).symm).map (fun x : Int => (x, (pt x.toNat : Int)))
    rw [List.map_map] at this
    exact this
  refine List.Perm.eq_of_pairwise (le := fun a b => ¬ cfS b a < 0) ?_ hs ?_ hp2
  · intro a b _ _ h1 h2
    obtain ⟨a1, a2⟩ := a
    obtain ⟨b1, b2⟩ := b
    unfold cfS at h1 h2
    simp only at h1 h2
    rw [Prod.mk.injEq]
    split at h1 <;> split at h2 <;> simp_all <;> omega
  · rw [List.pairwise_map]
    refine (rgL_sorted l).imp ?_
    intro a b hab
    unfold cfS st
    simp only
    rw [if_neg (by omega), if_pos (by omega)]
    decide
/-- A key's heirs. -/
def hsL (key : Nat) (r : List Nat) : List Nat := r.filter (fun n => decide (key ≤ pt n)) ++ r.filter (fun n => decide (pt n < key))
/-- The place of a key's owner. -/
def owI (key : Nat) (r : List Nat) : Nat := if r.any (fun n => decide (key ≤ pt n)) = true then (r.filter (fun n => decide (pt n < key))).length else 0
theorem ring_split (key : Nat) : ∀ (r : List Nat), r.Pairwise (fun a b => pt a < pt b) → r = r.filter (fun n => decide (pt n < key)) ++ r.filter (fun n => decide (key ≤ pt n))
  | [], _ => rfl
  | a :: r, h => by
    have ih := ring_split key r (List.Pairwise.of_cons h)
    have ha : ∀ b ∈ r, pt a < pt b := fun b hb => List.rel_of_pairwise_cons h hb
    by_cases hk : pt a < key
    · rw [List.filter_cons_of_pos (by simpa using hk), List.filter_cons_of_neg (by simp; omega), List.cons_append, ← ih]
    · have e1 : r.filter (fun n => decide (pt n < key)) = [] := by
        rw [List.filter_eq_nil_iff]
        intro b hb
        have := ha b hb
        simp
        omega
      rw [List.filter_cons_of_neg (by simpa using hk), List.filter_cons_of_pos (by simp; omega), e1, List.nil_append]
      rw [e1, List.nil_append] at ih
      rw [← ih]
theorem hsL_len (key : Nat) (r : List Nat) (h : r.Pairwise (fun a b => pt a < pt b)) : (hsL key r).length = r.length := by
  have := congrArg List.length (ring_split key r h)
  unfold hsL
  rw [List.length_append] at *
  omega
theorem any_of {key : Nat} {r : List Nat} : r.any (fun n => decide (key ≤ pt n)) = true ↔ r.filter (fun n => decide (key ≤ pt n)) ≠ [] := by
  rw [List.any_eq_true, Ne, List.filter_eq_nil_iff]
  constructor
  · rintro ⟨x, hx, h⟩ hn
    exact hn x hx h
  · intro hn
    apply Classical.byContradiction
    intro hh
    exact hn fun a ha hk => hh ⟨a, ha, hk⟩
theorem owI_lt (key : Nat) (r : List Nat) (h : r.Pairwise (fun a b => pt a < pt b)) (h0 : 0 < r.length) : owI key r < r.length := by
  unfold owI
  split
  · rename_i ha
    have h1 := List.length_pos_iff.2 (any_of.1 ha)
    have := congrArg List.length (ring_split key r h)
    rw [List.length_append] at this
    omega
  · exact h0
/-- From the owner on, round the ring, the heirs stand. -/
theorem heir_at (key : Nat) (r : List Nat) (h : r.Pairwise (fun a b => pt a < pt b)) (i : Nat) (hi : i < r.length) : r[(owI key r + i) % r.length]? = (hsL key r)[i]? := by
  have hsp := ring_split key r h
  unfold owI hsL
  generalize hA : r.filter (fun n => decide (pt n < key)) = A at *
  generalize hB : r.filter (fun n => decide (key ≤ pt n)) = B at *
  have hl : r.length = A.length + B.length := by rw [hsp, List.length_append]
  split
  · by_cases hb : i < B.length
    · rw [Nat.mod_eq_of_lt (by omega), List.getElem?_append_left hb]
      conv => lhs; rw [hsp]
      rw [List.getElem?_append_right (by omega)]
      congr 1
      omega
    · have e : (A.length + i) % r.length = i - B.length := by
        rw [Nat.mod_eq_sub_mod (by omega), Nat.mod_eq_of_lt (by omega)]
        omega
      rw [e, List.getElem?_append_right (by omega)]
      conv => lhs; rw [hsp]
      rw [List.getElem?_append_left (by omega)]
  · rename_i ha
    have hB0 : B = [] := by
      apply Classical.byContradiction
      intro hn
      exact ha (any_of.2 (by rw [hB]; exact hn))
    subst hB0
    rw [Nat.zero_add, Nat.mod_eq_of_lt hi, List.nil_append]
    conv => lhs; rw [hsp]
    rw [List.append_nil]
theorem owner_at (key : Nat) (r : List Nat) (h : r.Pairwise (fun a b => pt a < pt b)) (h0 : 0 < r.length) : r[owI key r]? = (hsL key r)[0]? := by
  have := heir_at key r h 0 h0
  rwa [Nat.add_zero, Nat.mod_eq_of_lt (owI_lt key r h h0)] at this
theorem hsL_perm (key : Nat) (r : List Nat) (h : r.Pairwise (fun a b => pt a < pt b)) : (hsL key r).Perm r := by
  have := ring_split key r h
  conv => rhs; rw [this]
  unfold hsL
  exact List.perm_append_comm
/-- What slices.IndexFunc finds. -/
theorem idx_owner (key : Nat) (r : List Nat) (h : r.Pairwise (fun a b => pt a < pt b)) : max (idxBy (fun _ (y : Int × Int) => decide ((key : Int) ≤ y.2)) (r.map st) default) 0 = (owI key r : Int) := by
  have hsp := ring_split key r h
  unfold owI
  generalize hA : r.filter (fun n => decide (pt n < key)) = A at *
  generalize hB : r.filter (fun n => decide (key ≤ pt n)) = B at *
  have hAm : ∀ a ∈ A, pt a < key := fun a ha => by
    rw [← hA] at ha
    simpa using (List.mem_filter.1 ha).2
  have hBm : ∀ a ∈ B, key ≤ pt a := fun a ha => by
    rw [← hB] at ha
    simpa using (List.mem_filter.1 ha).2
  have gen : ∀ (A : List Nat) (i : Nat), (∀ a ∈ A, pt a < key) → idxByFrom (fun _ (y : Int × Int) => decide ((key : Int) ≤ y.2)) default ((A ++ B).map st) i = if B = [] then -1 else ((i + A.length : Nat) : Int) := by
    intro A
    induction A with
    | nil =>
      intro i _
      cases B with
      | nil => rfl
      | cons b B =>
        have := hBm b (by simp)
        rw [List.nil_append, List.map_cons, idxByFrom, if_pos (by simp [st]; omega), if_neg (by simp)]
        simp
    | cons a A ih =>
      intro i hh
      have := hh a (by simp)
      rw [List.cons_append, List.map_cons, idxByFrom, if_neg (by simp [st]; omega), ih (i + 1) (fun b hb => hh b (List.mem_cons_of_mem _ hb))]
      split
      · rfl
      · rw [List.length_cons]; congr 1; omega
  unfold idxBy
  conv => lhs; rw [hsp]
  rw [gen A 0 hAm]
  by_cases hB0 : B = []
  · rw [if_pos hB0, if_neg (fun ha => any_of.1 ha (hB.trans hB0))]
    rfl
  · rw [if_neg hB0, if_pos (any_of.2 (fun e => hB0 (hB.symm.trans e)))]
    omega
end Go.Proofs.YtmnmjphgpblbhaaDoor
/- Small laws of our own, over whatever program: an append of one element onto a row that the call owns; a row that is owned, read as cells. -/
namespace Go.Proofs.YtmnmjphgpblbhaaDoor
open Go.RowKit

theorem ret_int {k : IntKind} {a b : Int} (h : a = b) : Ending.returned (.int k a) = .returned (.int k b) := by rw [h]
theorem ret_str {xs ys : List Int} (h : xs = ys) : Ending.returned (.string (strOfNums xs)) = .returned (.string (strOfNums ys)) := by rw [h]

theorem wpl_app {P : Program} (wr : World) {ops : Array Oper} {rest : List Oper} {o : Oper} {a : Act} {Q : Exit → Act → World → Prop} (hgd : o.guard = none) (s x : Operand) (t e : TypeId)
    (ho : o.op = .call { callee := .builtin .append, args := #[s, x], argTypes := #[t, t] })
    (i : TypeInfo) (z : Value) (bytes : Nat) (ht : P.underlying t = some (.slice e)) (hi : P.info? e = some i) (hz : i.zero = some z)
    (hsize : i.size = 1) (hby : i.bytes = bytes) (hzs : z.cells.size = 1)
    (base : Nat) (v : Value) (n : Nat) (xs : List Value) (hs : a.eval s = v) (hown : wr.ownsRow base e 1 v n xs)
    (el : Value) (hx : a.eval x = .slice (some ⟨wr.heap.size, 0, none⟩) 1 1) (h1 : el.oneCell' = true)
    (hbytes : (n + 1) * bytes ≤ 140737488355328) (h63 : n + 1 ≤ maxLen) (hbase : base ≤ wr.heap.size)
    (h : ∀ v' w', w'.ownsRow base e 1 v' (n + 1) (xs ++ [el]) → Below base wr w' → v' ≠ .slice none 0 0 → wpList P ops Q rest (a.put o.dst v') w') :
    wpList P ops Q (o :: rest) a (wr.alloc (.cells #[el] e)) := by
  refine wpList_append_own _ hgd s x t ho base e i z 1 bytes ht hi hz hsize hby hzs (by omega) v n xs hs (hown.alloc _) ⟨wr.heap.size, 0, none⟩ 1 1 [el] hx rfl ?_ ?_ h63 hbytes ?_ ?_
  · intro j u hj
    match j, hj with
    | 0, hj => simp at hj; subst hj; simp [Addr.add]
  · intro u hu; simp at hu; subst hu; exact h1
  · simp; omega
  · intro v' w' h2 h3 h4
    refine h v' w' h2 ?_ (fun e => by have := (h4.1 e).2; omega)
    exact ((Below.refl _ _).alloc hbase _).grown h3 (by simp; omega) (fun k hk => (hown.lt k hk).1)

/-- An owned row of bytes that is not empty, laid open. -/
theorem own_open {w : World} {base : Nat} {e : TypeId} {v : Value} {n : Nat} {xs : List Value} (h : w.ownsRow base e 1 v n xs) (hn : 0 < n) :
    ∃ g cap, v = .slice (some ⟨g, 0, none⟩) n cap ∧ base ≤ g ∧ n ≤ cap ∧ cap ≤ maxLen ∧ xs.length = n ∧ (∀ j u, xs[j]? = some u → w.cell? ⟨g, j, none⟩ = some u) ∧ (∀ j, w.frozen? ⟨g, j, none⟩ = false) := by
  obtain ⟨h1, h2⟩ := h
  rcases h2 with ⟨_, h0⟩ | ⟨g, cap, cur, rfl, hb, hg, hc, hm, hs, ht⟩
  · omega
  · refine ⟨g, cap, rfl, hb, hc, hm, by omega, ?_, ?_⟩
    · intro j u hu
      rw [cell_of_row w g j cur e (0, 0) hg]
      rw [← ht, List.getElem?_take] at hu
      split at hu
      · simpa using hu
      · cases hu
    · intro j
      simp [World.frozen?, hg]

end Go.Proofs.YtmnmjphgpblbhaaDoor
/- name.within, Letter, Small, begins, Hash: walks. -/
namespace Go.Proofs.YtmnmjphgpblbhaaDoor
open Go.RowKit

def inR (c lo hi : Int) : Bool := decide (lo ≤ c ∧ c ≤ hi)
theorem within_any (c lo hi : Int) (w : World) :
    Calls Tryd.prog 89 #[.int .i32 c, .int .i32 lo, .int .i32 hi] w fun e w' => e = .returned (.bool (inR c lo hi)) ∧ w' = w := by
  go_enter Tryd.func89, Tryd.ntmps89
  by_cases h1 : lo ≤ c
  · have hd : decide (lo ≤ c) = true := by simpa using h1
    go_wp2
    go_ret
    refine ⟨?_, rfl⟩
    simp [inR, h1]
  · have hd : decide (lo ≤ c) = false := by simpa using h1
    go_wp2
    go_ret
    refine ⟨?_, rfl⟩
    have : inR c lo hi = false := by simp only [inR, decide_eq_false_iff_not]; omega
    rw [this]
    rfl

def letterZ (c : Int) : Bool := decide ((65 ≤ c ∧ c ≤ 90) ∨ (97 ≤ c ∧ c ≤ 122) ∨ (192 ≤ c ∧ c ≤ 591 ∧ c ≠ 215 ∧ c ≠ 247) ∨ (913 ≤ c ∧ c ≤ 937 ∧ c ≠ 930) ∨ (945 ≤ c ∧ c ≤ 969) ∨ (1040 ≤ c ∧ c ≤ 1103) ∨ (19968 ≤ c ∧ c ≤ 40959))
def bigZ (c : Int) : Bool := decide ((65 ≤ c ∧ c ≤ 90) ∨ (192 ≤ c ∧ c ≤ 222 ∧ c ≠ 215) ∨ (913 ≤ c ∧ c ≤ 937 ∧ c ≠ 930) ∨ (1040 ≤ c ∧ c ≤ 1071))
def smallZ (c : Int) : Int := if bigZ c then c + 32 else c

set_option maxHeartbeats 1000000 in
theorem small_any (c : Int) (w : World) (h1 : -2147483648 ≤ c) (h2 : c ≤ 2147483647) :
    Calls Tryd.prog 79 #[.int .i32 c] w fun e w' => e = .returned (.int .i32 (smallZ c)) ∧ w' = w := by
  by_cases hb : bigZ c = true
  · have hs : smallZ c = c + 32 := if_pos hb
    have hc1 : (65 : Int) ≤ c := by simp only [bigZ, decide_eq_true_eq] at hb; omega
    have hc2 : c ≤ (1071 : Int) := by simp only [bigZ, decide_eq_true_eq] at hb; omega
    have HB : Hid (bigZ c = true) := hb
    clear hb
    rw [hs]
    go_enter Tryd.func79, Tryd.ntmps79
    go_wp2_with (go_at_call 89; refine (within_any _ _ _ _).mono ?_; rintro e w' ⟨rfl, rfl⟩)
    all_goals go_ret
    all_goals refine ⟨?_, rfl⟩
    all_goals first
      | rfl
      | (exfalso; have hb := HB.out; simp only [bigZ, inR, decide_eq_true_eq, decide_eq_false_iff_not, beq_iff_eq, beq_eq_false_iff_ne, ne_eq] at *; omega)
  · have hs : smallZ c = c := if_neg hb
    have HB : Hid (¬ bigZ c = true) := hb
    clear hb
    rw [hs]
    go_enter Tryd.func79, Tryd.ntmps79
    go_wp2_with (go_at_call 89; refine (within_any _ _ _ _).mono ?_; rintro e w' ⟨rfl, rfl⟩)
    all_goals go_ret
    all_goals refine ⟨?_, rfl⟩
    all_goals first
      | rfl
      | (exfalso; have hb := HB.out; simp only [bigZ, inR, decide_eq_true_eq, decide_eq_false_iff_not, beq_eq_false_iff_ne, ne_eq] at *; omega)

def beginsZ (c : Int) : Bool := c == 95 || letterZ c
theorem letterZ_nat (c : Nat) : letterZ (c : Int) = letterN c := by
  rw [Bool.eq_iff_iff]; simp only [letterZ, letterN, decide_eq_true_eq]; omega
theorem bigZ_nat (c : Nat) : bigZ (c : Int) = bigN c := by
  rw [Bool.eq_iff_iff]; simp only [bigZ, bigN, decide_eq_true_eq]; omega
theorem smallZ_nat (c : Nat) : smallZ (c : Int) = (smallN c : Nat) := by
  unfold smallZ smallN
  rw [bigZ_nat]
  split <;> simp
theorem beginsZ_nat (c : Nat) : beginsZ (c : Int) = beginsN c := by
  unfold beginsZ beginsN
  rw [letterZ_nat]
  congr 1
  rw [Bool.eq_iff_iff]; simp only [beq_iff_eq]; omega
end Go.Proofs.YtmnmjphgpblbhaaDoor
/- name.Check and name.Hash: walks, at every text. -/
namespace Go.Proofs.YtmnmjphgpblbhaaDoor
open Go.RowKit

/-- What holds of Check's loop at every round. -/
def CkRel (s : ByteArray) (w : World) (p r f : Value) (wr : World) : Prop :=
  ∃ (pos P R : Nat) (F : Bool), p = .int .i64 P ∧ r = .int .i64 R ∧ f = .bool F ∧ wr.heap[w.heap.size]? = some (.stringIter s pos) ∧ Below w.heap.size w wr ∧ chk P R F (rns (s.data.toList.drop pos)) = checkL s.data.toList ∧ P ≤ pos + 1 ∧ R ≤ pos

/-- One step of the hash. -/
def hstep (h : Nat) (b : UInt8) : Nat := ((h ^^^ b.toNat) * 1099511628211) % 18446744073709551616
theorem hashL_eq (l : List UInt8) : hashL l = l.foldl hstep 14695981039346656037 := rfl
theorem hstep_lt (h : Nat) (b : UInt8) : hstep h b < 18446744073709551616 := Nat.mod_lt _ (by decide)
theorem hfold_lt (l : List UInt8) : ∀ h, h < 18446744073709551616 → l.foldl hstep h < 18446744073709551616 := by
  induction l with
  | nil => intro h hh; exact hh
  | cons b l ih => intro h _; exact ih _ (hstep_lt h b)

theorem hfold_lt' {H k : Nat} {s : ByteArray} (h : Hid (H = (s.data.toList.take k).foldl hstep 14695981039346656037)) : H < 18446744073709551616 := by rw [h.out]; exact hfold_lt _ _ (by decide)
theorem hash_step (H : Nat) (b : UInt8) (hH : H < 18446744073709551616) : IntKind.u64.wrap (bits .xor .u64 (H : Int) (IntKind.u64.wrap (b.toNat : Int)) * 1099511628211) = ((hstep H b : Nat) : Int) := by
  have hb := b.toNat_lt
  rw [IntWalk.u64_in (b.toNat : Int) (by omega), bits_xor_u64_nat H b.toNat hH (by omega), IntKind.wrap_u64]
  unfold hstep
  omega
theorem take_byte (s : ByteArray) (k : Nat) (h : k < s.size) : s.data.toList.take (k + 1) = s.data.toList.take k ++ [s[k]] := by
  rw [List.take_succ_eq_append_getElem (show k < s.data.toList.length by rw [Array.length_toList]; exact h)]
  rfl
theorem take_bytes (s : ByteArray) : s.data.toList.take s.size = s.data.toList := List.take_of_length_le (by rw [Array.length_toList]; exact Nat.le_refl _)

set_option maxRecDepth 100000 in
set_option maxHeartbeats 2000000 in
theorem hash_any (s : ByteArray) (w : World) (hs : s.size ≤ 140737488355328) :
    Calls Tryd.prog 40 #[.string s] w fun e w' => e = .returned (.int .u64 (hashL s.data.toList)) ∧ w' = w := by
  go_enter Tryd.func40, Tryd.ntmps40
  go_wp2
  go_loopw [3, 7] (fun h i wr => ∃ (k H : Nat), k ≤ s.size ∧ h = .int .u64 H ∧ i = .int .i64 k ∧ Hid (H = (s.data.toList.take k).foldl hstep 14695981039346656037) ∧ wr = w) (fun _ i _ => s.size - (intOf i).toNat)
  case atStart => exact ⟨0, 14695981039346656037, Nat.zero_le _, by simp, rfl, by show _ = _; simp, rfl⟩
  case round =>
    obtain ⟨k, H, hk, rfl, rfl, hH, rfl⟩ := hrel
    by_cases hlt : k < s.size
    · have hi : (k : Int) < s.size := by omega
      have hst := hash_step H s[k] (hfold_lt' hH)
      have HN : Hid (hstep H s[k] = (s.data.toList.take (k + 1)).foldl hstep 14695981039346656037) := by
        show _ = _
        rw [take_byte s k hlt, List.foldl_append, ← hH.out, List.foldl_cons, List.foldl_nil]
      go_wp2
      go_roundw
      case rel => exact ⟨k + 1, hstep H s[k], by omega, rfl, by go_num, HN, trivial⟩
      case measure => simp [intOf]; omega
    · have hk' : k = s.size := by omega
      subst hk'
      go_wp2
      go_ret
      refine ⟨?_, rfl⟩
      have e := hH.out
      rw [take_bytes] at e
      rw [hashL_eq, ← e]
      rfl
end Go.Proofs.YtmnmjphgpblbhaaDoor
/- Small laws of our own, over whatever program, more of them. -/
namespace Go.Proofs.YtmnmjphgpblbhaaDoor
open Go.RowKit
theorem bcell {B : Nat} {W w1 : World} (hb : Below B W w1) : (∀ b o, b < B → w1.cell? ⟨b, o, none⟩ = W.cell? ⟨b, o, none⟩) ∧ (∀ b o, b < B → w1.frozen? ⟨b, o, none⟩ = W.frozen? ⟨b, o, none⟩) :=
  ⟨fun b o h => hb.cell (p := ⟨b, o, none⟩) h, fun b o h => hb.frozen (p := ⟨b, o, none⟩) h⟩

/-- A block that was laid before a call that keeps what was there: it holds what it held. -/
theorem part_cells {w w1 : World} {C : Array Value} {t : TypeId} (hb : Below (w.alloc (.cells C t)).drew.heap.size (w.alloc (.cells C t)).drew w1) :
    (∀ j, w1.cell? ⟨w.heap.size, j, none⟩ = C[j]?) ∧ (∀ j, w1.frozen? ⟨w.heap.size, j, none⟩ = false) ∧ Below w.heap.size w w1 ∧ w.heap.size < w1.heap.size := by
  have hs := hb.size
  simp at hs
  refine ⟨fun j => ?_, fun j => ?_, ?_, by omega⟩
  · rw [hb.cell (p := ⟨w.heap.size, j, none⟩) (by simp)]
    simp
  · rw [hb.frozen (p := ⟨w.heap.size, j, none⟩) (by simp)]
    simp
  · exact ((Below.refl _ _).alloc (Nat.le_refl _) _).drew.trans (hb.mono (by simp))

theorem part_cells0 {w w1 : World} {C : Array Value} {t : TypeId} (hb : Below (w.alloc (.cells C t)).heap.size (w.alloc (.cells C t)) w1) :
    (∀ j, w1.cell? ⟨w.heap.size, j, none⟩ = C[j]?) ∧ (∀ j, w1.frozen? ⟨w.heap.size, j, none⟩ = false) ∧ Below w.heap.size w w1 ∧ w.heap.size < w1.heap.size := by
  have hs := hb.size
  simp at hs
  refine ⟨fun j => ?_, fun j => ?_, ?_, by omega⟩
  · rw [hb.cell (p := ⟨w.heap.size, j, none⟩) (by simp)]
    simp
  · rw [hb.frozen (p := ⟨w.heap.size, j, none⟩) (by simp)]
    simp
  · exact ((Below.refl _ _).alloc (Nat.le_refl _) _).trans (hb.mono (by simp))

end Go.Proofs.YtmnmjphgpblbhaaDoor
/- Rows that are read: a slice, its elements cell by cell, wherever it lies. -/
namespace Go.Proofs.YtmnmjphgpblbhaaDoor
open Go.RowKit

/-- The slice v has n elements of 'sz' cells each, and they hold xs. -/
def IsRow (w : World) (sz : Nat) (v : Value) (n : Nat) (xs : List Value) : Prop :=
  xs.length = n * sz ∧ ((n = 0 ∧ ∃ a cap, v = .slice a 0 cap) ∨
    ∃ b off cap, v = .slice (some ⟨b, off, none⟩) n cap ∧ b < w.heap.size ∧ n ≤ cap ∧ cap ≤ maxLen ∧ ∀ j u, xs[j]? = some u → w.cell? ⟨b, off + j, none⟩ = some u)

theorem IsRow.below {w w' : World} {sz : Nat} {v : Value} {n : Nat} {xs : List Value} (h : IsRow w sz v n xs) (hb : Below w.heap.size w w') : IsRow w' sz v n xs := by
  refine ⟨h.1, ?_⟩
  rcases h.2 with h | ⟨b, off, cap, rfl, hlt, hc, hm, hcell⟩
  · exact .inl h
  · exact .inr ⟨b, off, cap, rfl, Nat.lt_of_lt_of_le hlt hb.size, hc, hm, fun j u hu => (hb.cell (p := ⟨b, off + j, none⟩) hlt).trans (hcell j u hu)⟩

/-- What the call itself has made is such a row, too. -/
theorem IsRow.own {w : World} {base : Nat} {e : TypeId} {sz : Nat} {v : Value} {n : Nat} {xs : List Value} (h : w.ownsRow base e sz v n xs) : IsRow w sz v n xs := by
  obtain ⟨h1, h2⟩ := h
  refine ⟨h1, ?_⟩
  rcases h2 with ⟨hv, hn⟩ | ⟨g, cap, cur, rfl, hb, hg, hc, hm, hs, ht⟩
  · exact .inl ⟨hn, _, _, hv⟩
  · refine .inr ⟨g, 0, cap, rfl, (Array.getElem?_eq_some_iff.1 hg).1, hc, hm, fun j u hu => ?_⟩
    rw [Nat.zero_add, cell_of_row w g j cur e (0, 0) hg]
    rw [← ht, List.getElem?_take] at hu
    split at hu
    · simpa using hu
    · cases hu

theorem IsRow.nil (w : World) (sz : Nat) : IsRow w sz (.slice none 0 0) 0 [] := ⟨by simp, .inl ⟨rfl, _, _, rfl⟩⟩

/-- One that is not empty, laid open. -/
theorem IsRow.open {w : World} {sz : Nat} {v : Value} {n : Nat} {xs : List Value} (h : IsRow w sz v n xs) (hn : 0 < n) :
    ∃ b off cap, v = .slice (some ⟨b, off, none⟩) n cap ∧ b < w.heap.size ∧ n ≤ cap ∧ cap ≤ maxLen ∧ ∀ j u, xs[j]? = some u → w.cell? ⟨b, off + j, none⟩ = some u := by
  rcases h.2 with ⟨h0, _⟩ | h
  · omega
  · exact h
theorem IsRow.form {w : World} {sz : Nat} {v : Value} {n : Nat} {xs : List Value} (h : IsRow w sz v n xs) : ∃ a cap, v = .slice a n cap := by
  rcases h.2 with ⟨rfl, a, cap, rfl⟩ | ⟨b, off, cap, rfl, _⟩
  · exact ⟨a, cap, rfl⟩
  · exact ⟨_, _, rfl⟩

/-- An item: its kind, its number, its text. -/
structure It where
  k : Int
  n : Int
  s : ByteArray
def It.cells (x : It) : List Value := [.int .i64 x.k, .int .i64 x.n, .string x.s]
def itCells (l : List It) : List Value := l.flatMap It.cells
theorem itCells_len (l : List It) : (itCells l).length = l.length * 3 := by
  induction l with
  | nil => rfl
  | cons x l ih => simp only [itCells, List.flatMap_cons, List.length_append, List.length_cons] at ih ⊢; rw [ih]; simp [It.cells]; omega
theorem itCells_at (l : List It) (i : Nat) (h : i < l.length) : (itCells l)[3 * i]? = some (.int .i64 (l[i]'h).k) ∧ (itCells l)[3 * i + 1]? = some (.int .i64 (l[i]'h).n) ∧ (itCells l)[3 * i + 2]? = some (.string (l[i]'h).s) := by
  induction l generalizing i with
  | nil => simp at h
  | cons x l ih =>
    cases i with
    | zero => exact ⟨rfl, rfl, rfl⟩
    | succ i =>
      have h' : i < l.length := by simpa using h
      have := ih i h'
      have e : itCells (x :: l) = It.cells x ++ itCells l := by simp [itCells]
      have e0 : (It.cells x).length = 3 := rfl
      rw [e]
      refine ⟨?_, ?_, ?_⟩
      · rw [List.getElem?_append_right (by rw [e0]; omega), e0, show 3 * (i + 1) - 3 = 3 * i by omega]; exact this.1
      · rw [List.getElem?_append_right (by rw [e0]; omega), e0, show 3 * (i + 1) + 1 - 3 = 3 * i + 1 by omega]; exact this.2.1
      · rw [List.getElem?_append_right (by rw [e0]; omega), e0, show 3 * (i + 1) + 2 - 3 = 3 * i + 2 by omega]; exact this.2.2
theorem itCells_snoc (l : List It) (x : It) : itCells (l ++ [x]) = itCells l ++ It.cells x := by simp [itCells]
/-- A row of items, item i's cells, as the walk asks for them. -/
theorem items_at {w : World} {a : Option Addr} {cap : Nat} {l : List It} (h : IsRow w 3 (.slice a l.length cap) l.length (itCells l)) (i : Nat) (hi : i < l.length) :
    ∃ b off, a = some ⟨b, off, none⟩ ∧ b < w.heap.size ∧ w.cell? ⟨b, off + i * 3, none⟩ = some (.int .i64 (l[i]'hi).k) ∧ w.cell? ⟨b, off + i * 3 + 1, none⟩ = some (.int .i64 (l[i]'hi).n) ∧ w.cell? ⟨b, off + i * 3 + 2, none⟩ = some (.string (l[i]'hi).s) := by
  obtain ⟨b, off, cap', hv, hlt, _, _, hc⟩ := h.open (by omega)
  have := itCells_at l i hi
  simp only [Value.slice.injEq] at hv
  refine ⟨b, off, hv.1, hlt, ?_, ?_, ?_⟩
  · rw [show off + i * 3 = off + 3 * i by omega]; exact hc _ _ this.1
  · rw [show off + i * 3 + 1 = off + (3 * i + 1) by omega]; exact hc _ _ this.2.1
  · rw [show off + i * 3 + 2 = off + (3 * i + 2) by omega]; exact hc _ _ this.2.2
end Go.Proofs.YtmnmjphgpblbhaaDoor
