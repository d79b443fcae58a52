/- Bytes and runes cut at points; what a name's parts are: plain, of no program. -/
import Derived.Test.YtacpllmlpmllbaaGreatDoorZk0
import Derived.Lib.SplitLaws
import Derived.Lib.Strings
import Derived.Test.YtacpllmlpmllbaaGreatDoorZk1
import Derived.Lib.Bytealg
namespace Go.Proofs.YtacpllmlpmllbaaGreatDoor
open Go.Lib
set_option maxRecDepth 100000

/-- Put a sign ahead of the first piece. -/
def onto {α : Type} (b : α) : List (List α) → List (List α)
  | [] => [[b]]
  | p :: ps => (b :: p) :: ps
def cutB : List UInt8 → List (List UInt8)
  | [] => [[]]
  | b :: l => if b = 46 then [] :: cutB l else onto b (cutB l)
def cutR : List Nat → List (List Nat)
  | [] => [[]]
  | c :: l => if c = 46 then [] :: cutR l else onto c (cutR l)
theorem cutB_ne : ∀ l, cutB l ≠ []
  | [] => by simp [cutB]
  | b :: l => by
    unfold cutB
    split
    · simp
    · cases cutB l <;> simp [onto]
theorem cutR_ne : ∀ l, cutR l ≠ []
  | [] => by simp [cutR]
  | b :: l => by
    unfold cutR
    split
    · simp
    · cases cutR l <;> simp [onto]

theorem split_cut : ∀ l : List UInt8, splitK [46] 0 (count l [46]) l = cutB l
  | [] => by rw [count_one]; rfl
  | b :: l => by
    have ih := split_cut l
    by_cases h : b = 46
    · subst h
      rw [count_cons_eq, Nat.add_comm, splitK, show index (46 :: l) [46] = 0 by rw [index]; simp [List.isPrefixOf]]
      simp [cutB, ih]
    · rw [count_cons_ne b 46 l h]
      have hp : ([46] : List UInt8).isPrefixOf (b :: l) = false := by simp [List.isPrefixOf, Ne.symm h]
      have hix : index (b :: l) [46] = if index l [46] == -1 then -1 else index l [46] + 1 := by rw [index, hp]; simp
      rw [show cutB (b :: l) = onto b (cutB l) by rw [cutB, if_neg h], ← ih]
      generalize count l [46] = k
      cases k with
      | zero => rfl
      | succ k =>
        unfold splitK
        by_cases hm : index l [46] = -1
        · rw [hix, if_pos (beq_iff_eq.2 hm)]
          simp [hm, onto]
        · have hge := index_ge l [46]
          obtain ⟨j, hj⟩ : ∃ j : Nat, index l [46] = j := ⟨(index l [46]).toNat, by omega⟩
          have hne : ¬ (index l [46] == -1) = true := fun e => hm (beq_iff_eq.1 e)
          have hne2 : ¬ (((j : Int) + 1) == -1) = true := fun e => by have := beq_iff_eq.1 e; omega
          have hne3 : ¬ ((j : Int) == -1) = true := fun e => by have := beq_iff_eq.1 e; omega
          rw [hix, if_neg hne, hj, if_neg hne2, if_neg hne3]
          have e1 : ((j : Int) + 1).toNat = j + 1 := by omega
          rw [e1]
          simp [onto]

theorem ofNat_ne {n : Nat} (h : n < 256) (h2 : n ≠ 46) : (46 : UInt8) ≠ UInt8.ofNat n := by
  intro e
  have := congrArg UInt8.toNat e
  rw [toNat_of h] at this
  exact h2 this.symm
theorem enc_no {c : Nat} (hs : scal c) (h : c ≠ 46) : (46 : UInt8) ∉ enc c := by
  by_cases h1 : c < 128
  · rw [enc1 h1]
    simp only [List.mem_cons, List.not_mem_nil, or_false]
    exact ofNat_ne (by omega) h
  by_cases h2 : c < 2048
  · rw [enc2 (by omega) h2]
    simp only [List.mem_cons, List.not_mem_nil, or_false, not_or]
    exact ⟨ofNat_ne (by omega) (by omega), ofNat_ne (by omega) (by omega)⟩
  by_cases h3 : c < 65536
  · rw [enc3 (by omega) h3 hs]
    simp only [List.mem_cons, List.not_mem_nil, or_false, not_or]
    exact ⟨ofNat_ne (by omega) (by omega), ofNat_ne (by omega) (by omega), ofNat_ne (by omega) (by omega)⟩
  · rw [enc4 (by omega) hs]
    unfold scal at hs
    simp only [List.mem_cons, List.not_mem_nil, or_false, not_or]
    exact ⟨ofNat_ne (by omega) (by omega), ofNat_ne (by omega) (by omega), ofNat_ne (by omega) (by omega), ofNat_ne (by omega) (by omega)⟩
theorem enc46 : enc 46 = [46] := by decide +kernel
theorem cutB_app : ∀ (x l : List UInt8), (46 : UInt8) ∉ x → ∀ h t, cutB l = h :: t → cutB (x ++ l) = (x ++ h) :: t
  | [], l, _, h, t, e => by simpa using e
  | b :: x, l, hn, h, t, e => by
    have hb : b ≠ 46 := fun e => hn (by simp [e])
    have ih := cutB_app x l (fun m => hn (by simp [m])) h t e
    rw [List.cons_append, cutB, if_neg hb, ih]
    rfl
theorem cut_enc : ∀ cs : List Nat, (∀ c ∈ cs, scal c) → cutB (cs.flatMap enc) = (cutR cs).map (·.flatMap enc)
  | [], _ => rfl
  | c :: cs, hs => by
    have ih := cut_enc cs (fun x hx => hs x (List.mem_cons_of_mem _ hx))
    rw [List.flatMap_cons]
    by_cases h : c = 46
    · subst h
      rw [enc46]
      show cutB (46 :: cs.flatMap enc) = _
      rw [cutB, if_pos rfl, ih, cutR, if_pos rfl]
      rfl
    · rw [cutR, if_neg h]
      cases hc : cutR cs with
      | nil => exact absurd hc (cutR_ne cs)
      | cons q qs =>
        rw [hc] at ih
        rw [cutB_app (enc c) _ (enc_no (hs c (by simp)) h) (q.flatMap enc) (qs.map (·.flatMap enc)) ih]
        simp [onto]

/-! ### parts -/
def okp : Bool → List Nat → Bool
  | f, [] => !f
  | f, c :: q => if beginsN c then okp false q else if f then false else if c ≠ 45 ∧ ¬ (48 ≤ c ∧ c ≤ 57) then false else okp f q
def allok (f : Bool) : List (List Nat) → Bool
  | [] => false
  | q :: qs => okp f q && qs.all (okp true)
theorem begins46 : beginsN 46 = false := by decide
theorem chk_cut : ∀ (cs : List Nat) (p r : Nat) (f : Bool), chk p r f cs = if allok f (cutR cs) = true then (if 5 < p + (cutR cs).length - 1 ∨ 40 < r + cs.length then 2 else 0) else 3
  | [], p, r, f => by
    cases f
    · simp [chk, cutR, allok, okp]
    · simp [chk, cutR, allok, okp]
  | c :: cs, p, r, f => by
    have hl : 0 < (cutR cs).length := List.length_pos_iff.2 (cutR_ne cs)
    by_cases h : c = 46
    · subst h
      rw [cutR, if_pos rfl]
      simp only [chk, begins46, if_true, Bool.false_eq_true, if_false]
      cases f
      · have e : allok false ([] :: cutR cs) = allok true (cutR cs) := by
          cases hc : cutR cs with
          | nil => exact absurd hc (cutR_ne cs)
          | cons q qs => simp [allok, okp]
        rw [chk_cut cs (p + 1) (r + 1) true, e]
        have e2 : p + 1 + (cutR cs).length - 1 = p + ([] :: cutR cs).length - 1 := by simp only [List.length_cons]; omega
        have e3 : r + 1 + cs.length = r + (46 :: cs).length := by simp only [List.length_cons]; omega
        rw [e2, e3]
        simp
      · simp [allok, okp]
    · rw [cutR, if_neg h]
      cases hc : cutR cs with
      | nil => exact absurd hc (cutR_ne cs)
      | cons q qs =>
        have ih1 := fun f => chk_cut cs p (r + 1) f
        rw [hc] at ih1
        have e3 : r + 1 + cs.length = r + (c :: cs).length := by simp only [List.length_cons]; omega
        have e4 : (onto c (q :: qs)).length = (q :: qs).length := rfl
        rw [e4, ← e3]
        have go : ∀ g, allok f (onto c (q :: qs)) = allok g (q :: qs) → chk p r f (c :: cs) = chk p (r + 1) g cs → chk p r f (c :: cs) = if allok f (onto c (q :: qs)) = true then (if 5 < p + (q :: qs).length - 1 ∨ 40 < r + 1 + cs.length then 2 else 0) else 3 := by
          intro g h1 h2
          rw [h2, ih1 g, h1]
        have no : allok f (onto c (q :: qs)) = false → chk p r f (c :: cs) = 3 → chk p r f (c :: cs) = if allok f (onto c (q :: qs)) = true then (if 5 < p + (q :: qs).length - 1 ∨ 40 < r + 1 + cs.length then 2 else 0) else 3 := by
          intro h1 h2
          rw [h2, h1]
          simp
        by_cases hb : beginsN c = true
        · exact go false (by simp [allok, onto, okp, hb]) (by simp [chk, hb])
        · cases f
          · by_cases hg : c ≠ 45 ∧ ¬ (48 ≤ c ∧ c ≤ 57)
            · refine no ?_ ?_
              · simp only [allok, onto, okp, hb, if_pos hg]; simp
              · simp only [chk, hb, h, if_pos hg]; simp
            · refine go false ?_ ?_
              · simp only [allok, onto, okp, hb, if_neg hg]; simp
              · simp only [chk, hb, h, if_neg hg]; simp
          · exact no (by simp [allok, onto, okp, hb]) (by simp [chk, hb])
end Go.Proofs.YtacpllmlpmllbaaGreatDoor
/- A name's parts and beginnings: plain, of no program. -/
namespace Go.Proofs.YtacpllmlpmllbaaGreatDoor
open Go.Lib
set_option maxRecDepth 100000

theorem cat_enc : ∀ (cs : List Nat) (y : List UInt8), (∀ c ∈ cs, scal c) → rns (cs.flatMap enc ++ y) = cs ++ rns y ∧ validD (cs.flatMap enc ++ y) = validD y
  | [], y, _ => ⟨rfl, rfl⟩
  | c :: cs, y, h => by
    obtain ⟨i1, i2⟩ := cat_enc cs y (fun x hx => h x (List.mem_cons_of_mem _ hx))
    have hl := enc_len c
    have hne : enc c ++ (cs.flatMap enc ++ y) ≠ [] := by
      intro e
      have := congrArg List.length e
      rw [List.length_append] at this
      simp at this
      rw [this.1] at hl
      simp at hl
    have hd := dec_enc c (cs.flatMap enc ++ y) (h c (by simp))
    rw [List.flatMap_cons, List.append_assoc]
    constructor
    · rw [rns_step _ hne, hd]
      simp [i1]
    · rw [validD_step _ hne, hd, if_neg]
      · simp [i2]
      · rintro ⟨e1, e2⟩
        have := enc_err c e1
        simp at e2
        omega
theorem chk_no : ∀ (cs : List Nat) (p r : Nat) (f : Bool), chk p r f cs = 0 → 65533 ∉ cs
  | [], _, _, _ => by simp
  | c :: cs, p, r, f => by
    intro h hm
    rcases List.mem_cons.1 hm with rfl | hm
    · have hb : beginsN 65533 = false := by decide
      simp only [chk, hb] at h
      cases f <;> simp at h
    · simp only [chk] at h
      split at h
      · exact chk_no cs _ _ _ h hm
      split at h
      · cases h
      split at h
      · exact chk_no cs _ _ _ h hm
      split at h
      · cases h
      · exact chk_no cs _ _ _ h hm
theorem valid_of_no : ∀ (n : Nat) (l : List UInt8), l.length ≤ n → 65533 ∉ rns l → validD l = true
  | 0, l, hn, _ => by
    have : l = [] := List.eq_nil_of_length_eq_zero (by omega)
    subst this
    rfl
  | n + 1, l, hn, h => by
    by_cases hne : l = []
    · subst hne; rfl
    have hl : 0 < l.length := List.length_pos_iff.2 hne
    have hw := decodeL_width l
    rw [rns_step l hne] at h
    rw [validD_step l hne, if_neg (fun e => h (by rw [e.1]; simp))]
    exact valid_of_no n _ (by rw [List.length_drop]; omega) (fun m => h (List.mem_cons_of_mem _ m))
theorem valid_of_name {l : List UInt8} (h : checkL l = 0) : validD l = true := valid_of_no l.length l (Nat.le_refl _) (chk_no _ _ _ _ h)

def joinR : List (List Nat) → List Nat
  | [] => []
  | [q] => q
  | q :: r :: qs => q ++ 46 :: joinR (r :: qs)
theorem joinR_cons (q : List Nat) {qs : List (List Nat)} (h : qs ≠ []) : joinR (q :: qs) = q ++ 46 :: joinR qs := by
  cases qs with
  | nil => exact absurd rfl h
  | cons r qs => rfl
theorem joinR_onto (c : Nat) {qs : List (List Nat)} (h : qs ≠ []) : joinR (onto c qs) = c :: joinR qs := by
  match qs, h with
  | [q], _ => rfl
  | q :: r :: qs, _ => rfl
theorem join_cut : ∀ cs, joinR (cutR cs) = cs
  | [] => rfl
  | c :: cs => by
    rw [cutR]
    split
    · rename_i h
      rw [joinR_cons [] (cutR_ne cs), join_cut cs, h]; rfl
    · rw [joinR_onto c (cutR_ne cs), join_cut cs]
theorem cut_no : ∀ cs, ∀ q ∈ cutR cs, 46 ∉ q
  | [] => by simp [cutR]
  | c :: cs => by
    have ih := cut_no cs
    rw [cutR]
    split
    · intro q hq
      rcases List.mem_cons.1 hq with rfl | hq
      · simp
      · exact ih q hq
    · rename_i h
      cases hc : cutR cs with
      | nil => exact absurd hc (cutR_ne cs)
      | cons p ps =>
        rw [hc] at ih
        intro q hq
        rcases List.mem_cons.1 hq with rfl | hq
        · intro m
          rcases List.mem_cons.1 m with e | m
          · exact h e.symm
          · exact ih p (by simp) m
        · exact ih q (by simp [hq])
theorem cut_app : ∀ (x cs : List Nat), 46 ∉ x → ∀ h t, cutR cs = h :: t → cutR (x ++ cs) = (x ++ h) :: t
  | [], cs, _, h, t, e => by simpa using e
  | b :: x, cs, hn, h, t, e => by
    have hb : b ≠ 46 := fun e => hn (by simp [e])
    have ih := cut_app x cs (fun m => hn (by simp [m])) h t e
    rw [List.cons_append, cutR, if_neg hb, ih]
    rfl
theorem cut_join : ∀ qs : List (List Nat), qs ≠ [] → (∀ q ∈ qs, 46 ∉ q) → cutR (joinR qs) = qs
  | [], h, _ => absurd rfl h
  | [q], _, hn => by
    have := cut_app q [] (hn q (by simp)) [] [] rfl
    show cutR q = [q]
    simpa using this
  | q :: r :: qs, _, hn => by
    have ih := cut_join (r :: qs) (by simp) (fun x hx => hn x (by simp [hx]))
    have e : cutR (46 :: joinR (r :: qs)) = [] :: (r :: qs) := by rw [cutR, if_pos rfl, ih]
    have := cut_app q (46 :: joinR (r :: qs)) (hn q (by simp)) [] (r :: qs) e
    simpa [joinR] using this
theorem allok_all {qs : List (List Nat)} (h : qs ≠ []) : allok true qs = qs.all (okp true) := by
  cases qs with
  | nil => exact absurd rfl h
  | cons q qs => rfl

/-- The bytes of parts with points between. -/
def bytesOf (qs : List (List Nat)) : List UInt8 := (joinR qs).flatMap enc
/-- What a name's parts are. -/
structure Parts (l : List UInt8) (qs : List (List Nat)) : Prop where
  ne : qs ≠ []
  cut : cutB l = qs.map (·.flatMap enc)
  bytes : bytesOf qs = l
  no : ∀ q ∈ qs, 46 ∉ q
  ok : ∀ q ∈ qs, okp true q = true
  few : qs.length ≤ 5
  short : (joinR qs).length ≤ 40
  scals : ∀ c ∈ joinR qs, scal c
theorem parts_of {l : List UInt8} (h : checkL l = 0) : Parts l (cutR (rns l)) := by
  have hv := valid_of_name h
  have hs := rns_scal l
  have he : (rns l).flatMap enc = l := enc_rns l.length l (Nat.le_refl _) hv
  have hc := chk_cut (rns l) 1 0 true
  have h' : chk 1 0 true (rns l) = 0 := h
  rw [h'] at hc
  have hok : allok true (cutR (rns l)) = true := by
    by_cases g : allok true (cutR (rns l)) = true
    · exact g
    · rw [if_neg g] at hc; cases hc
  rw [if_pos hok] at hc
  have hlen : ¬ (5 < 1 + (cutR (rns l)).length - 1 ∨ 40 < 0 + (rns l).length) := by
    intro g
    rw [if_pos g] at hc
    cases hc
  refine ⟨cutR_ne _, ?_, ?_, cut_no _, ?_, by omega, ?_, ?_⟩
  · have := cut_enc (rns l) hs
    rw [he] at this
    exact this
  · unfold bytesOf
    rw [join_cut, he]
  · rw [allok_all (cutR_ne _)] at hok
    exact fun q hq => List.all_eq_true.1 hok q hq
  · rw [join_cut]; omega
  · rw [join_cut]; exact hs
theorem name_of {qs : List (List Nat)} (ne : qs ≠ []) (no : ∀ q ∈ qs, 46 ∉ q) (ok : ∀ q ∈ qs, okp true q = true) (few : qs.length ≤ 5) (short : (joinR qs).length ≤ 40) (scals : ∀ c ∈ joinR qs, scal c) : checkL (bytesOf qs) = 0 := by
  unfold checkL bytesOf
  rw [(rns_enc _ scals).1, chk_cut, cut_join qs ne no, allok_all ne, if_pos (List.all_eq_true.2 ok), if_neg (by omega)]

theorem joinR_app : ∀ (a b : List (List Nat)), a ≠ [] → b ≠ [] → joinR (a ++ b) = joinR a ++ 46 :: joinR b
  | [], _, h, _ => absurd rfl h
  | [q], b, _, hb => joinR_cons q hb
  | q :: r :: a, b, _, hb => by
    rw [List.cons_append, joinR_cons q (by simp), joinR_app (r :: a) b (by simp) hb, joinR_cons q (by simp)]
    simp
theorem joinR_mem : ∀ (qs : List (List Nat)) (q : List Nat), q ∈ qs → ∀ c ∈ q, c ∈ joinR qs
  | [], _, h => by simp at h
  | [r], q, h => by
    have : q = r := by simpa using h
    subst this
    exact fun c hc => hc
  | r :: t :: qs, q, h => by
    intro c hc
    rw [joinR_cons r (by simp)]
    rcases List.mem_cons.1 h with rfl | h
    · exact List.mem_append_left _ hc
    · exact List.mem_append_right _ (List.mem_cons_of_mem _ (joinR_mem (t :: qs) q h c hc))
theorem joinR_len : ∀ (qs : List (List Nat)) (q : List Nat), q ∈ qs → q.length ≤ (joinR qs).length
  | [], _, h => by simp at h
  | [r], q, h => by
    have : q = r := by simpa using h
    subst this
    exact Nat.le_refl _
  | r :: t :: qs, q, h => by
    rw [joinR_cons r (by simp), List.length_append, List.length_cons]
    rcases List.mem_cons.1 h with rfl | h
    · omega
    · have := joinR_len (t :: qs) q h
      omega
/-- The first k parts, and the others. -/
theorem joinR_take {qs : List (List Nat)} {k : Nat} (h0 : 0 < k) (hk : k < qs.length) : joinR qs = joinR (qs.take k) ++ 46 :: joinR (qs.drop k) := by
  have h1 : qs.take k ≠ [] := by intro e; have := congrArg List.length e; rw [List.length_take, List.length_nil] at this; omega
  have h2 : qs.drop k ≠ [] := by intro e; have := congrArg List.length e; rw [List.length_drop, List.length_nil] at this; omega
  have := joinR_app (qs.take k) (qs.drop k) h1 h2
  rw [List.take_append_drop] at this
  exact this
theorem take_ne {qs : List (List Nat)} {k : Nat} (h0 : 0 < k) (hk : k ≤ qs.length) : qs.take k ≠ [] := by
  intro e
  have := congrArg List.length e
  rw [List.length_take, List.length_nil] at this
  omega
theorem take_scal {l : List UInt8} {qs : List (List Nat)} (P : Parts l qs) {k : Nat} (h0 : 0 < k) (hk : k ≤ qs.length) : ∀ c ∈ joinR (qs.take k), scal c := by
  intro c hc
  by_cases h : k < qs.length
  · exact P.scals c (by rw [joinR_take h0 h]; exact List.mem_append_left _ hc)
  · rw [List.take_of_length_le (by omega)] at hc
    exact P.scals c hc
theorem take_short {qs : List (List Nat)} {k : Nat} (h0 : 0 < k) (hk : k ≤ qs.length) : (joinR (qs.take k)).length ≤ (joinR qs).length := by
  by_cases h : k < qs.length
  · rw [joinR_take h0 h, List.length_append]; omega
  · rw [List.take_of_length_le (by omega)]; exact Nat.le_refl _
/-- Each beginning of a name is a name. -/
theorem begin_name {l : List UInt8} {qs : List (List Nat)} (P : Parts l qs) {k : Nat} (h0 : 0 < k) (hk : k ≤ qs.length) : checkL (bytesOf (qs.take k)) = 0 :=
  name_of (take_ne h0 hk) (fun q hq => P.no q (List.mem_of_mem_take hq)) (fun q hq => P.ok q (List.mem_of_mem_take hq)) (by rw [List.length_take]; have := P.few; omega) (by have := take_short h0 hk; have := P.short; omega) (take_scal P h0 hk)
/-- Each part is a name. -/
theorem part_name {l : List UInt8} {qs : List (List Nat)} (P : Parts l qs) {q : List Nat} (hq : q ∈ qs) : checkL (q.flatMap enc) = 0 := by
  have := name_of (qs := [q]) (by simp) (fun x hx => by have : x = q := by simpa using hx
                                                        subst this; exact P.no x hq) (fun x hx => by have : x = q := by simpa using hx
                                                                                                     subst this; exact P.ok x hq) (by simp) (by have := joinR_len qs q hq; have := P.short; show q.length ≤ 40; omega) (fun c hc => P.scals c (joinR_mem qs q hq c hc))
  exact this
theorem fold_bytes {qs : List (List Nat)} (h : ∀ c ∈ joinR qs, scal c) : foldL (bytesOf qs) = ((joinR qs).map smallN).flatMap enc := by
  unfold foldL bytesOf
  rw [if_pos (rns_enc _ h).2, (rns_enc _ h).1]
theorem small46 : smallN 46 = 46 := by decide
theorem fold_take {l : List UInt8} {qs : List (List Nat)} (P : Parts l qs) {k : Nat} (h0 : 0 < k) (hk : k < qs.length) : ∃ y, foldL l = foldL (bytesOf (qs.take k)) ++ 46 :: y := by
  refine ⟨((joinR (qs.drop k)).map smallN).flatMap enc, ?_⟩
  have e1 := fold_bytes P.scals
  rw [P.bytes] at e1
  rw [e1, fold_bytes (take_scal P h0 (Nat.le_of_lt hk)), joinR_take h0 hk, List.map_append, List.flatMap_append, List.map_cons, List.flatMap_cons, small46, enc46]
  rfl
/-- A name is under each of its beginnings. -/
theorem under_begin {l : List UInt8} {qs : List (List Nat)} (P : Parts l qs) {k : Nat} (h0 : 0 < k) (hk : k ≤ qs.length) : hasPrefix (foldL l ++ [46]) (foldL (bytesOf (qs.take k)) ++ [46]) = true := by
  unfold hasPrefix
  rw [List.isPrefixOf_iff_prefix]
  by_cases h : k < qs.length
  · obtain ⟨y, e⟩ := fold_take P h0 h
    exact ⟨y ++ [46], by rw [e]; simp⟩
  · rw [List.take_of_length_le (by omega), P.bytes]
    exact List.prefix_refl _
/-- .. and a beginning is under it just if it is all of it. -/
theorem begin_under {l : List UInt8} {qs : List (List Nat)} (P : Parts l qs) {k : Nat} (h0 : 0 < k) (hk : k ≤ qs.length) : hasPrefix (foldL (bytesOf (qs.take k)) ++ [46]) (foldL l ++ [46]) = decide (k = qs.length) := by
  unfold hasPrefix
  by_cases h : k < qs.length
  · obtain ⟨y, e⟩ := fold_take P h0 h
    rw [decide_eq_false (by omega), Bool.eq_false_iff]
    intro hp
    have h1 := (List.isPrefixOf_iff_prefix.1 hp).length_le
    rw [e] at h1
    simp at h1
  · have hk' : k = qs.length := by omega
    rw [decide_eq_true hk', hk', List.take_of_length_le (Nat.le_refl _), P.bytes, List.isPrefixOf_iff_prefix]
    exact List.prefix_refl _
theorem bytes_step {qs : List (List Nat)} {k : Nat} (hk : k < qs.length) : bytesOf (qs.take (k + 1)) = if k = 0 then (qs[k]).flatMap enc else bytesOf (qs.take k) ++ 46 :: (qs[k]).flatMap enc := by
  rw [List.take_succ_eq_append_getElem hk]
  by_cases h0 : k = 0
  · subst h0
    rfl
  · rw [if_neg h0]
    unfold bytesOf
    rw [joinR_app _ _ (take_ne (by omega) (by omega)) (by simp), List.flatMap_append, List.flatMap_cons, enc46]
    rfl
end Go.Proofs.YtacpllmlpmllbaaGreatDoor
/- name.Parts and name.Under: walks. -/
namespace Go.Proofs.YtacpllmlpmllbaaGreatDoor
open Go.RowKit

/-- The library's own variable holds some number. -/
def ML (w : World) : Prop := ∃ m, w.cell? ⟨2, 0, none⟩ = some (.int .i64 m)
theorem ML_below {w w' : World} (h : ML w) (hb : Below w.heap.size w w') : ML w' := by
  obtain ⟨m, hm⟩ := h
  exact ⟨m, (hb.cell (p := ⟨2, 0, none⟩) (World.block_lt_of_cell? _ _ hm)).trans hm⟩
def svals (l : List (List UInt8)) : List Value := l.map fun p => Value.string (str p)
theorem split_eq (s : ByteArray) : Lib.splitB ⟨#[46]⟩ 0 (Lib.countB s ⟨#[46]⟩) s = (cutB s.data.toList).map str := by
  have h := Lib.splitB_data ⟨#[46]⟩ 0 (Lib.countB s ⟨#[46]⟩) s
  have h2 : Lib.splitK (⟨#[46]⟩ : ByteArray).data.toList 0 (Lib.countB s ⟨#[46]⟩) s.data.toList = cutB s.data.toList := split_cut s.data.toList
  rw [h2] at h
  rw [← h, List.map_map]
  have e : (str ∘ fun (x : ByteArray) => x.data.toList) = id := funext str_of
  rw [e, List.map_id]
theorem split_len (s : ByteArray) : Lib.countB s ⟨#[46]⟩ + 1 = (cutB s.data.toList).length := by
  have h := Lib.splitB_all ⟨#[46]⟩ (by decide) 0 _ s rfl
  rw [split_eq, List.length_map] at h
  exact h.symm

/-- What Parts leaves. -/
def PaPost (l : List (List UInt8)) (w : World) (e : Ending) (w' : World) : Prop :=
  ∃ v, e = .returned v ∧ IsRow w' 1 v l.length (svals l) ∧ Below w.heap.size w w'
set_option maxHeartbeats 1000000 in
theorem parts_ok (s : ByteArray) (w : World) (hs : s.size ≤ 1000000) (hM : ML w) (hc : checkL s.data.toList = 0) :
    Calls Tryz.prog 192 #[.string s] w fun e w' => PaPost (cutB s.data.toList) w e w' := by
  go_enter Tryz.func192, Tryz.ntmps192
  go_wp2_with fail
  refine (check_any s _ (by omega)).mono ?_
  rintro e w1 ⟨rfl, hb1⟩
  rw [hc]
  obtain ⟨m, hm⟩ := ML_below hM hb1
  have hs1 := hb1.size
  go_wp2_with fail
  refine (Tryz.strings_Split s _ m _ (by omega) hm (by decide)).mono ?_
  rintro e w2 ⟨rfl, rfl⟩
  rw [split_eq, split_len]
  go_wp2
  go_ret
  refine ⟨_, rfl, ⟨by simp [svals], .inr ⟨w1.heap.size, 0, (cutB s.data.toList).length, rfl, by simp, Nat.le_refl _, ?_, ?_⟩⟩, hb1.alloc hs1 _⟩
  · have h1 := split_len s
    have h2 := Lib.countB_le ⟨#[46]⟩ (by decide) s.size s (Nat.le_refl _)
    unfold maxLen
    omega
  · intro j u hu
    simpa [svals, Function.comp] using hu
set_option maxHeartbeats 1000000 in
theorem parts_no (s : ByteArray) (w : World) (hs : s.size ≤ 1000000) (hc : checkL s.data.toList ≠ 0) :
    Calls Tryz.prog 192 #[.string s] w fun e w' => e = .returned (.slice none 0 0) ∧ Below w.heap.size w w' := by
  have hc' : (checkL s.data.toList != 0) = true := by rw [bne_iff_ne]; exact hc
  go_enter Tryz.func192, Tryz.ntmps192
  go_wp2_with fail
  refine (check_any s _ (by omega)).mono ?_
  rintro e w1 ⟨rfl, hb1⟩
  go_wp2
  go_ret
  exact ⟨rfl, hb1⟩

theorem str_point (l : List UInt8) : str l ++ (⟨#[46]⟩ : ByteArray) = str (l ++ [46]) := ba_eq (by rw [ba_append, str_data, str_data])
theorem room1 {A B : ByteArray} (h1 : A.size ≤ 8000000) (h2 : B.size ≤ 8000000) : ¬ 9223372036854775807 < A.size + B.size := by omega
end Go.Proofs.YtacpllmlpmllbaaGreatDoor
/- The bytes of UTF-8 stand as the runes do: plain, of no program. -/
namespace Go.Proofs.YtacpllmlpmllbaaGreatDoor
open Go.Lib
set_option maxRecDepth 100000

/-- How rows of runes stand. -/
def cmpR : List Nat → List Nat → Int
  | [], [] => 0
  | [], _ :: _ => -1
  | _ :: _, [] => 1
  | a :: k, b :: l => if a < b then -1 else if b < a then 1 else cmpR k l
theorem cb_lt {m n : Nat} (hn : n < 256) (h : m < n) (x y : List UInt8) : compareBytes (UInt8.ofNat m :: x) (UInt8.ofNat n :: y) = -1 := by
  have e : UInt8.ofNat m < UInt8.ofNat n := by
    rw [UInt8.lt_iff_toNat_lt, toNat_of (by omega), toNat_of hn]
    exact h
  simp [compareBytes, e]
theorem cb_eq (b : UInt8) (x y : List UInt8) : compareBytes (b :: x) (b :: y) = compareBytes x y := by
  simp [compareBytes]
theorem cb_pre : ∀ (p x y : List UInt8), compareBytes (p ++ x) (p ++ y) = compareBytes x y
  | [], _, _ => rfl
  | b :: p, x, y => by rw [List.cons_append, List.cons_append, cb_eq, cb_pre p x y]
/-- Of two first bytes, and what stands behind them. -/
theorem cb_step {m n : Nat} (hn : n < 256) (x y : List UInt8) (h : m < n ∨ (m = n ∧ compareBytes x y = -1)) : compareBytes (UInt8.ofNat m :: x) (UInt8.ofNat n :: y) = -1 := by
  rcases h with h | ⟨rfl, h⟩
  · exact cb_lt hn h x y
  · rw [cb_eq]; exact h
theorem enc_lt {c d : Nat} (hc : scal c) (hd : scal d) (h : c < d) (x y : List UInt8) : compareBytes (enc c ++ x) (enc d ++ y) = -1 := by
  have hd' := hd
  unfold scal at hd'
  by_cases d1 : d < 128
  · rw [enc1 d1, enc1 (by omega)]
    exact cb_lt (by omega) h _ _
  by_cases d2 : d < 2048
  · rw [enc2 (by omega) d2]
    by_cases c1 : c < 128
    · rw [enc1 c1]
      exact cb_lt (by omega) (by omega) _ _
    · rw [enc2 (by omega) (by omega)]
      refine cb_step (by omega) _ _ ?_
      by_cases e : c / 64 = d / 64
      · exact .inr ⟨by omega, cb_step (by omega) _ _ (.inl (by omega))⟩
      · exact .inl (by omega)
  by_cases d3 : d < 65536
  · rw [enc3 (by omega) d3 hd]
    by_cases c1 : c < 128
    · rw [enc1 c1]
      exact cb_lt (by omega) (by omega) _ _
    by_cases c2 : c < 2048
    · rw [enc2 (by omega) (by omega)]
      exact cb_lt (by omega) (by omega) _ _
    · rw [enc3 (by omega) (by omega) hc]
      refine cb_step (by omega) _ _ ?_
      by_cases e : c / 4096 = d / 4096
      · refine .inr ⟨by omega, cb_step (by omega) _ _ ?_⟩
        by_cases e2 : c / 64 % 64 = d / 64 % 64
        · exact .inr ⟨by omega, cb_step (by omega) _ _ (.inl (by omega))⟩
        · exact .inl (by omega)
      · exact .inl (by omega)
  · rw [enc4 (by omega) hd]
    by_cases c1 : c < 128
    · rw [enc1 c1]
      exact cb_lt (by omega) (by omega) _ _
    by_cases c2 : c < 2048
    · rw [enc2 (by omega) (by omega)]
      exact cb_lt (by omega) (by omega) _ _
    by_cases c3 : c < 65536
    · rw [enc3 (by omega) (by omega) hc]
      exact cb_lt (by omega) (by omega) _ _
    · rw [enc4 (by omega) hc]
      refine cb_step (by omega) _ _ ?_
      by_cases e : c / 262144 = d / 262144
      · refine .inr ⟨by omega, cb_step (by omega) _ _ ?_⟩
        by_cases e2 : c / 4096 % 64 = d / 4096 % 64
        · refine .inr ⟨by omega, cb_step (by omega) _ _ ?_⟩
          by_cases e3 : c / 64 % 64 = d / 64 % 64
          · exact .inr ⟨by omega, cb_step (by omega) _ _ (.inl (by omega))⟩
          · exact .inl (by omega)
        · exact .inl (by omega)
      · exact .inl (by omega)
theorem cb_anti : ∀ (a b : List UInt8), compareBytes a b = - compareBytes b a
  | [], [] => rfl
  | [], b :: l => by simp [compareBytes]
  | a :: k, [] => by simp [compareBytes]
  | a :: k, b :: l => by
    simp only [compareBytes]
    by_cases h1 : a < b
    · have h2 : ¬ b < a := UInt8.lt_asymm h1
      simp [h1, h2]
    · by_cases h2 : b < a
      · simp [h1, h2]
      · simp [h1, h2, cb_anti k l]
theorem enc_cons (c : Nat) : ∃ b t, enc c = b :: t := by
  have := enc_len c
  cases h : enc c with
  | nil => rw [h] at this; simp at this
  | cons b t => exact ⟨b, t, rfl⟩
/-- The bytes of runes stand as the runes. -/
theorem cmp_enc : ∀ (a b : List Nat), (∀ c ∈ a, scal c) → (∀ c ∈ b, scal c) → compareBytes (a.flatMap enc) (b.flatMap enc) = cmpR a b
  | [], [], _, _ => rfl
  | [], b :: l, _, _ => by
    obtain ⟨x, t, e⟩ := enc_cons b
    rw [List.flatMap_cons, e]
    rfl
  | a :: k, [], _, _ => by
    obtain ⟨x, t, e⟩ := enc_cons a
    rw [List.flatMap_cons, e]
    rfl
  | a :: k, b :: l, ha, hb => by
    have ih := cmp_enc k l (fun x hx => ha x (List.mem_cons_of_mem _ hx)) (fun x hx => hb x (List.mem_cons_of_mem _ hx))
    rw [List.flatMap_cons, List.flatMap_cons, cmpR]
    by_cases h1 : a < b
    · rw [if_pos h1]
      exact enc_lt (ha a (by simp)) (hb b (by simp)) h1 _ _
    · by_cases h2 : b < a
      · rw [if_neg h1, if_pos h2, cb_anti, enc_lt (hb b (by simp)) (ha a (by simp)) h2]
        rfl
      · have e : a = b := by omega
        subst e
        rw [if_neg h1, if_neg h2, cb_pre, ih]
end Go.Proofs.YtacpllmlpmllbaaGreatDoor
