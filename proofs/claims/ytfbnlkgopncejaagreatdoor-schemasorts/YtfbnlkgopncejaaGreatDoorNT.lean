/- A name's parts and beginnings: plain, of no program. -/
import Derived.Test.YtfbnlkgopncejaaGreatDoorNS
import Derived.Lib.Strings
namespace Go.Proofs.YtfbnlkgopncejaaGreatDoor
open Go.Lib
set_option maxRecDepth 100000

theorem cat_enc : ∀ (cs : List Nat) (y : List UInt8), (∀ c ∈ cs, scal c) → rns (cs.flatMap enc ++ y) = cs ++ rns y ∧ validD (cs.flatMap enc ++ y) = validD y
  | [], y, _ => ⟨rfl, rfl⟩
  | c :: cs, y, h => by
    obtain ⟨i1, i2⟩ := cat_enc cs y (fun x hx => h x (List.mem_cons_of_mem _ hx))
    have hl := enc_len c
    have hne : enc c ++ (cs.flatMap enc ++ y) ≠ [] := by
      intro e
      have := congrArg List.length e
      rw [List.length_append] at this
      simp at this
      rw [this.1] at hl
      simp at hl
    have hd := dec_enc c (cs.flatMap enc ++ y) (h c (by simp))
    rw [List.flatMap_cons, List.append_assoc]
    constructor
    · rw [rns_step _ hne, hd]
      simp [i1]
    · rw [validD_step _ hne, hd, if_neg]
      · simp [i2]
      · rintro ⟨e1, e2⟩
        have := enc_err c e1
        simp at e2
        omega
theorem chk_no : ∀ (cs : List Nat) (p r : Nat) (f : Bool), chk p r f cs = 0 → 65533 ∉ cs
  | [], _, _, _ => by simp
  | c :: cs, p, r, f => by
    intro h hm
    rcases List.mem_cons.1 hm with rfl | hm
    · have hb : beginsN 65533 = false := by decide
      simp only [chk, hb] at h
      cases f <;> simp at h
    · simp only [chk] at h
      split at h
      · exact chk_no cs _ _ _ h hm
      split at h
      · cases h
      split at h
      · exact chk_no cs _ _ _ h hm
      split at h
      · cases h
      · exact chk_no cs _ _ _ h hm
theorem valid_of_no : ∀ (n : Nat) (l : List UInt8), l.length ≤ n → 65533 ∉ rns l → validD l = true
  | 0, l, hn, _ => by
    have : l = [] := List.eq_nil_of_length_eq_zero (by omega)
    subst this
    rfl
  | n + 1, l, hn, h => by
    by_cases hne : l = []
    · subst hne; rfl
    have hl : 0 < l.length := List.length_pos_iff.2 hne
    have hw := decodeL_width l
    rw [rns_step l hne] at h
    rw [validD_step l hne, if_neg (fun e => h (by rw [e.1]; simp))]
    exact valid_of_no n _ (by rw [List.length_drop]; omega) (fun m => h (List.mem_cons_of_mem _ m))
theorem valid_of_name {l : List UInt8} (h : checkL l = 0) : validD l = true := valid_of_no l.length l (Nat.le_refl _) (chk_no _ _ _ _ h)

def joinR : List (List Nat) → List Nat
  | [] => []
  | [q] => q
  | q :: r :: qs => q ++ 46 :: joinR (r :: qs)
theorem joinR_cons (q : List Nat) {qs : List (List Nat)} (h : qs ≠ []) : joinR (q :: qs) = q ++ 46 :: joinR qs := by
  cases qs with
  | nil => exact absurd rfl h
  | cons r qs => rfl
theorem joinR_onto (c : Nat) {qs : List (List Nat)} (h : qs ≠ []) : joinR (onto c qs) = c :: joinR qs := by
  match qs, h with
  | [q], _ => rfl
  | q :: r :: qs, _ => rfl
theorem join_cut : ∀ cs, joinR (cutR cs) = cs
  | [] => rfl
  | c :: cs => by
    rw [cutR]
    split
    · rename_i h
      rw [joinR_cons [] (cutR_ne cs), join_cut cs, h]; rfl
    · rw [joinR_onto c (cutR_ne cs), join_cut cs]
theorem cut_no : ∀ cs, ∀ q ∈ cutR cs, 46 ∉ q
  | [] => by simp [cutR]
  | c :: cs => by
    have ih := cut_no cs
    rw [cutR]
    split
    · intro q hq
      rcases List.mem_cons.1 hq with rfl | hq
      · simp
      · exact ih q hq
    · rename_i h
      cases hc : cutR cs with
      | nil => exact absurd hc (cutR_ne cs)
      | cons p ps =>
        rw [hc] at ih
        intro q hq
        rcases List.mem_cons.1 hq with rfl | hq
        · intro m
          rcases List.mem_cons.1 m with e | m
          · exact h e.symm
          · exact ih p (by simp) m
        · exact ih q (by simp [hq])
theorem cut_app : ∀ (x cs : List Nat), 46 ∉ x → ∀ h t, cutR cs = h :: t → cutR (x ++ cs) = (x ++ h) :: t
  | [], cs, _, h, t, e => by simpa using e
  | b :: x, cs, hn, h, t, e => by
    have hb : b ≠ 46 := fun e => hn (by simp [e])
    have ih := cut_app x cs (fun m => hn (by simp [m])) h t e
    rw [List.cons_append, cutR, if_neg hb, ih]
    rfl
theorem cut_join : ∀ qs : List (List Nat), qs ≠ [] → (∀ q ∈ qs, 46 ∉ q) → cutR (joinR qs) = qs
  | [], h, _ => absurd rfl h
  | [q], _, hn => by
    have := cut_app q [] (hn q (by simp)) [] [] rfl
    show cutR q = [q]
    simpa using this
  | q :: r :: qs, _, hn => by
    have ih := cut_join (r :: qs) (by simp) (fun x hx => hn x (by simp [hx]))
    have e : cutR (46 :: joinR (r :: qs)) = [] :: (r :: qs) := by rw [cutR, if_pos rfl, ih]
    have := cut_app q (46 :: joinR (r :: qs)) (hn q (by simp)) [] (r :: qs) e
    simpa [joinR] using this
theorem allok_all {qs : List (List Nat)} (h : qs ≠ []) : allok true qs = qs.all (okp true) := by
  cases qs with
  | nil => exact absurd rfl h
  | cons q qs => rfl

/-- The bytes of parts with points between. -/
def bytesOf (qs : List (List Nat)) : List UInt8 := (joinR qs).flatMap enc
/-- What a name's parts are. -/
structure Parts (l : List UInt8) (qs : List (List Nat)) : Prop where
  ne : qs ≠ []
  cut : cutB l = qs.map (·.flatMap enc)
  bytes : bytesOf qs = l
  no : ∀ q ∈ qs, 46 ∉ q
  ok : ∀ q ∈ qs, okp true q = true
  few : qs.length ≤ 5
  short : (joinR qs).length ≤ 40
  scals : ∀ c ∈ joinR qs, scal c
theorem parts_of {l : List UInt8} (h : checkL l = 0) : Parts l (cutR (rns l)) := by
  have hv := valid_of_name h
  have hs := rns_scal l
  have he : (rns l).flatMap enc = l := enc_rns l.length l (Nat.le_refl _) hv
  have hc := chk_cut (rns l) 1 0 true
  have h' : chk 1 0 true (rns l) = 0 := h
  rw [h'] at hc
  have hok : allok true (cutR (rns l)) = true := by
    by_cases g : allok true (cutR (rns l)) = true
    · exact g
    · rw [if_neg g] at hc; cases hc
  rw [if_pos hok] at hc
  have hlen : ¬ (5 < 1 + (cutR (rns l)).length - 1 ∨ 40 < 0 + (rns l).length) := by
    intro g
    rw [if_pos g] at hc
    cases hc
  refine ⟨cutR_ne _, ?_, ?_, cut_no _, ?_, by omega, ?_, ?_⟩
  · have := cut_enc (rns l) hs
    rw [he] at this
    exact this
  · unfold bytesOf
    rw [join_cut, he]
  · rw [allok_all (cutR_ne _)] at hok
    exact fun q hq => List.all_eq_true.1 hok q hq
  · rw [join_cut]; omega
  · rw [join_cut]; exact hs
theorem name_of {qs : List (List Nat)} (ne : qs ≠ []) (no : ∀ q ∈ qs, 46 ∉ q) (ok : ∀ q ∈ qs, okp true q = true) (few : qs.length ≤ 5) (short : (joinR qs).length ≤ 40) (scals : ∀ c ∈ joinR qs, scal c) : checkL (bytesOf qs) = 0 := by
  unfold checkL bytesOf
  rw [(rns_enc _ scals).1, chk_cut, cut_join qs ne no, allok_all ne, if_pos (List.all_eq_true.2 ok), if_neg (by omega)]

theorem joinR_app : ∀ (a b : List (List Nat)), a ≠ [] → b ≠ [] → joinR (a ++ b) = joinR a ++ 46 :: joinR b
  | [], _, h, _ => absurd rfl h
  | [q], b, _, hb => joinR_cons q hb
  | q :: r :: a, b, _, hb => by
    rw [List.cons_append, joinR_cons q (by simp), joinR_app (r :: a) b (by simp) hb, joinR_cons q (by simp)]
    simp
theorem joinR_mem : ∀ (qs : List (List Nat)) (q : List Nat), q ∈ qs → ∀ c ∈ q, c ∈ joinR qs
  | [], _, h => by simp at h
  | [r], q, h => by
    have : q = r := by simpa using h
    subst this
    exact fun c hc => hc
  | r :: t :: qs, q, h => by
    intro c hc
    rw [joinR_cons r (by simp)]
    rcases List.mem_cons.1 h with rfl | h
    · exact List.mem_append_left _ hc
    · exact List.mem_append_right _ (List.mem_cons_of_mem _ (joinR_mem (t :: qs) q h c hc))
theorem joinR_len : ∀ (qs : List (List Nat)) (q : List Nat), q ∈ qs → q.length ≤ (joinR qs).length
  | [], _, h => by simp at h
  | [r], q, h => by
    have : q = r := by simpa using h
    subst this
    exact Nat.le_refl _
  | r :: t :: qs, q, h => by
    rw [joinR_cons r (by simp), List.length_append, List.length_cons]
    rcases List.mem_cons.1 h with rfl | h
    · omega
    · have := joinR_len (t :: qs) q h
      omega
/-- The first k parts, and the others. -/
theorem joinR_take {qs : List (List Nat)} {k : Nat} (h0 : 0 < k) (hk : k < qs.length) : joinR qs = joinR (qs.take k) ++ 46 :: joinR (qs.drop k) := by
  have h1 : qs.take k ≠ [] := by intro e; have := congrArg List.length e; rw [List.length_take, List.length_nil] at this; omega
  have h2 : qs.drop k ≠ [] := by intro e; have := congrArg List.length e; rw [List.length_drop, List.length_nil] at this; omega
  have := joinR_app (qs.take k) (qs.drop k) h1 h2
  rw [List.take_append_drop] at this
  exact this
theorem take_ne {qs : List (List Nat)} {k : Nat} (h0 : 0 < k) (hk : k ≤ qs.length) : qs.take k ≠ [] := by
  intro e
  have := congrArg List.length e
  rw [List.length_take, List.length_nil] at this
  omega
theorem take_scal {l : List UInt8} {qs : List (List Nat)} (P : Parts l qs) {k : Nat} (h0 : 0 < k) (hk : k ≤ qs.length) : ∀ c ∈ joinR (qs.take k), scal c := by
  intro c hc
  by_cases h : k < qs.length
  · exact P.scals c (by rw [joinR_take h0 h]; exact List.mem_append_left _ hc)
  · rw [List.take_of_length_le (by omega)] at hc
    exact P.scals c hc
theorem take_short {qs : List (List Nat)} {k : Nat} (h0 : 0 < k) (hk : k ≤ qs.length) : (joinR (qs.take k)).length ≤ (joinR qs).length := by
  by_cases h : k < qs.length
  · rw [joinR_take h0 h, List.length_append]; omega
  · rw [List.take_of_length_le (by omega)]; exact Nat.le_refl _
/-- Each beginning of a name is a name. -/
theorem begin_name {l : List UInt8} {qs : List (List Nat)} (P : Parts l qs) {k : Nat} (h0 : 0 < k) (hk : k ≤ qs.length) : checkL (bytesOf (qs.take k)) = 0 :=
  name_of (take_ne h0 hk) (fun q hq => P.no q (List.mem_of_mem_take hq)) (fun q hq => P.ok q (List.mem_of_mem_take hq)) (by rw [List.length_take]; have := P.few; omega) (by have := take_short h0 hk; have := P.short; omega) (take_scal P h0 hk)
/-- Each part is a name. -/
theorem part_name {l : List UInt8} {qs : List (List Nat)} (P : Parts l qs) {q : List Nat} (hq : q ∈ qs) : checkL (q.flatMap enc) = 0 := by
  have := name_of (qs := [q]) (by simp) (fun x hx => by have : x = q := by simpa using hx
                                                        subst this; exact P.no x hq) (fun x hx => by have : x = q := by simpa using hx
                                                                                                     subst this; exact P.ok x hq) (by simp) (by have := joinR_len qs q hq; have := P.short; show q.length ≤ 40; omega) (fun c hc => P.scals c (joinR_mem qs q hq c hc))
  exact this
theorem fold_bytes {qs : List (List Nat)} (h : ∀ c ∈ joinR qs, scal c) : foldL (bytesOf qs) = ((joinR qs).map smallN).flatMap enc := by
  unfold foldL bytesOf
  rw [if_pos (rns_enc _ h).2, (rns_enc _ h).1]
theorem small46 : smallN 46 = 46 := by decide
theorem fold_take {l : List UInt8} {qs : List (List Nat)} (P : Parts l qs) {k : Nat} (h0 : 0 < k) (hk : k < qs.length) : ∃ y, foldL l = foldL (bytesOf (qs.take k)) ++ 46 :: y := by
  refine ⟨((joinR (qs.drop k)).map smallN).flatMap enc, ?_⟩
  have e1 := fold_bytes P.scals
  rw [P.bytes] at e1
  rw [e1, fold_bytes (take_scal P h0 (Nat.le_of_lt hk)), joinR_take h0 hk, List.map_append, List.flatMap_append, List.map_cons, List.flatMap_cons, small46, enc46]
  rfl
/-- A name is under each of its beginnings. -/
theorem under_begin {l : List UInt8} {qs : List (List Nat)} (P : Parts l qs) {k : Nat} (h0 : 0 < k) (hk : k ≤ qs.length) : hasPrefix (foldL l ++ [46]) (foldL (bytesOf (qs.take k)) ++ [46]) = true := by
  unfold hasPrefix
  rw [List.isPrefixOf_iff_prefix]
  by_cases h : k < qs.length
  · obtain ⟨y, e⟩ := fold_take P h0 h
    exact ⟨y ++ [46], by rw [e]; simp⟩
  · rw [List.take_of_length_le (by omega), P.bytes]
    exact List.prefix_refl _
/-- .. and a beginning is under it just if it is all of it. -/
theorem begin_under {l : List UInt8} {qs : List (List Nat)} (P : Parts l qs) {k : Nat} (h0 : 0 < k) (hk : k ≤ qs.length) : hasPrefix (foldL (bytesOf (qs.take k)) ++ [46]) (foldL l ++ [46]) = decide (k = qs.length) := by
  unfold hasPrefix
  by_cases h : k < qs.length
  · obtain ⟨y, e⟩ := fold_take P h0 h
    rw [decide_eq_false (by omega), Bool.eq_false_iff]
    intro hp
    have h1 := (List.isPrefixOf_iff_prefix.1 hp).length_le
    rw [e] at h1
    simp at h1
  · have hk' : k = qs.length := by omega
    rw [decide_eq_true hk', hk', List.take_of_length_le (Nat.le_refl _), P.bytes, List.isPrefixOf_iff_prefix]
    exact List.prefix_refl _
theorem bytes_step {qs : List (List Nat)} {k : Nat} (hk : k < qs.length) : bytesOf (qs.take (k + 1)) = if k = 0 then (qs[k]).flatMap enc else bytesOf (qs.take k) ++ 46 :: (qs[k]).flatMap enc := by
  rw [List.take_succ_eq_append_getElem hk]
  by_cases h0 : k = 0
  · subst h0
    rfl
  · rw [if_neg h0]
    unfold bytesOf
    rw [joinR_app _ _ (take_ne (by omega) (by omega)) (by simp), List.flatMap_append, List.flatMap_cons, enc46]
    rfl
end Go.Proofs.YtfbnlkgopncejaaGreatDoor
