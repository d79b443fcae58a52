/- A token, shown alone, is cut into itself. Plain, of no program. -/
import Derived.Test.YtmfeoiblhjfpjaaGreatDoorZb4
import Derived.Lib.Join
import Derived.Test.YtmfeoiblhjfpjaaGreatDoorZb1
import Derived.Shelf.Strings.Builder2
import Derived.Test.YtmfeoiblhjfpjaaGreatDoorProg
namespace Go.Proofs.YtmfeoiblhjfpjaaGreatDoor
open Go.Lib
set_option maxRecDepth 100000

/-- A token's text. -/
def shTk (t : Tk) : List UInt8 := if t.k = 2 then shwL t.vk t.vn t.vs else t.s
/-- A rune that a word goes on with is decoded the same from what is cut off behind it. -/
theorem dec_take {l : List UInt8} {m : Nat} (hne : l ≠ []) (hg : goC (decodeL l).1 = true) (hm : (decodeL l).2 ≤ m) : decodeL (l.take m) = decodeL l := by
  have hn : ¬ ((decodeL l).1 = 65533 ∧ (decodeL l).2 = 1) := fun h => by rw [h.1] at hg; revert hg; decide
  have e := enc_dec hne hn
  have hle := decodeL_le l hne
  have hs := decodeL_scal l
  have e2 : l.take m = enc (decodeL l).1 ++ (l.take m).drop (decodeL l).2 := by
    rw [e]
    conv => lhs; rw [← List.take_append_drop (decodeL l).2 (l.take m)]
    rw [List.take_take, Nat.min_eq_left hm]
  have e3 : (enc (decodeL l).1).length = (decodeL l).2 := by rw [e, List.length_take, Nat.min_eq_left hle]
  rw [e2, dec_enc _ _ hs, e3]
theorem wgo_take : ∀ (n : Nat) (l : List UInt8), l.length ≤ n → wgo (l.take (wgo l)) = wgo l
  | 0, l, h => by
    obtain rfl : l = [] := List.eq_nil_of_length_eq_zero (by omega)
    rfl
  | n + 1, l, h => by
    by_cases hne : l = []
    · subst hne; rfl
    · have hw := decodeL_width l
      have hle := decodeL_le l hne
      have hs := wgo_step hne
      cases hg : goC (decodeL l).1
      · rw [if_neg (by rw [hg]; decide)] at hs
        rw [hs]
        rfl
      · rw [if_pos hg] at hs
        have hd : (decodeL l).2 ≤ wgo l := by omega
        have e1 := dec_take hne hg hd
        have hne2 : l.take (wgo l) ≠ [] := by
          intro e
          have := congrArg List.length e
          have := wgo_le _ l (Nat.le_refl _)
          simp only [List.length_take, List.length_nil] at *
          omega
        rw [wgo_step hne2, e1, if_pos hg, List.drop_take]
        have e2 : wgo l - (decodeL l).2 = wgo (l.drop (decodeL l).2) := by omega
        rw [e2, wgo_take n _ (by rw [List.length_drop]; omega)]
        omega
theorem wgo_rest : ∀ (n : Nat) (l : List UInt8), l.length ≤ n → goesL (l.drop (wgo l)) = false
  | 0, l, h => by
    obtain rfl : l = [] := List.eq_nil_of_length_eq_zero (by omega)
    decide +kernel
  | n + 1, l, h => by
    by_cases hne : l = []
    · subst hne; decide +kernel
    · have hw := decodeL_width l
      have hs := wgo_step hne
      cases hg : goC (decodeL l).1
      · rw [if_neg (by rw [hg]; decide)] at hs
        rw [hs]
        exact hg
      · rw [if_pos hg] at hs
        have := wgo_rest n (l.drop (decodeL l).2) (by rw [List.length_drop]; omega)
        rw [List.drop_drop] at this
        rw [hs]
        exact this
theorem wgo_asc {b : UInt8} {t : List UInt8} (h : b.toNat < 128) (hg : goC b.toNat = true) : wgo (b :: t) = 1 + wgo t := by
  rw [wgo_step (by simp), dec_ascii h, if_pos hg]
  rfl
theorem wgo_asc0 {b : UInt8} {t : List UInt8} (h : b.toNat < 128) (hg : goC b.toNat = false) : wgo (b :: t) = 0 := by
  rw [wgo_step (by simp), dec_ascii h, if_neg (by rw [hg]; decide)]
theorem word_first {l : List UInt8} (hw : 0 < wsz l) : l ≠ [] ∧ wsz l = wgo l ∧ goC (decodeL l).1 = true ∧ ((decodeL l).1 = 95 ∨ letterN (decodeL l).1 = true) := by
  unfold wsz at hw
  split at hw
  · rename_i h
    refine ⟨h.1, if_pos h, ?_, h.2⟩
    rcases h.2 with e | e
    · rw [e]; decide
    · unfold goC; rw [e]; rfl
  · simp at hw
/-- A word alone is no literal. -/
theorem word_no {t r0 : List UInt8} (hw : 0 < wsz t) (hl : wgo t = t.length) (hg : goesL r0 = false) (hv : ¬ ((scn (t ++ r0)).e = 0 ∧ wgo (scn (t ++ r0)).r = 0)) : (scn t).e ≠ 2 ∧ ¬ ((scn t).e = 0 ∧ wgo (scn t).r = 0) := by
  obtain ⟨hne, -, -, -⟩ := word_first hw
  obtain ⟨b, u, rfl⟩ := List.exists_cons_of_ne_nil hne
  obtain ⟨f1, f2, f3⟩ := first_no (.inl hw)
  have nox : ∀ v, b :: u ≠ 120 :: 39 :: v := fun v e => by
    rw [e, wgo_asc (b := 120) (by decide) (by decide), wgo_asc0 (b := 39) (by decide) (by decide)] at hl
    simp at hl
  constructor
  · have q1 : hasPrefix (b :: u) [34] = false := pre_not [] u f1
    have q5 : hasPrefix (b :: u) [45] = false := pre_not [] u f2
    have q2 : hasPrefix (b :: u) [120, 39] = false := by
      cases e : hasPrefix (b :: u) [120, 39]
      · rfl
      · exact absurd (pre_drop e).symm (nox _)
    unfold scn
    rw [q1, if_neg (by decide), q2, if_neg (by decide)]
    split
    · unfold scB; split <;> simp
    split
    · unfold scB; split <;> simp
    rw [q5, if_neg (by decide)]
    have e : scI false (b :: u) = .bad 3 := by
      unfold scI
      rw [if_pos (.inl (by simp [digs, f3]))]
    rw [e]
    decide
  · rintro ⟨h0, hr⟩
    obtain ⟨ok, ho⟩ := scn_once h0
    generalize (scn (b :: u)).k = k at *
    generalize (scn (b :: u)).n = n at *
    generalize (scn (b :: u)).s = s at *
    generalize (scn (b :: u)).r = r at *
    have hr0 : r = [] := by
      rcases ok with ⟨rfl, rfl, -, -⟩ | ⟨rfl, rfl, -, -⟩ | ⟨rfl, rfl, hn⟩ | ⟨rfl, rfl, -⟩
      · exfalso
        have hh : ∃ c v, shwL 1 n [] = c :: v ∧ (c = 45 ∨ isD c = true) := by
          unfold shwL itoa
          rw [if_pos rfl]
          split
          · exact ⟨45, _, rfl, .inl rfl⟩
          · obtain ⟨a1, a2, -, -⟩ := decDigits_ok n.toNat
            obtain ⟨c, v, e⟩ := List.exists_cons_of_ne_nil a1
            exact ⟨c, v, e, .inr (a2 c (by rw [e]; simp))⟩
        obtain ⟨c, v, e, hc⟩ := hh
        rw [e, List.cons_append] at ho
        have hb : c = b := (List.cons.inj ho).1
        subst hb
        rcases hc with hc | hc
        · exact f2 hc
        · rw [f3] at hc; cases hc
      · exfalso
        have e : shwL 2 0 s = 34 :: ((rns s).flatMap shR ++ [34]) := rfl
        rw [e, List.cons_append] at ho
        exact f1 (List.cons.inj ho).1.symm
      · rw [← ho] at hl
        have : (shwL 3 n [] ++ r).length = (shwL 3 n []).length + r.length := List.length_append
        have e4 : wgo (shwL 3 n [] ++ r) = (shwL 3 n []).length + wgo r := by
          rcases hn with rfl | rfl
          · show wgo (102 :: 97 :: 108 :: 115 :: 101 :: r) = 5 + wgo r
            rw [wgo_asc (by decide) (by decide), wgo_asc (by decide) (by decide), wgo_asc (by decide) (by decide), wgo_asc (by decide) (by decide), wgo_asc (by decide) (by decide)]
            omega
          · show wgo (116 :: 114 :: 117 :: 101 :: r) = 4 + wgo r
            rw [wgo_asc (by decide) (by decide), wgo_asc (by decide) (by decide), wgo_asc (by decide) (by decide), wgo_asc (by decide) (by decide)]
            omega
        exact List.eq_nil_of_length_eq_zero (by omega)
      · exfalso
        have e : shwL 4 0 s = 120 :: 39 :: (hexs s ++ [39]) := rfl
        rw [e] at ho
        exact nox _ ho.symm
    subst hr0
    rw [List.append_nil] at ho
    have := scn_back ok hg
    rw [ho] at this
    exact hv (by rw [this]; exact ⟨rfl, goes_wgo hg⟩)
/-- A TOKEN, SHOWN ALONE, is cut into itself. -/
theorem cut_alone {l : List UInt8} (h : (cutL l).e = 0) : cutL (shTk (cutL l).t) = ⟨(cutL l).t, (shTk (cutL l).t).length, 0⟩ := by
  have hC : ∀ l, cutL l = if (scn l).e = 2 then .bad 2 else if (scn l).e = 0 ∧ wgo (scn l).r = 0 then ⟨⟨2, 0, [], (scn l).k, (scn l).n, (scn l).s⟩, l.length - (scn l).r.length, 0⟩ else if 0 < wsz l then ⟨⟨1, 0, l.take (wsz l), 0, 0, []⟩, wsz l, 0⟩ else if 0 < msz l then ⟨⟨3, 0, l.take (msz l), 0, 0, []⟩, msz l, 0⟩ else .bad 3 := fun _ => rfl
  rw [hC l] at h ⊢
  by_cases h2 : (scn l).e = 2
  · rw [if_pos h2] at h; cases h
  rw [if_neg h2] at h ⊢
  by_cases hv : (scn l).e = 0 ∧ wgo (scn l).r = 0
  · rw [if_pos hv]
    obtain ⟨ok, -⟩ := scn_once hv.1
    have e := scn_back ok (t := []) (by decide +kernel)
    rw [List.append_nil] at e
    show cutL (shwL (scn l).k (scn l).n (scn l).s) = ⟨⟨2, 0, [], (scn l).k, (scn l).n, (scn l).s⟩, (shwL (scn l).k (scn l).n (scn l).s).length, 0⟩
    rw [hC, e, if_neg (show ¬ (0 : Int) = 2 by decide), if_pos ⟨rfl, rfl⟩]
    rfl
  rw [if_neg hv] at h ⊢
  by_cases hw : 0 < wsz l
  · rw [if_pos hw]
    obtain ⟨hne, e1, hg, hf⟩ := word_first hw
    have hle := wgo_le _ l (Nat.le_refl _)
    have hs := wgo_step hne
    rw [if_pos hg] at hs
    show cutL (l.take (wsz l)) = ⟨⟨1, 0, l.take (wsz l), 0, 0, []⟩, (l.take (wsz l)).length, 0⟩
    have hw1 : 0 < wgo l := by omega
    rw [e1]
    have ed := dec_take hne hg (m := wgo l) (by omega)
    have ew := wgo_take _ l (Nat.le_refl _)
    have er := wgo_rest _ l (Nat.le_refl _)
    have el : (l.take (wgo l)).length = wgo l := by rw [List.length_take, Nat.min_eq_left hle]
    have ea : l.take (wgo l) ++ l.drop (wgo l) = l := List.take_append_drop _ _
    generalize l.take (wgo l) = t at *
    have hnt : t ≠ [] := fun e => by rw [e] at el; simp at el; omega
    have ewz : wsz t = t.length := by
      unfold wsz
      rw [ed, if_pos ⟨hnt, hf⟩]
      omega
    obtain ⟨g2, g3⟩ := word_no (t := t) (r0 := l.drop (wgo l)) (by omega) (by omega) er (by rw [ea]; exact hv)
    rw [hC, if_neg g2, if_neg g3, ewz, if_pos (by omega), List.take_of_length_le (Nat.le_refl _)]
  rw [if_neg hw] at h ⊢
  by_cases hm : 0 < msz l
  · rw [if_pos hm]
    show cutL (l.take (msz l)) = ⟨⟨3, 0, l.take (msz l), 0, 0, []⟩, (l.take (msz l)).length, 0⟩
    unfold msz at hm ⊢
    split
    · rename_i hp
      rcases hp with hp | hp | hp
      all_goals
        have e := pre_drop hp
        rw [← e]
        rfl
    · rename_i hp
      rw [if_neg hp] at hm
      split at hm
      · rename_i hi
        rw [if_pos hi]
        cases l with
        | nil => exact absurd hi (by decide)
        | cons b u =>
          have hb : ∀ n : Fin 256, 0 ≤ indexByte marks1 (UInt8.ofNat n.val) → UInt8.ofNat n.val = 61 ∨ UInt8.ofNat n.val = 60 ∨ UInt8.ofNat n.val = 62 ∨ UInt8.ofNat n.val = 123 ∨ UInt8.ofNat n.val = 125 ∨ UInt8.ofNat n.val = 40 ∨ UInt8.ofNat n.val = 41 ∨ UInt8.ofNat n.val = 44 := by decide +kernel
          have := hb ⟨b.toNat, UInt8.toNat_lt b⟩
          simp only [UInt8.ofNat_toNat] at this
          rcases this hi with rfl | rfl | rfl | rfl | rfl | rfl | rfl | rfl <;> rfl
      · simp at hm
  · rw [if_neg hm] at h; cases h
end Go.Proofs.YtmfeoiblhjfpjaaGreatDoor
/- Tokens, shown with blanks between, are cut into themselves. Plain, of no program. -/
namespace Go.Proofs.YtmfeoiblhjfpjaaGreatDoor
open Go.Lib
set_option maxRecDepth 100000

/-- What begins with a blank is no token. -/
theorem cut_blank {l : List UInt8} (hne : l ≠ []) (h : (cutL l).e = 0) : blankN (decodeL l).1 = false := by
  cases hb : blankN (decodeL l).1
  · rfl
  · exfalso
    have hc : (decodeL l).1 = 32 ∨ (decodeL l).1 = 9 ∨ (decodeL l).1 = 10 ∨ (decodeL l).1 = 13 := by
      unfold blankN at hb
      simpa using hb
    obtain ⟨b, u, rfl, hbn⟩ := dec_small hne rfl (by omega)
    have hb4 : b = 32 ∨ b = 9 ∨ b = 10 ∨ b = 13 := by
      rw [← hbn] at hc
      rcases hc with h | h | h | h
      · exact .inl (UInt8.toNat_inj.1 h)
      · exact .inr (.inl (UInt8.toNat_inj.1 h))
      · exact .inr (.inr (.inl (UInt8.toNat_inj.1 h)))
      · exact .inr (.inr (.inr (UInt8.toNat_inj.1 h)))
    have key : (cutL (b :: u)).e = 3 := by
      rcases hb4 with rfl | rfl | rfl | rfl
      all_goals
        have es : ∀ {b : UInt8}, b ≠ 34 → b ≠ 120 → b ≠ 116 → b ≠ 102 → b ≠ 45 → isD b = false → scn (b :: u) = .bad 3 := fun h1 h2 h3 h4 h5 h6 => by
          unfold scn
          rw [pre_not [] u h1, if_neg (by decide), pre_not [39] u h2, if_neg (by decide), pre_not [114, 117, 101] u h3, if_neg (by decide), pre_not [97, 108, 115, 101] u h4, if_neg (by decide), pre_not [] u h5, if_neg (by decide)]
          unfold scI
          rw [if_pos (.inl (by simp [digs, h6]))]
        have w0 : ∀ {b : UInt8}, b.toNat < 128 → b.toNat ≠ 95 → letterN b.toNat = false → wsz (b :: u) = 0 := fun h1 h2 h3 => by
          unfold wsz
          rw [dec_ascii h1, if_neg (by rintro ⟨-, h | h⟩; exact h2 h; rw [h3] at h; cases h)]
        have m0 : ∀ {b : UInt8}, b ≠ 33 → b ≠ 60 → b ≠ 62 → ¬ 0 ≤ indexByte marks1 b → msz (b :: u) = 0 := fun h1 h2 h3 h4 => by
          unfold msz
          rw [if_neg ?_, if_neg (show ¬ 0 ≤ indexByte marks1 ((_ :: u).getD 0 0) from h4)]
          rw [pre_not [61] u h1, pre_not [61] u h2, pre_not [61] u h3]
          simp
        unfold cutL
        rw [es (by decide) (by decide) (by decide) (by decide) (by decide) (by decide), w0 (by decide) (by decide) (by decide), m0 (by decide) (by decide) (by decide) (by decide)]
        rfl
    rw [key] at h
    cases h
/-- Within a token nothing more is cut. -/
theorem lxs_in : ∀ (n : Nat) (l : List UInt8) (pos at' en : Nat) (acc : List Tk), l.length ≤ n → pos + l.length ≤ en → ∃ N : Int, lxs l pos at' en (-1) acc = ⟨acc, N, 0⟩
  | 0, l, pos, at', en, acc, h, _ => by
    obtain rfl : l = [] := List.eq_nil_of_length_eq_zero (by omega)
    exact ⟨at', by rw [lxs_nil, lxEnd, if_neg (by decide)]⟩
  | n + 1, l, pos, at', en, acc, h, he => by
    by_cases hne : l = []
    · subst hne
      exact ⟨at', by rw [lxs_nil, lxEnd, if_neg (by decide)]⟩
    · have hw := decodeL_width l
      have hle := decodeL_le l hne
      have hl : 0 < l.length := List.length_pos_iff.2 hne
      rw [lxs_step hne, if_neg (by omega)]
      exact lxs_in n _ _ _ _ _ (by rw [List.length_drop]; omega) (by rw [List.length_drop]; omega)
/-- One token's text. -/
theorem lex_one {s : List UInt8} {t : Tk} (hv : validD s = true) (hne : s ≠ []) (h : cutL s = ⟨t, s.length, 0⟩) : ∃ N : Int, lexL s = ⟨[{ t with p := 0 }], N, 0⟩ := by
  have hb := cut_blank hne (by rw [h])
  unfold lexL
  rw [if_pos hv]
  show ∃ N, lxs s 0 0 0 (-1) [] = _
  have hle := decodeL_le s hne
  rw [lxs_step hne, if_pos ⟨Nat.le_refl _, hb⟩, h, if_neg (show ¬ (0 : Int) = 3 by decide), if_neg (show ¬ (0 : Int) = 2 by decide), if_pos ⟨by decide, by simp⟩]
  exact lxs_in _ _ _ _ _ _ (Nat.le_refl _) (by rw [List.length_drop]; show 0 + _ + _ ≤ 0 + s.length; omega)
/-- The texts of tokens, with a blank between. -/
def joinT : List Tk → List UInt8
  | [] => []
  | [t] => shTk t
  | t :: u :: ts => shTk t ++ 32 :: joinT (u :: ts)
/-- May a token be? -/
def TkOk (t : Tk) : Prop := validD (shTk t) = true ∧ shTk t ≠ [] ∧ cutL (shTk t) = ⟨{ t with p := 0 }, (shTk t).length, 0⟩
/-- TOKENS, SHOWN, ARE CUT INTO THEMSELVES, but for their places. -/
theorem lex_join : ∀ (T : List Tk), (∀ t ∈ T, TkOk t) → T.length ≤ 300 → ∃ (T2 : List Tk) (N : Int), lexL (joinT T) = ⟨T2, N, 0⟩ ∧ bare T2 = bare T
  | [], _, _ => ⟨[], 0, rfl, rfl⟩
  | [t], h, _ => by
    obtain ⟨h1, h2, h3⟩ := h t (by simp)
    obtain ⟨N, e⟩ := lex_one h1 h2 h3
    exact ⟨_, N, e, rfl⟩
  | t :: u :: ts, h, hl => by
    obtain ⟨h1, h2, h3⟩ := h t (by simp)
    obtain ⟨N, e⟩ := lex_one h1 h2 h3
    obtain ⟨T2, N2, e2, b2⟩ := lex_join (u :: ts) (fun x hx => h x (List.mem_cons_of_mem _ hx)) (by simp at hl ⊢; omega)
    have hlen : T2.length = (u :: ts).length := by have := congrArg List.length b2; simpa [bare] using this
    obtain ⟨M2, k, e3, b3⟩ := lex_two (bl := []) e e2 (by rw [hlen]; simp at hl ⊢; omega) (fun c hc => by cases hc)
    refine ⟨_, k, e3, ?_⟩
    have e4 : bare ([{ t with p := 0 }] ++ M2) = { t with p := 0 } :: bare M2 := rfl
    rw [e4, b3, b2]
    rfl
end Go.Proofs.YtmfeoiblhjfpjaaGreatDoor
/- The tokens of a text may be shown. Plain, of no program. -/
namespace Go.Proofs.YtmfeoiblhjfpjaaGreatDoor
open Go.Lib
set_option maxRecDepth 100000

theorem valid_asc : ∀ (l : List UInt8) (y : List UInt8), (∀ b ∈ l, b.toNat < 128) → validD (l ++ y) = validD y
  | [], _, _ => rfl
  | b :: t, y, h => by
    rw [List.cons_append, validD_cons _ _ (h b (by simp))]
    exact valid_asc t y fun c hc => h c (List.mem_cons_of_mem _ hc)
theorem valid_enc (c : Nat) (y : List UInt8) (hs : scal c) : validD (enc c ++ y) = validD y := by
  have e := dec_enc c y hs
  have hn : enc c ++ y ≠ [] := by
    intro h
    have : decodeL (enc c ++ y) = decodeL [] := by rw [h]
    have hw := decodeL_width (enc c ++ y)
    rw [e] at hw
    have : enc c = [] := (List.append_eq_nil_iff.1 h).1
    rw [this] at hw
    simp at hw
  rw [validD_step _ hn, e]
  by_cases hc : c = 65533 ∧ (enc c).length = 1
  · exfalso
    obtain ⟨rfl, h1⟩ := hc
    revert h1
    decide +kernel
  · rw [if_neg hc]
    simp
theorem shR_asc : ∀ c : Fin 128, ∀ b ∈ shR c.val, b.toNat < 128 := by decide +kernel
theorem valid_shR : ∀ (cs : List Nat) (y : List UInt8), (∀ c ∈ cs, scal c) → validD (cs.flatMap shR ++ y) = validD y
  | [], _, _ => rfl
  | c :: cs, y, h => by
    have ih := valid_shR cs y fun d hd => h d (List.mem_cons_of_mem _ hd)
    rw [List.flatMap_cons, List.append_assoc]
    by_cases hc : c < 128
    · rw [valid_asc _ _ (shR_asc ⟨c, hc⟩), ih]
    · rw [shR_big (by omega), valid_enc c _ (h c (by simp)), ih]
theorem valid_take : ∀ (n : Nat) (l : List UInt8), l.length ≤ n → validD (l.take (wgo l)) = true
  | 0, l, h => by
    obtain rfl : l = [] := List.eq_nil_of_length_eq_zero (by omega)
    rfl
  | n + 1, l, h => by
    by_cases hne : l = []
    · subst hne; rfl
    · have hw := decodeL_width l
      have hs := wgo_step hne
      cases hg : goC (decodeL l).1
      · rw [if_neg (by rw [hg]; decide)] at hs
        rw [hs]
        rfl
      · rw [if_pos hg] at hs
        have e1 := dec_take hne hg (m := wgo l) (by omega)
        have hne2 : l.take (wgo l) ≠ [] := by
          intro e
          have := congrArg List.length e
          have := wgo_le _ l (Nat.le_refl _)
          simp only [List.length_take, List.length_nil] at *
          omega
        rw [validD_step _ hne2, e1, if_neg (fun h => by rw [h.1] at hg; revert hg; decide), List.drop_take, show wgo l - (decodeL l).2 = wgo (l.drop (decodeL l).2) by omega]
        exact valid_take n _ (by rw [List.length_drop]; omega)
theorem valid_nil : validD [] = true := rfl
theorem hex_asc : ∀ n : Fin 256, ∀ b ∈ hex2 (UInt8.ofNat n.val), b.toNat < 128 := by decide +kernel
theorem valid_39 : validD [39] = true := by decide +kernel
theorem valid_34 : validD [34] = true := by decide +kernel
theorem valid_shw {k n : Int} {s : List UInt8} (ok : okL k n s) : validD (shwL k n s) = true := by
  have asc : ∀ l : List UInt8, (∀ b ∈ l, b.toNat < 128) → validD l = true := fun l h => by have := valid_asc l [] h; rwa [List.append_nil] at this
  rcases ok with ⟨rfl, rfl, -, -⟩ | ⟨rfl, rfl, -, -⟩ | ⟨rfl, rfl, hn⟩ | ⟨rfl, rfl, -⟩
  · have hd : ∀ m, ∀ b ∈ decDigits m, b.toNat < 128 := fun m b hb => by
      have := (decDigits_ok m).2.1 b hb
      unfold isD at this
      simp at this
      omega
    unfold shwL itoa
    rw [if_pos rfl]
    by_cases hn : n < 0
    · rw [if_pos hn]
      exact (validD_cons 45 _ (by decide)).trans (asc _ (hd _))
    · rw [if_neg hn]
      exact asc _ (hd _)
  · have e : shwL 2 0 s = 34 :: ((rns s).flatMap shR ++ [34]) := rfl
    rw [e]
    exact (validD_cons 34 _ (by decide)).trans ((valid_shR _ _ (rns_scal s)).trans valid_34)
  · have a1 : validD [102, 97, 108, 115, 101] = true := asc _ (by decide)
    have a2 : validD [116, 114, 117, 101] = true := asc _ (by decide)
    rcases hn with rfl | rfl
    · exact a1
    · exact a2
  · have e : shwL 4 0 s = 120 :: 39 :: (hexs s ++ [39]) := rfl
    rw [e]
    have hx : ∀ b ∈ hexs s, b.toNat < 128 := by
      intro b hb
      unfold hexs at hb
      obtain ⟨c, _, hc⟩ := List.mem_flatMap.1 hb
      have := hex_asc ⟨c.toNat, UInt8.toNat_lt c⟩ b
      simp only [UInt8.ofNat_toNat] at this
      exact this hc
    rw [validD_cons 120 _ (by decide), validD_cons 39 _ (by decide), valid_asc (hexs s) [39] hx]
    exact valid_39
/-- A token that is cut may be shown. -/
theorem tk_ok {l : List UInt8} (h : (cutL l).e = 0) : TkOk (cutL l).t := by
  have ha := cut_alone h
  have hC : ∀ l, cutL l = if (scn l).e = 2 then .bad 2 else if (scn l).e = 0 ∧ wgo (scn l).r = 0 then ⟨⟨2, 0, [], (scn l).k, (scn l).n, (scn l).s⟩, l.length - (scn l).r.length, 0⟩ else if 0 < wsz l then ⟨⟨1, 0, l.take (wsz l), 0, 0, []⟩, wsz l, 0⟩ else if 0 < msz l then ⟨⟨3, 0, l.take (msz l), 0, 0, []⟩, msz l, 0⟩ else .bad 3 := fun _ => rfl
  have hne : shTk (cutL l).t ≠ [] := by
    intro e
    rw [e] at ha
    have : (cutL []).e = 3 := by decide +kernel
    rw [ha] at this
    cases this
  have hp : validD (shTk (cutL l).t) = true ∧ (cutL l).t.p = 0 := by
    rw [hC] at h ⊢
    by_cases h2 : (scn l).e = 2
    · rw [if_pos h2] at h; cases h
    rw [if_neg h2] at h ⊢
    by_cases hv : (scn l).e = 0 ∧ wgo (scn l).r = 0
    · rw [if_pos hv]
      exact ⟨valid_shw (scn_once hv.1).1, rfl⟩
    rw [if_neg hv] at h ⊢
    by_cases hw : 0 < wsz l
    · rw [if_pos hw]
      refine ⟨?_, rfl⟩
      show validD (l.take (wsz l)) = true
      rw [(word_first hw).2.1]
      exact valid_take _ l (Nat.le_refl _)
    rw [if_neg hw] at h ⊢
    by_cases hm : 0 < msz l
    · rw [if_pos hm]
      refine ⟨?_, rfl⟩
      show validD (l.take (msz l)) = true
      unfold msz at hm ⊢
      split
      · rename_i hp
        rcases hp with hp | hp | hp
        all_goals
          have e := pre_drop hp
          rw [← e]
          rfl
      · rename_i hp
        rw [if_neg hp] at hm
        split at hm
        · rename_i hi
          rw [if_pos hi]
          cases l with
          | nil => exact absurd hi (by decide)
          | cons b u =>
            have hb : ∀ n : Fin 256, 0 ≤ indexByte marks1 (UInt8.ofNat n.val) → n.val < 128 := by decide +kernel
            have := hb ⟨b.toNat, UInt8.toNat_lt b⟩
            simp only [UInt8.ofNat_toNat] at this
            show validD [b] = true
            rw [validD_cons _ _ (this hi)]
            rfl
        · simp at hm
    · rw [if_neg hm] at h; cases h
  refine ⟨hp.1, hne, ?_⟩
  rw [ha]
  have : ({ (cutL l).t with p := 0 } : Tk) = (cutL l).t := by rw [← hp.2]
  rw [this]
/-- All tokens of a text may be shown; their places rise, and lie within; so many runes as have been gone through. -/
theorem lxs_ok : ∀ (n : Nat) (l : List UInt8) (pos at' en : Nat) (acc L : List Tk) (N : Int), l.length ≤ n → lxs l pos at' en (-1) acc = ⟨L, N, 0⟩ → (∀ t ∈ acc, TkOk t) → ∀ t ∈ L, TkOk t
  | 0, l, pos, at', en, acc, L, N, h, hx, ha => by
    obtain rfl : l = [] := List.eq_nil_of_length_eq_zero (by omega)
    rw [lxs_nil, lxEnd, if_neg (by decide)] at hx
    cases hx
    exact ha
  | n + 1, l, pos, at', en, acc, L, N, h, hx, ha => by
    by_cases hne : l = []
    · subst hne
      rw [lxs_nil, lxEnd, if_neg (by decide)] at hx
      cases hx
      exact ha
    · have hw := decodeL_width l
      have hld : (l.drop (decodeL l).2).length = l.length - (decodeL l).2 := List.length_drop
      rw [lxs_step hne] at hx
      by_cases hg : en ≤ pos ∧ blankN (decodeL l).1 = false
      · rw [if_pos hg] at hx
        by_cases h3 : (cutL l).e = 3
        · rw [if_pos h3] at hx; cases hx
        by_cases h2 : (cutL l).e = 2
        · rw [if_neg h3, if_pos h2] at hx; cases hx
        have h0 : (cutL l).e = 0 := (cut_sizeP l).2.elim id fun h => h.elim (fun h => absurd h h2) fun h => absurd h h3
        rw [if_neg h3, if_neg h2] at hx
        by_cases hc : (-1 : Int) < 0 ∧ acc.length ≠ 300
        · rw [if_pos hc] at hx
          refine lxs_ok n _ _ _ _ _ L N (by omega) hx ?_
          intro t ht
          rcases List.mem_append.1 ht with ht | ht
          · exact ha t ht
          · simp at ht
            subst ht
            exact tk_ok h0
        · rw [if_neg hc, if_pos (by decide)] at hx
          exact absurd (congrArg Lx.e hx) (lxs_bad _ _ _ _ _ _ _ (Nat.le_refl _) (by omega))
      · rw [if_neg hg] at hx
        exact lxs_ok n _ _ _ _ _ L N (by omega) hx ha
end Go.Proofs.YtmfeoiblhjfpjaaGreatDoor
/- The places of a text's tokens rise and lie within it; so many runes as there are; where an error is told. Plain, of no program. -/
namespace Go.Proofs.YtmfeoiblhjfpjaaGreatDoor
open Go.Lib
set_option maxRecDepth 100000

/-- Places rise, and lie within. -/
def Rising (b : Int) (l : List Tk) : Prop := l.Pairwise (fun x y => x.p < y.p) ∧ ∀ t ∈ l, 0 ≤ t.p ∧ t.p < b
theorem rising_nil (b : Int) : Rising b [] := ⟨.nil, fun t ht => by cases ht⟩
theorem rising_more {b c : Int} {l : List Tk} (h : Rising b l) (hc : b ≤ c) : Rising c l := ⟨h.1, fun t ht => ⟨(h.2 t ht).1, by have := (h.2 t ht).2; omega⟩⟩
theorem rising_snoc {b : Int} {l : List Tk} {t : Tk} (h : Rising b l) (h0 : 0 ≤ b) (ht : t.p = b) : Rising (b + 1) (l ++ [t]) := by
  refine ⟨List.pairwise_append.2 ⟨h.1, List.pairwise_singleton _ _, ?_⟩, ?_⟩
  · intro x hx y hy
    simp at hy
    subst hy
    rw [ht]
    exact (h.2 x hx).2
  · intro x hx
    rcases List.mem_append.1 hx with hx | hx
    · have := h.2 x hx; omega
    · simp at hx; subst hx; omega
/-- What is so of the tokens of a text. -/
structure LkOk (m : Nat) (N : Int) (L : List Tk) : Prop where
  ok : ∀ t ∈ L, TkOk t
  rise : Rising N L
  few : L.length ≤ 300
  short : ∀ t ∈ L, (shTk t).length ≤ m
  kind : ∀ t ∈ L, t.k = 1 ∨ t.k = 2 ∧ okL t.vk t.vn t.vs ∨ t.k = 3
theorem tk_short {l : List UInt8} (h : (cutL l).e = 0) : (shTk (cutL l).t).length ≤ l.length ∧ ((cutL l).t.k = 1 ∨ (cutL l).t.k = 2 ∧ okL (cutL l).t.vk (cutL l).t.vn (cutL l).t.vs ∨ (cutL l).t.k = 3) := by
  have hC : ∀ l, cutL l = if (scn l).e = 2 then .bad 2 else if (scn l).e = 0 ∧ wgo (scn l).r = 0 then ⟨⟨2, 0, [], (scn l).k, (scn l).n, (scn l).s⟩, l.length - (scn l).r.length, 0⟩ else if 0 < wsz l then ⟨⟨1, 0, l.take (wsz l), 0, 0, []⟩, wsz l, 0⟩ else if 0 < msz l then ⟨⟨3, 0, l.take (msz l), 0, 0, []⟩, msz l, 0⟩ else .bad 3 := fun _ => rfl
  rw [hC] at h ⊢
  by_cases h2 : (scn l).e = 2
  · rw [if_pos h2] at h; cases h
  rw [if_neg h2] at h ⊢
  by_cases hv : (scn l).e = 0 ∧ wgo (scn l).r = 0
  · rw [if_pos hv]
    obtain ⟨a, b⟩ := scn_once hv.1
    refine ⟨?_, .inr (.inl ⟨rfl, a⟩)⟩
    have := congrArg List.length b
    rw [List.length_append] at this
    show (shwL (scn l).k (scn l).n (scn l).s).length ≤ _
    omega
  rw [if_neg hv] at h ⊢
  by_cases hw : 0 < wsz l
  · rw [if_pos hw]
    refine ⟨?_, .inl rfl⟩
    show (l.take _).length ≤ _
    rw [List.length_take]; omega
  rw [if_neg hw] at h ⊢
  by_cases hm : 0 < msz l
  · rw [if_pos hm]
    refine ⟨?_, .inr (.inr rfl)⟩
    show (l.take _).length ≤ _
    rw [List.length_take]; omega
  · rw [if_neg hm] at h; cases h
theorem lxs_all : ∀ (n : Nat) (m : Nat) (l : List UInt8) (pos at' en : Nat) (acc L : List Tk) (N : Int), l.length ≤ n → l.length ≤ m → lxs l pos at' en (-1) acc = ⟨L, N, 0⟩ → LkOk m at' acc → LkOk m N L ∧ N = at' + ((rns l).length : Int)
  | 0, m, l, pos, at', en, acc, L, N, h, hm, hx, ha => by
    obtain rfl : l = [] := List.eq_nil_of_length_eq_zero (by omega)
    rw [lxs_nil, lxEnd, if_neg (by decide)] at hx
    cases hx
    exact ⟨ha, by rw [rns_nil]; simp⟩
  | n + 1, m, l, pos, at', en, acc, L, N, h, hm, hx, ha => by
    by_cases hne : l = []
    · subst hne
      rw [lxs_nil, lxEnd, if_neg (by decide)] at hx
      cases hx
      exact ⟨ha, by rw [rns_nil]; simp⟩
    · have hw := decodeL_width l
      have hld : (l.drop (decodeL l).2).length = l.length - (decodeL l).2 := List.length_drop
      have hrn : ((rns l).length : Int) = 1 + (rns (l.drop (decodeL l).2)).length := by rw [rns_step l hne, List.length_cons]; omega
      have more : LkOk m ((at' + 1 : Nat) : Int) acc := ⟨ha.ok, rising_more ha.rise (by omega), ha.few, ha.short, ha.kind⟩
      rw [lxs_step hne] at hx
      by_cases hg : en ≤ pos ∧ blankN (decodeL l).1 = false
      · rw [if_pos hg] at hx
        by_cases h3 : (cutL l).e = 3
        · rw [if_pos h3] at hx; cases hx
        by_cases h2 : (cutL l).e = 2
        · rw [if_neg h3, if_pos h2] at hx; cases hx
        have h0 : (cutL l).e = 0 := (cut_sizeP l).2.elim id fun h => h.elim (fun h => absurd h h2) fun h => absurd h h3
        rw [if_neg h3, if_neg h2] at hx
        by_cases hc : (-1 : Int) < 0 ∧ acc.length ≠ 300
        · rw [if_pos hc] at hx
          have hs := tk_short h0
          have hk := tk_ok h0
          have one : LkOk m ((at' + 1 : Nat) : Int) (acc ++ [{ (cutL l).t with p := (at' : Int) }]) := by
            have hfew := ha.few
            refine ⟨?_, ?_, ?_, ?_, ?_⟩
            · intro t ht
              rcases List.mem_append.1 ht with ht | ht
              · exact ha.ok t ht
              · simp at ht; subst ht; exact hk
            · have := rising_snoc (t := { (cutL l).t with p := (at' : Int) }) ha.rise (by omega) rfl
              rw [Int.natCast_add]
              exact this
            · rw [List.length_append, List.length_singleton]; omega
            · intro t ht
              rcases List.mem_append.1 ht with ht | ht
              · exact ha.short t ht
              · simp at ht; subst ht; exact Nat.le_trans hs.1 hm
            · intro t ht
              rcases List.mem_append.1 ht with ht | ht
              · exact ha.kind t ht
              · simp at ht; subst ht; exact hs.2
          obtain ⟨r1, r2⟩ := lxs_all n m _ _ _ _ _ L N (by omega) (by omega) hx one
          exact ⟨r1, by rw [r2, hrn]; omega⟩
        · rw [if_neg hc, if_pos (by decide)] at hx
          exact absurd (congrArg Lx.e hx) (lxs_bad _ _ _ _ _ _ _ (Nat.le_refl _) (by omega))
      · rw [if_neg hg] at hx
        obtain ⟨r1, r2⟩ := lxs_all n m _ _ _ _ _ L N (by omega) (by omega) hx more
        exact ⟨r1, by rw [r2, hrn]; omega⟩
theorem lxs_err : ∀ (n : Nat) (l : List UInt8) (pos at' en : Nat) (long : Int) (acc : List Tk), l.length ≤ n → at' ≤ pos → long ≤ pos → (lxs l pos at' en long acc).e ≠ 0 →
    (lxs l pos at' en long acc).l = [] ∧ 0 ≤ (lxs l pos at' en long acc).a ∧ (lxs l pos at' en long acc).a ≤ pos + l.length
  | 0, l, pos, at', en, long, acc, h, h1, h3, he => by
    obtain rfl : l = [] := List.eq_nil_of_length_eq_zero (by omega)
    rw [lxs_nil] at he ⊢
    unfold lxEnd at he ⊢
    by_cases hl : 0 ≤ long
    · rw [if_pos hl]; exact ⟨rfl, hl, by simp; omega⟩
    · rw [if_neg hl] at he; exact absurd rfl he
  | n + 1, l, pos, at', en, long, acc, h, h1, h3, he => by
    by_cases hne : l = []
    · subst hne
      rw [lxs_nil] at he ⊢
      unfold lxEnd at he ⊢
      by_cases hl : 0 ≤ long
      · rw [if_pos hl]; exact ⟨rfl, hl, by simp; omega⟩
      · rw [if_neg hl] at he; exact absurd rfl he
    · have hw := decodeL_width l
      have hle := decodeL_le l hne
      have hld : (l.drop (decodeL l).2).length = l.length - (decodeL l).2 := List.length_drop
      have go : ∀ (en' : Nat) (long' : Int) (acc' : List Tk), long' ≤ pos + (decodeL l).2 → (lxs (l.drop (decodeL l).2) (pos + (decodeL l).2) (at' + 1) en' long' acc').e ≠ 0 →
          (lxs (l.drop (decodeL l).2) (pos + (decodeL l).2) (at' + 1) en' long' acc').l = [] ∧ 0 ≤ (lxs (l.drop (decodeL l).2) (pos + (decodeL l).2) (at' + 1) en' long' acc').a ∧ (lxs (l.drop (decodeL l).2) (pos + (decodeL l).2) (at' + 1) en' long' acc').a ≤ pos + l.length := fun en' long' acc' h5 h6 => by
        obtain ⟨r1, r2, r3⟩ := lxs_err n (l.drop (decodeL l).2) (pos + (decodeL l).2) (at' + 1) en' long' acc' (by omega) (by omega) (by omega) h6
        exact ⟨r1, r2, by omega⟩
      rw [lxs_step hne] at he ⊢
      by_cases hg : en ≤ pos ∧ blankN (decodeL l).1 = false
      · rw [if_pos hg] at he ⊢
        by_cases h3 : (cutL l).e = 3
        · rw [if_pos h3]
          exact ⟨rfl, Int.natCast_nonneg _, show (at' : Int) ≤ _ by omega⟩
        rw [if_neg h3] at he ⊢
        by_cases h2 : (cutL l).e = 2
        · rw [if_pos h2]
          refine ⟨rfl, ?_, ?_⟩
          · show 0 ≤ (if long < 0 then (at' : Int) else long)
            split <;> omega
          · show (if long < 0 then (at' : Int) else long) ≤ _
            split <;> omega
        rw [if_neg h2] at he ⊢
        by_cases hc : long < 0 ∧ acc.length ≠ 300
        · rw [if_pos hc] at he ⊢
          exact go _ _ _ (by omega) he
        · rw [if_neg hc] at he ⊢
          exact go _ _ _ (by split <;> omega) he
      · rw [if_neg hg] at he ⊢
        exact go _ _ _ (by omega) he
/-- What is so of a text's tokens. -/
theorem lex_all {l : List UInt8} {L : List Tk} {N : Int} (h : lexL l = ⟨L, N, 0⟩) : LkOk l.length N L ∧ N = (rns l).length ∧ validD l = true := by
  unfold lexL at h
  by_cases hv : validD l = true
  · rw [if_pos hv] at h
    obtain ⟨a, b⟩ := lxs_all l.length l.length l 0 0 0 [] L N (Nat.le_refl _) (Nat.le_refl _) h ⟨fun t ht => (by cases ht), rising_nil _, (by simp), fun t ht => (by cases ht), fun t ht => (by cases ht)⟩
    exact ⟨a, by rw [b]; omega, hv⟩
  · rw [if_neg hv] at h; cases h
theorem lex_err {l : List UInt8} {L : List Tk} {N e : Int} (h : lexL l = ⟨L, N, e⟩) (he : e ≠ 0) : L = [] ∧ 0 ≤ N ∧ N ≤ l.length := by
  unfold lexL at h
  by_cases hv : validD l = true
  · rw [if_pos hv] at h
    have h' : lxs l 0 0 0 (-1) [] = ⟨L, N, e⟩ := h
    have := lxs_err l.length l 0 0 0 (-1) [] (Nat.le_refl _) (Nat.le_refl _) (by decide) (by rw [h']; exact he)
    rw [h'] at this
    obtain ⟨a, b, c⟩ := this
    exact ⟨a, b, by simpa using c⟩
  · rw [if_neg hv] at h; cases h; exact ⟨rfl, Int.le_refl _, by omega⟩
theorem joinT_len : ∀ (m : Nat) (T : List Tk), (∀ t ∈ T, (shTk t).length ≤ m) → (joinT T).length ≤ T.length * (m + 1)
  | m, [], _ => by simp [joinT]
  | m, [t], h => by have := h t (by simp); simp [joinT]; omega
  | m, t :: u :: ts, h => by
    have a := h t (by simp)
    have b := joinT_len m (u :: ts) fun x hx => h x (List.mem_cons_of_mem _ hx)
    have e : joinT (t :: u :: ts) = shTk t ++ 32 :: joinT (u :: ts) := rfl
    rw [e, List.length_append, List.length_cons]
    have e2 : (t :: u :: ts).length * (m + 1) = (u :: ts).length * (m + 1) + (m + 1) := by rw [List.length_cons, Nat.add_mul, Nat.one_mul]
    rw [e2]
    omega
theorem joinT_join : ∀ T : List Tk, joinT T = Lib.join (T.map shTk) [32]
  | [] => rfl
  | [t] => by
    show shTk t = Lib.join [shTk t] [32]
    rw [Lib.join_one]
  | t :: u :: ts => by
    have e : joinT (t :: u :: ts) = shTk t ++ 32 :: joinT (u :: ts) := rfl
    rw [e, joinT_join (u :: ts)]
    show _ = Lib.join (shTk t :: shTk u :: ts.map shTk) [32]
    rw [Lib.join_cons (shTk t), List.map_cons, Lib.join_cons (shTk u)]
    simp [Lib.joinTail]
end Go.Proofs.YtmfeoiblhjfpjaaGreatDoor
/- Rows that are read: a slice, its elements cell by cell, wherever it lies. -/
namespace Go.Proofs.YtmfeoiblhjfpjaaGreatDoor
open Go.RowKit

/-- The slice v has n elements of 'sz' cells each, and they hold xs. -/
def IsRow (w : World) (sz : Nat) (v : Value) (n : Nat) (xs : List Value) : Prop :=
  xs.length = n * sz ∧ ((n = 0 ∧ ∃ a cap, v = .slice a 0 cap) ∨
    ∃ b off cap, v = .slice (some ⟨b, off, none⟩) n cap ∧ b < w.heap.size ∧ n ≤ cap ∧ cap ≤ maxLen ∧ ∀ j u, xs[j]? = some u → w.cell? ⟨b, off + j, none⟩ = some u)

theorem IsRow.below {w w' : World} {sz : Nat} {v : Value} {n : Nat} {xs : List Value} (h : IsRow w sz v n xs) (hb : Below w.heap.size w w') : IsRow w' sz v n xs := by
  refine ⟨h.1, ?_⟩
  rcases h.2 with h | ⟨b, off, cap, rfl, hlt, hc, hm, hcell⟩
  · exact .inl h
  · exact .inr ⟨b, off, cap, rfl, Nat.lt_of_lt_of_le hlt hb.size, hc, hm, fun j u hu => (hb.cell (p := ⟨b, off + j, none⟩) hlt).trans (hcell j u hu)⟩

/-- What the call itself has made is such a row, too. -/
theorem IsRow.own {w : World} {base : Nat} {e : TypeId} {sz : Nat} {v : Value} {n : Nat} {xs : List Value} (h : w.ownsRow base e sz v n xs) : IsRow w sz v n xs := by
  obtain ⟨h1, h2⟩ := h
  refine ⟨h1, ?_⟩
  rcases h2 with ⟨hv, hn⟩ | ⟨g, cap, cur, rfl, hb, hg, hc, hm, hs, ht⟩
  · exact .inl ⟨hn, _, _, hv⟩
  · refine .inr ⟨g, 0, cap, rfl, (Array.getElem?_eq_some_iff.1 hg).1, hc, hm, fun j u hu => ?_⟩
    rw [Nat.zero_add, cell_of_row w g j cur e (0, 0) hg]
    rw [← ht, List.getElem?_take] at hu
    split at hu
    · simpa using hu
    · cases hu

theorem IsRow.nil (w : World) (sz : Nat) : IsRow w sz (.slice none 0 0) 0 [] := ⟨by simp, .inl ⟨rfl, _, _, rfl⟩⟩

/-- One that is not empty, laid open. -/
theorem IsRow.open {w : World} {sz : Nat} {v : Value} {n : Nat} {xs : List Value} (h : IsRow w sz v n xs) (hn : 0 < n) :
    ∃ b off cap, v = .slice (some ⟨b, off, none⟩) n cap ∧ b < w.heap.size ∧ n ≤ cap ∧ cap ≤ maxLen ∧ ∀ j u, xs[j]? = some u → w.cell? ⟨b, off + j, none⟩ = some u := by
  rcases h.2 with ⟨h0, _⟩ | h
  · omega
  · exact h
theorem IsRow.form {w : World} {sz : Nat} {v : Value} {n : Nat} {xs : List Value} (h : IsRow w sz v n xs) : ∃ a cap, v = .slice a n cap := by
  rcases h.2 with ⟨rfl, a, cap, rfl⟩ | ⟨b, off, cap, rfl, _⟩
  · exact ⟨a, cap, rfl⟩
  · exact ⟨_, _, rfl⟩

/-- An item: its kind, its number, its text. -/
structure It where
  k : Int
  n : Int
  s : ByteArray
def It.cells (x : It) : List Value := [.int .i64 x.k, .int .i64 x.n, .string x.s]
def itCells (l : List It) : List Value := l.flatMap It.cells
theorem itCells_len (l : List It) : (itCells l).length = l.length * 3 := by
  induction l with
  | nil => rfl
  | cons x l ih => simp only [itCells, List.flatMap_cons, List.length_append, List.length_cons] at ih ⊢; rw [ih]; simp [It.cells]; omega
theorem itCells_at (l : List It) (i : Nat) (h : i < l.length) : (itCells l)[3 * i]? = some (.int .i64 (l[i]'h).k) ∧ (itCells l)[3 * i + 1]? = some (.int .i64 (l[i]'h).n) ∧ (itCells l)[3 * i + 2]? = some (.string (l[i]'h).s) := by
  induction l generalizing i with
  | nil => simp at h
  | cons x l ih =>
    cases i with
    | zero => exact ⟨rfl, rfl, rfl⟩
    | succ i =>
      have h' : i < l.length := by simpa using h
      have := ih i h'
      have e : itCells (x :: l) = It.cells x ++ itCells l := by simp [itCells]
      have e0 : (It.cells x).length = 3 := rfl
      rw [e]
      refine ⟨?_, ?_, ?_⟩
      · rw [List.getElem?_append_right (by rw [e0]; omega), e0, show 3 * (i + 1) - 3 = 3 * i by omega]; exact this.1
      · rw [List.getElem?_append_right (by rw [e0]; omega), e0, show 3 * (i + 1) + 1 - 3 = 3 * i + 1 by omega]; exact this.2.1
      · rw [List.getElem?_append_right (by rw [e0]; omega), e0, show 3 * (i + 1) + 2 - 3 = 3 * i + 2 by omega]; exact this.2.2
theorem itCells_snoc (l : List It) (x : It) : itCells (l ++ [x]) = itCells l ++ It.cells x := by simp [itCells]
/-- A row of items, item i's cells, as the walk asks for them. -/
theorem items_at {w : World} {a : Option Addr} {cap : Nat} {l : List It} (h : IsRow w 3 (.slice a l.length cap) l.length (itCells l)) (i : Nat) (hi : i < l.length) :
    ∃ b off, a = some ⟨b, off, none⟩ ∧ b < w.heap.size ∧ w.cell? ⟨b, off + i * 3, none⟩ = some (.int .i64 (l[i]'hi).k) ∧ w.cell? ⟨b, off + i * 3 + 1, none⟩ = some (.int .i64 (l[i]'hi).n) ∧ w.cell? ⟨b, off + i * 3 + 2, none⟩ = some (.string (l[i]'hi).s) := by
  obtain ⟨b, off, cap', hv, hlt, _, _, hc⟩ := h.open (by omega)
  have := itCells_at l i hi
  simp only [Value.slice.injEq] at hv
  refine ⟨b, off, hv.1, hlt, ?_, ?_, ?_⟩
  · rw [show off + i * 3 = off + 3 * i by omega]; exact hc _ _ this.1
  · rw [show off + i * 3 + 1 = off + (3 * i + 1) by omega]; exact hc _ _ this.2.1
  · rw [show off + i * 3 + 2 = off + (3 * i + 2) by omega]; exact hc _ _ this.2.2
end Go.Proofs.YtmfeoiblhjfpjaaGreatDoor
/- The shelf contract of (*strings.Builder).grow at a fresh builder, at this program, laid by the shelf tool in plain words. -/
namespace Go.Proofs
open Go.Shelf
def Tryz.lays241_ren : Go.Shelf.Ren := ⟨fun | 241 => 44 | 277 => 64 | n => n, fun | 70 => 62 | 3 => 3 | 0 => 0 | 72 => 65 | 37 => 63 | 5 => 5 | n => n, fun | n => n⟩
theorem Tryz.lays241 : Go.Proofs.Lays.n241 Tryz.prog Tryz.lays241_ren := {
  mixed := by kernel_rfl
  f241 := Tryz.func44.trans (congrArg some (by kernel_rfl))
  f277 := Tryz.func64.trans (congrArg some (by kernel_rfl))
  t0 := Tryz.underlying0
  a0 := Tryz.isAgg0
  z0 := Tryz.sizeOf0
  v0 := Tryz.zeroValue0
  t3 := Tryz.underlying3
  a3 := Tryz.isAgg3
  z3 := Tryz.sizeOf3
  v3 := Tryz.zeroValue3
  t37 := Tryz.underlying63
  a37 := Tryz.isAgg63
  z37 := Tryz.sizeOf63
  v37 := Tryz.zeroValue63
  t70 := Tryz.underlying62
  a70 := Tryz.isAgg62
  z70 := Tryz.sizeOf62
  v70 := Tryz.zeroValue62
  t72 := Tryz.underlying65
  a72 := Tryz.isAgg65
  z72 := Tryz.sizeOf65
  v72 := Tryz.zeroValue65 }
theorem Tryz.Builder_Extra_241 : Builder.Extra Tryz.prog Tryz.lays241_ren := {
  sizeBuilder := by kernel_rfl
  liesBuilder := by kernel_rfl
  t5 := Tryz.underlying5
  a5 := Tryz.isAgg5
  z5 := Tryz.sizeOf5
  v5 := Tryz.zeroValue5
  infoByte := by kernel_rfl
  cellsByte := by kernel_rfl
  sizeByte := by kernel_rfl
  neB5 := by decide }
open Go.RowKit in
theorem Tryz.Builder_grow_fresh (B b n : Nat) (w : World) (hB : B ≤ b) (hbk : w.heap[b]? = some (.cells #[.pointer (some ⟨b, 0, none⟩), .slice none 0 0] 65 (0, 0))) (hBw : B ≤ w.heap.size) (hn : n ≤ 281474976710656) :
    Calls Tryz.prog 44 #[.pointer (some ⟨b, 0, none⟩), .int .i64 n] w fun e w' => e = .returned (.tuple #[]) ∧ (Lib.BuilderAt 65 5 B b (.pointer (some ⟨b, 0, none⟩)) [] w' ∧ Below B w w') := Any.Builder_grow_fresh Tryz.lays241 Tryz.Builder_Extra_241 B b n w hB hbk hBw hn
end Go.Proofs
