/- caduceusref04.Show: its walk. -/
import Derived.Test.YtfbhalkiilbcoaaGreatDoorLB
import Derived.Lib.SplitLaws
namespace Go.Proofs.YtfbhalkiilbcoaaGreatDoor
open Go.RowKit

/-- The line of the first fields. -/
def jn (l : List Fd) (k : Nat) : List UInt8 := Lib.join ((l.take k).map shF) [44, 32]
theorem jn_one {l : List Fd} (h : 0 < l.length) : jn l 1 = shF l[0] := by
  match l, h with
  | x :: r, _ => simp [jn, Lib.join_one]
theorem jn_succ {l : List Fd} {k : Nat} (hk : k < l.length) (h0 : k ≠ 0) : jn l (k + 1) = jn l k ++ [44, 32] ++ shF l[k] := by
  match l, hk with
  | x :: r, hk =>
    obtain ⟨j, rfl⟩ : ∃ j, k = j + 1 := ⟨k - 1, by omega⟩
    unfold jn
    rw [List.take_succ_cons, List.take_succ_cons, List.map_cons, List.map_cons, Lib.join_cons, Lib.join_cons]
    have hj : j < r.length := by simpa using hk
    have := Lib.joinTail_take_succ [44, 32] (r.map shF) j (shF r[j]) (by simp [hj])
    rw [← List.map_take, ← List.map_take] at this
    rw [this]
    simp [List.append_assoc]
theorem jn_len {l : List Fd} (k : Nat) (hl : l.length ≤ 24) (hn : ∀ x ∈ l, x.n.size ≤ 20000) : (jn l k).length ≤ 1000000 := by
  have := joinF_len (l := l.take k) (N := 20007) fun x hx => by have := shF_len x; have := hn x (List.mem_of_mem_take hx); omega
  have h1 : (l.take k).length ≤ 24 := by rw [List.length_take]; omega
  have h2 : (l.take k).length * (20007 + 2) ≤ 24 * 20009 := Nat.mul_le_mul_right _ h1
  unfold jn
  omega
theorem stepS (p : List UInt8) (fn : ByteArray) (K : Nat) (hp : p.length ≤ 2000000) (hn : fn.size ≤ 1000000) :
    ∃ Y : ByteArray, str p ++ fn ++ (⟨#[32]⟩ : ByteArray) ++ str (wordK K) = Y ∧ Y = str (p ++ (fn.data.toList ++ [32] ++ wordK K)) ∧ ¬ 9223372036854775807 < (str p).size + fn.size ∧ ¬ 9223372036854775807 < (str p ++ fn).size + (⟨#[32]⟩ : ByteArray).size ∧
      ¬ 9223372036854775807 < (str p ++ fn ++ (⟨#[32]⟩ : ByteArray)).size + (str (wordK K)).size ∧ ¬ 9223372036854775807 < Y.size + (⟨#[33]⟩ : ByteArray).size ∧ Y ++ (⟨#[33]⟩ : ByteArray) = str (p ++ (fn.data.toList ++ [32] ++ wordK K ++ [33])) := by
  have hw := wordK_len K
  have e1 : (⟨#[32]⟩ : ByteArray) = str [32] := rfl
  have e2 : (⟨#[33]⟩ : ByteArray) = str [33] := rfl
  have z0 : (str p).size = p.length := str_size _
  have z1 : (⟨#[32]⟩ : ByteArray).size = 1 := rfl
  have z2 : (⟨#[33]⟩ : ByteArray).size = 1 := rfl
  have z3 : (str (wordK K)).size = (wordK K).length := str_size _
  have E : str p ++ fn ++ (⟨#[32]⟩ : ByteArray) ++ str (wordK K) = str (p ++ (fn.data.toList ++ [32] ++ wordK K)) := by
    rw [← List.append_assoc, ← List.append_assoc, ← str_app, ← str_app, ← str_app, str_of, e1]
  refine ⟨_, rfl, E, ?_, ?_, ?_, ?_, ?_⟩
  · omega
  · rw [ByteArray.size_append]; omega
  · rw [ByteArray.size_append, ByteArray.size_append]; omega
  · rw [ByteArray.size_append, ByteArray.size_append, ByteArray.size_append]; omega
  · rw [E, e2, str_app]; simp [List.append_assoc]
end Go.Proofs.YtfbhalkiilbcoaaGreatDoor
/- How the reference reads a line, plainly. -/
namespace Go.Proofs.YtfbhalkiilbcoaaGreatDoor
open Go.RowKit

/-- Where the first blank stands. -/
def fi : List UInt8 → Nat
  | [] => 0
  | c :: r => if c = 32 then 0 else fi r + 1
theorem fi_le : ∀ T : List UInt8, fi T ≤ T.length
  | [] => Nat.le_refl _
  | c :: r => by
    have := fi_le r
    unfold fi
    split
    · simp
    · rw [List.length_cons]; omega
theorem fi_lt : ∀ (T : List UInt8) (j : Nat), j < fi T → ∃ c, T[j]? = some c ∧ c ≠ 32
  | [], j, h => absurd h (by simp [fi])
  | c :: r, j, h => by
    unfold fi at h
    split at h
    · omega
    · rename_i hc
      cases j with
      | zero => exact ⟨c, rfl, hc⟩
      | succ j => exact fi_lt r j (by omega)
theorem fi_at : ∀ T : List UInt8, fi T < T.length → T[fi T]? = some 32
  | [], h => absurd h (by simp)
  | c :: r, h => by
    unfold fi at h ⊢
    by_cases hc : c = 32
    · rw [if_pos hc]; simp [hc]
    · rw [if_neg hc] at h ⊢
      rw [List.getElem?_cons_succ]
      exact fi_at r (by simpa using h)
theorem index_sp : ∀ T : List UInt8, Lib.index T [32] = if fi T < T.length then (fi T : Int) else -1
  | [] => rfl
  | c :: r => by
    have ih := index_sp r
    unfold Lib.index fi
    by_cases hc : c = 32
    · subst hc; simp
    · have hp : ([32] : List UInt8).isPrefixOf (c :: r) = false := by
        simp [List.isPrefixOf]
        exact fun h => hc h.symm
      rw [hp, if_neg hc, ih, List.length_cons]
      by_cases hl : fi r < r.length
      · have e1 : ((fi r : Int) == -1) = false := by rw [beq_eq_false_iff_ne]; omega
        have h2 : fi r + 1 < r.length + 1 := by omega
        simp only [hl, h2, if_true, e1, Bool.false_eq_true, if_false]
        omega
      · have h2 : ¬ fi r + 1 < r.length + 1 := by omega
        simp only [hl, h2, if_false, Bool.false_eq_true]
        rfl
theorem cut_sp (T : List UInt8) : Lib.cut T [32] = if fi T < T.length then (T.take (fi T), T.drop (fi T + 1), true) else (T, [], false) := by
  unfold Lib.cut
  rw [index_sp]
  by_cases hl : fi T < T.length
  · rw [if_pos hl, if_pos (by omega), if_pos hl]
    rfl
  · rw [if_neg hl, if_neg (by omega), if_neg hl]
theorem suf_iff (w : List UInt8) : Lib.hasSuffix w [33] = true ↔ ∃ t, w = t ++ [33] := by
  unfold Lib.hasSuffix
  rw [List.isSuffixOf_iff_suffix]
  exact ⟨fun ⟨t, h⟩ => ⟨t, h.symm⟩, fun ⟨t, h⟩ => ⟨t, h.symm⟩⟩
theorem parse_none {T : List UInt8} (h : ¬ fi T < T.length) : parseF T = ⟨str T, 0, false⟩ := by
  unfold parseF
  rw [cut_sp, if_neg h]
  rfl
theorem parse_must {T t : List UInt8} (h : fi T < T.length) (hw : T.drop (fi T + 1) = t ++ [33]) : parseF T = ⟨str (T.take (fi T)), kindW t, true⟩ := by
  unfold parseF
  rw [cut_sp, if_pos h]
  have hs : Lib.hasSuffix (T.drop (fi T + 1)) [33] = true := (suf_iff _).2 ⟨t, hw⟩
  have ht : Lib.trimSuffix (T.drop (fi T + 1)) [33] = t := by
    unfold Lib.trimSuffix
    rw [if_pos hs, hw]
    simp
  show (⟨_, kindW (Lib.trimSuffix (T.drop (fi T + 1)) [33]), Lib.hasSuffix (T.drop (fi T + 1)) [33]⟩ : Fd) = _
  rw [hs, ht]
theorem parse_may {T : List UInt8} (h : fi T < T.length) (hw : ¬ ∃ t, T.drop (fi T + 1) = t ++ [33]) : parseF T = ⟨str (T.take (fi T)), kindW (T.drop (fi T + 1)), false⟩ := by
  unfold parseF
  rw [cut_sp, if_pos h]
  have hs : Lib.hasSuffix (T.drop (fi T + 1)) [33] = false := by
    rw [← Bool.not_eq_true, suf_iff]; exact hw
  have ht : Lib.trimSuffix (T.drop (fi T + 1)) [33] = T.drop (fi T + 1) := by
    unfold Lib.trimSuffix
    rw [hs]; rfl
  show (⟨_, kindW (Lib.trimSuffix (T.drop (fi T + 1)) [33]), Lib.hasSuffix (T.drop (fi T + 1)) [33]⟩ : Fd) = _
  rw [hs, ht]
/-- The pieces between commas. -/
def pcs : List UInt8 → List (List UInt8)
  | [] => [[]]
  | c :: r => if c = 44 then [] :: pcs r else match pcs r with
    | [] => [[c]]
    | p :: q => (c :: p) :: q
theorem pcs_no : ∀ p : List UInt8, (∀ c ∈ p, c ≠ 44) → pcs p = [p]
  | [], _ => rfl
  | c :: r, h => by
    unfold pcs
    rw [if_neg (h c (by simp)), pcs_no r fun x hx => h x (by simp [hx])]
theorem pcs_cons : ∀ (p r : List UInt8), (∀ c ∈ p, c ≠ 44) → pcs (p ++ 44 :: r) = p :: pcs r
  | [], r, _ => by rw [List.nil_append]; conv => lhs; unfold pcs; rw [if_pos rfl]
  | c :: q, r, h => by
    rw [List.cons_append]
    conv => lhs; unfold pcs
    rw [if_neg (h c (by simp)), pcs_cons q r fun x hx => h x (by simp [hx])]
theorem pcs_len : ∀ s : List UInt8, (pcs s).length ≤ s.length + 1
  | [] => by simp [pcs]
  | c :: r => by
    have ih := pcs_len r
    unfold pcs
    by_cases hc : c = 44
    · rw [if_pos hc, List.length_cons, List.length_cons]; omega
    · rw [if_neg hc, List.length_cons]
      cases hp : pcs r with
      | nil => simp
      | cons p q => rw [hp] at ih; simp at ih ⊢; omega
theorem pcs_size : ∀ (s p : List UInt8), p ∈ pcs s → p.length ≤ s.length
  | [], p, h => by simp [pcs] at h; simp [h]
  | c :: r, p, h => by
    unfold pcs at h
    by_cases hc : c = 44
    · rw [if_pos hc] at h
      rcases List.mem_cons.1 h with rfl | h
      · simp
      · have := pcs_size r p h; rw [List.length_cons]; omega
    · rw [if_neg hc] at h
      cases hp : pcs r with
      | nil => rw [hp] at h; simp at h; simp [h]
      | cons a q =>
        rw [hp] at h
        rcases List.mem_cons.1 h with rfl | h
        · have := pcs_size r a (by rw [hp]; simp); simp; omega
        · have := pcs_size r p (by rw [hp]; simp [h]); rw [List.length_cons]; omega
/-- A piece behind the first, without the blank in front. -/
def trim1 (p : List UInt8) : List UInt8 := if p.head? = some 32 then p.drop 1 else p
def flds : List (List UInt8) → List Fd
  | [] => []
  | p :: r => parseF p :: r.map fun q => parseF (trim1 q)
theorem flds_first (p : List UInt8) : flds ([] ++ [p]) = flds [] ++ [parseF p] := rfl
theorem flds_snoc {D : List (List UInt8)} (h : D ≠ []) (p : List UInt8) : flds (D ++ [p]) = flds D ++ [parseF (trim1 p)] := by
  match D, h with
  | d :: D, _ => simp [flds]
theorem flds_len (D : List (List UInt8)) : (flds D).length = D.length := by
  cases D with
  | nil => rfl
  | cons d D => simp [flds]
theorem parseF_n (T : List UInt8) : (parseF T).n.size ≤ T.length := by
  show (str (Lib.cut T [32]).1).size ≤ _
  rw [str_size]
  exact cut_le1 T [32]
theorem trim1_len (p : List UInt8) : (trim1 p).length ≤ p.length := by
  unfold trim1
  split
  · simp
  · exact Nat.le_refl _
theorem flds_n (s : List UInt8) : ∀ x ∈ flds (pcs s), x.n.size ≤ s.length := by
  intro x hx
  have key : ∀ D : List (List UInt8), (∀ p ∈ D, p.length ≤ s.length) → ∀ x ∈ flds D, x.n.size ≤ s.length := by
    intro D hD x hx
    cases D with
    | nil => exact absurd hx (by simp [flds])
    | cons d D =>
      rcases List.mem_cons.1 hx with rfl | hx
      · exact Nat.le_trans (parseF_n d) (hD d (by simp))
      · obtain ⟨q, hq, rfl⟩ := List.mem_map.1 hx
        exact Nat.le_trans (parseF_n _) (Nat.le_trans (trim1_len q) (hD q (by simp [hq])))
  exact key _ (fun p hp => pcs_size s p hp) x hx
/-- What a line says by the reference. -/
def rparse (s : ByteArray) : List Fd × Int := if s.data.toList = [45] then ([], 0) else if s.data.toList = [] ∨ showL (flds (pcs s.data.toList)) ≠ s.data.toList then ([], 3) else (flds (pcs s.data.toList), 0)
end Go.Proofs.YtfbhalkiilbcoaaGreatDoor
/- What holds while the reference reads a line. -/
namespace Go.Proofs.YtfbhalkiilbcoaaGreatDoor
open Go.RowKit

/-- What is read behind the first i bytes: the pieces D, the last one's start at fr. -/
def PInv (L : List UInt8) (D : List (List UInt8)) (fr i : Nat) : Prop :=
  (i ≤ L.length → pcs L = D ++ pcs (L.drop fr) ∧ ∀ j, fr ≤ j → j < i → L[j]? ≠ some 44) ∧ (i = L.length + 1 → pcs L = D) ∧ (fr = 0 ↔ D = []) ∧ D.length ≤ i
theorem pinv_start (L : List UInt8) : PInv L [] 0 0 := ⟨fun _ => ⟨by simp, fun j _ h => absurd h (by omega)⟩, fun h => absurd h (by omega), by simp, by simp⟩
theorem pinv_go {L : List UInt8} {D : List (List UInt8)} {fr i : Nat} (h : PInv L D fr i) (hi : i < L.length) (hc : L[i]? ≠ some 44) : PInv L D fr (i + 1) := by
  obtain ⟨h1, h2, h3, h4⟩ := h
  obtain ⟨e, hn⟩ := h1 (by omega)
  refine ⟨fun _ => ⟨e, fun j h5 h6 => ?_⟩, fun h => absurd h (by omega), h3, by omega⟩
  by_cases hj : j = i
  · subst hj; exact hc
  · exact hn j h5 (by omega)
theorem piece_no {L : List UInt8} {fr i : Nat} (hn : ∀ j, fr ≤ j → j < i → L[j]? ≠ some 44) : ∀ c ∈ (L.drop fr).take (i - fr), c ≠ 44 := by
  intro c hc e
  subst e
  obtain ⟨j, hj, hx⟩ := List.getElem_of_mem hc
  rw [List.length_take, List.length_drop] at hj
  have : ((L.drop fr).take (i - fr))[j]? = some 44 := by rw [List.getElem?_eq_getElem (by rw [List.length_take, List.length_drop]; exact hj), hx]
  rw [List.getElem?_take, if_pos (by omega), List.getElem?_drop] at this
  exact hn (fr + j) (by omega) (by omega) this
theorem pinv_cut {L : List UInt8} {D : List (List UInt8)} {fr i : Nat} (h : PInv L D fr i) (hfi : fr ≤ i) (hi : i ≤ L.length) (hc : i < L.length → L[i]? = some 44) :
    PInv L (D ++ [(L.drop fr).take (i - fr)]) (i + 1) (i + 1) := by
  obtain ⟨h1, h2, h3, h4⟩ := h
  obtain ⟨e, hn⟩ := h1 (by omega)
  have hp := piece_no hn
  refine ⟨fun hl => ⟨?_, fun j h5 h6 => absurd h6 (by omega)⟩, fun hl => ?_, ⟨fun h => absurd h (by omega), fun h => absurd h (by simp)⟩, by rw [List.length_append]; simp; omega⟩
  · have hi' : i < L.length := by omega
    have e2 : L.drop fr = (L.drop fr).take (i - fr) ++ 44 :: L.drop (i + 1) := by
      conv => lhs; rw [← List.take_append_drop (i - fr) (L.drop fr)]
      rw [List.drop_drop, show fr + (i - fr) = i by omega, List.drop_eq_getElem_cons hi']
      have := hc hi'
      rw [List.getElem?_eq_getElem hi'] at this
      rw [Option.some.inj this]
    have e3 := pcs_cons ((L.drop fr).take (i - fr)) (L.drop (i + 1)) hp
    rw [← e2] at e3
    rw [e, e3, List.append_assoc]
    rfl
  · have hi' : i = L.length := by omega
    have e2 : (L.drop fr).take (i - fr) = L.drop fr := List.take_of_length_le (by rw [List.length_drop]; omega)
    rw [e2] at hp ⊢
    rw [e, pcs_no _ hp]
theorem pinv_end {L : List UInt8} {D : List (List UInt8)} {fr : Nat} (h : PInv L D fr (L.length + 1)) : pcs L = D := h.2.1 rfl
theorem pinv_fld {L : List UInt8} {D : List (List UInt8)} {fr i : Nat} (h : PInv L D fr i) (p : List UInt8) : fCells (flds (D ++ [p])) = fCells (flds D) ++ enF (parseF (if fr = 0 then p else trim1 p)) := by
  have e : flds (D ++ [p]) = flds D ++ [parseF (if fr = 0 then p else trim1 p)] := by
    by_cases hf : fr = 0
    · rw [if_pos hf, h.2.2.1.1 hf]; rfl
    · rw [if_neg hf]; exact flds_snoc (fun e => hf (h.2.2.1.2 e)) p
  rw [e, fCells, List.flatMap_append]
  simp [fCells]
/-- The kind that is found among the kinds below k. -/
def kp (V : List UInt8) (k : Nat) : Int := if kindW V < (k : Int) then kindW V else 0
theorem kindW_rng (V : List UInt8) : 0 ≤ kindW V ∧ kindW V ≤ 4 := by
  unfold kindW
  split
  · omega
  split
  · omega
  split
  · omega
  split <;> omega
theorem kindW_iff {V : List UInt8} {k : Nat} (h1 : 1 ≤ k) (h5 : k < 5) : V = wordK k ↔ kindW V = (k : Int) := by
  have : k = 1 ∨ k = 2 ∨ k = 3 ∨ k = 4 := by omega
  constructor
  · intro h
    subst h
    rcases this with rfl | rfl | rfl | rfl <;> decide
  · unfold kindW
    intro h
    split at h
    · obtain rfl : k = 1 := by omega
      assumption
    split at h
    · obtain rfl : k = 2 := by omega
      assumption
    split at h
    · obtain rfl : k = 3 := by omega
      assumption
    split at h
    · obtain rfl : k = 4 := by omega
      assumption
    · omega
theorem kp_one (V : List UInt8) : kp V 1 = 0 := by
  have := kindW_rng V
  unfold kp
  split
  · omega
  · rfl
theorem kp_five (V : List UInt8) : kp V 5 = kindW V := by
  have := kindW_rng V
  unfold kp
  rw [if_pos (by omega)]
theorem kp_yes {V : List UInt8} {k : Nat} (h1 : 1 ≤ k) (h5 : k < 5) (h : V = wordK k) : kp V (k + 1) = (k : Int) := by
  have := (kindW_iff h1 h5).1 h
  unfold kp
  rw [if_pos (by omega), this]
theorem kp_no {V : List UInt8} {k : Nat} (h1 : 1 ≤ k) (h5 : k < 5) (h : V ≠ wordK k) : kp V (k + 1) = kp V k := by
  have : kindW V ≠ (k : Int) := fun e => h ((kindW_iff h1 h5).2 e)
  unfold kp
  by_cases hk : kindW V < (k : Int)
  · rw [if_pos hk, if_pos (by omega)]
  · rw [if_neg hk, if_neg (by omega)]
theorem byte_at (s : ByteArray) {i : Nat} (hi : i < s.size) : ∃ c : UInt8, s.data.toList[i]? = some c ∧ (s[i]'hi).toNat = c.toNat := by
  have hi' : i < s.data.toList.length := by simpa using hi
  refine ⟨s.data.toList[i], List.getElem?_eq_getElem hi', ?_⟩
  rfl
theorem byte_ne {c d : UInt8} (h : c ≠ d) : (((c.toNat : Nat) : Int) != ((d.toNat : Nat) : Int)) = true := by
  rw [bne_iff_ne]
  intro e
  exact h (UInt8.toNat_inj.1 (by omega))
theorem ext_mid (s : ByteArray) (a b : Nat) : (s.extract a b).data.toList = (s.data.toList.drop a).take (b - a) := by
  have := Lib.extract_toList s a b
  rw [ByteArray.toList_eq] at this
  exact this
end Go.Proofs.YtfbhalkiilbcoaaGreatDoor
/- A piece of a line, as the reference's loops meet it. -/
namespace Go.Proofs.YtfbhalkiilbcoaaGreatDoor
open Go.RowKit

theorem sz_list (s : ByteArray) : s.data.toList.length = s.size := (Lib.size_eq s).symm
theorem ba_of {a b : ByteArray} (h : a.data.toList = b.data.toList) : a = b := by rw [← str_of a, ← str_of b, h]
theorem ext_str (s : ByteArray) (a b : Nat) : s.extract a b = str ((s.data.toList.drop a).take (b - a)) := by rw [← ext_mid, str_of]
theorem blank_before (tt : ByteArray) {j : Nat} (hj : j < fi tt.data.toList) : ∃ h : j < tt.size, ∃ x : Nat, (tt[j]'h).toNat = x ∧ ((x : Int) != 32) = true := by
  have h1 := fi_le tt.data.toList
  rw [sz_list] at h1
  have h : j < tt.size := by omega
  obtain ⟨c, c1, c2⟩ := byte_at tt h
  obtain ⟨c', c3, c4⟩ := fi_lt _ j hj
  rw [c1] at c3
  cases c3
  exact ⟨h, _, c2, byte_ne (d := 32) c4⟩
/-- The four ways of a piece. -/
inductive Piece (tt : ByteArray) : Prop
  | none (h : fi tt.data.toList = tt.size) (e : parseF tt.data.toList = ⟨tt.extract 0 (fi tt.data.toList), kindW (⟨#[]⟩ : ByteArray).data.toList, false⟩)
  | bare (h : fi tt.data.toList < tt.size) (hb : (tt[fi tt.data.toList]'h).toNat = 32) (hz : (tt.extract (fi tt.data.toList + 1) tt.size).size = 0) (e : parseF tt.data.toList = ⟨tt.extract 0 (fi tt.data.toList), kindW (tt.extract (fi tt.data.toList + 1) tt.size).data.toList, false⟩)
  | may (h : fi tt.data.toList < tt.size) (hb : (tt[fi tt.data.toList]'h).toNat = 32) (m x : Nat) (hz : (tt.extract (fi tt.data.toList + 1) tt.size).size = m + 1) (hx : ((tt.extract (fi tt.data.toList + 1) tt.size)[m]'(by omega)).toNat = x) (hn : ((x : Int) == 33) = false) (e : parseF tt.data.toList = ⟨tt.extract 0 (fi tt.data.toList), kindW (tt.extract (fi tt.data.toList + 1) tt.size).data.toList, false⟩)
  | must (h : fi tt.data.toList < tt.size) (hb : (tt[fi tt.data.toList]'h).toNat = 32) (m : Nat) (hz : (tt.extract (fi tt.data.toList + 1) tt.size).size = m + 1) (hx : ((tt.extract (fi tt.data.toList + 1) tt.size)[m]'(by omega)).toNat = 33) (e : parseF tt.data.toList = ⟨tt.extract 0 (fi tt.data.toList), kindW ((tt.extract (fi tt.data.toList + 1) tt.size).extract 0 m).data.toList, true⟩)
theorem piece_any (tt : ByteArray) : Piece tt := by
  have hl := sz_list tt
  have hle := fi_le tt.data.toList
  have ex0 : tt.extract 0 (fi tt.data.toList) = str (tt.data.toList.take (fi tt.data.toList)) := by rw [ext_str]; rfl
  by_cases h : fi tt.data.toList < tt.size
  · have h' : fi tt.data.toList < tt.data.toList.length := by omega
    have hb : (tt[fi tt.data.toList]'h).toNat = 32 := by
      obtain ⟨c, c1, c2⟩ := byte_at tt h
      rw [fi_at _ h'] at c1
      cases c1
      exact c2
    have ew : (tt.extract (fi tt.data.toList + 1) tt.size).data.toList = tt.data.toList.drop (fi tt.data.toList + 1) := ext_list tt _
    by_cases hm : ∃ t, tt.data.toList.drop (fi tt.data.toList + 1) = t ++ [33]
    · obtain ⟨t, ht⟩ := hm
      have e := parse_must h' ht
      rw [← ex0] at e
      have hz : (tt.extract (fi tt.data.toList + 1) tt.size).size = t.length + 1 := by rw [← sz_list, ew, ht]; simp
      refine .must h hb t.length hz ?_ ?_
      · obtain ⟨c, c1, c2⟩ := byte_at (tt.extract (fi tt.data.toList + 1) tt.size) (i := t.length) (by omega)
        rw [ew, ht] at c1
        simp at c1
        rw [c2, ← c1]
        rfl
      · rw [e, ext_mid _ 0 t.length, ew, ht]
        simp
    · have e := parse_may h' hm
      rw [← ex0, ← ew] at e
      by_cases hz : (tt.extract (fi tt.data.toList + 1) tt.size).size = 0
      · exact .bare h hb hz e
      · obtain ⟨m, hm2⟩ : ∃ m, (tt.extract (fi tt.data.toList + 1) tt.size).size = m + 1 := ⟨(tt.extract (fi tt.data.toList + 1) tt.size).size - 1, by omega⟩
        refine .may h hb m _ hm2 rfl ?_ e
        obtain ⟨c, c1, c2⟩ := byte_at (tt.extract (fi tt.data.toList + 1) tt.size) (i := m) (by omega)
        rw [c2]
        rw [beq_eq_false_iff_ne]
        intro he
        refine hm ⟨(tt.data.toList.drop (fi tt.data.toList + 1)).take m, ?_⟩
        rw [ew] at c1
        have hc : c = 33 := UInt8.toNat_inj.1 (by show c.toNat = 33; omega)
        subst hc
        have hlen : (tt.data.toList.drop (fi tt.data.toList + 1)).length = m + 1 := by rw [← ew, sz_list, hm2]
        conv => lhs; rw [← List.take_of_length_le (Nat.le_of_eq hlen)]
        rw [List.take_add_one, c1]
        rfl
  · have h' : ¬ fi tt.data.toList < tt.data.toList.length := by omega
    have e := parse_none h'
    refine .none (by omega) ?_
    rw [e, ex0, List.take_of_length_le (by omega)]
    rfl
/-- A piece, and what is left of it where it is not the first. -/
theorem trim_any (p : ByteArray) (fr : Nat) (hs : p.size ≤ 2000) : ∃ (tr : Bool) (tt : ByteArray), (tr = decide (p.data.toList.head? = some 32 ∧ 0 < fr)) ∧ (tr = true → p.extract 1 p.size = tt ∧ 0 < p.size) ∧ (tr = false → p = tt) ∧ tt.data.toList = (if fr = 0 then p.data.toList else trim1 p.data.toList) ∧ tt.size ≤ 2000 := by
  by_cases h : p.data.toList.head? = some 32 ∧ 0 < fr
  · refine ⟨true, p.extract 1 p.size, (decide_eq_true h).symm, fun _ => ⟨rfl, ?_⟩, fun e => Bool.noConfusion e, ?_, by rw [ByteArray.size_extract]; omega⟩
    · rw [← sz_list]
      cases hp : p.data.toList with
      | nil => rw [hp] at h; simp at h
      | cons a b => simp
    · rw [if_neg (by omega), trim1, if_pos h.1]
      exact ext_list p 1
  · refine ⟨false, p, (decide_eq_false h).symm, fun e => Bool.noConfusion e, fun _ => rfl, ?_, hs⟩
    by_cases hf : fr = 0
    · rw [if_pos hf]
    · rw [if_neg hf, trim1, if_neg fun e => h ⟨e, by omega⟩]
theorem head_of (p : ByteArray) (h : 0 < p.size) : ∃ x : Nat, (p[0]'h).toNat = x ∧ (p.data.toList.head? = some 32 ↔ x = 32) := by
  obtain ⟨c, c1, c2⟩ := byte_at p h
  refine ⟨_, c2, ?_⟩
  rw [List.head?_eq_getElem?, c1]
  constructor
  · intro e
    cases e
    rfl
  · intro e
    rw [show c = 32 from UInt8.toNat_inj.1 e]
/-- The same, with names for what the loops hold. -/
inductive Piece2 (tt : ByteArray) : Prop
  | none (n : Nat) (nm : ByteArray) (hf : fi tt.data.toList = n) (hnm : tt.extract 0 n = nm) (h : n = tt.size) (e : enF (parseF tt.data.toList) = [.string nm, .int .i64 (kindW (⟨#[]⟩ : ByteArray).data.toList), .bool false])
  | bare (n : Nat) (nm ww : ByteArray) (hf : fi tt.data.toList = n) (hnm : tt.extract 0 n = nm) (hww : tt.extract (n + 1) tt.size = ww) (h : n < tt.size) (hb : (tt[n]'h).toNat = 32) (hz : ww.size = 0) (e : enF (parseF tt.data.toList) = [.string nm, .int .i64 (kindW ww.data.toList), .bool false])
  | may (n : Nat) (nm ww : ByteArray) (m x : Nat) (hf : fi tt.data.toList = n) (hnm : tt.extract 0 n = nm) (hww : tt.extract (n + 1) tt.size = ww) (h : n < tt.size) (hb : (tt[n]'h).toNat = 32) (hz : ww.size = m + 1) (hx : (ww[m]'(by omega)).toNat = x) (hn : ((x : Int) == 33) = false) (e : enF (parseF tt.data.toList) = [.string nm, .int .i64 (kindW ww.data.toList), .bool false])
  | must (n : Nat) (nm ww vv : ByteArray) (m : Nat) (hf : fi tt.data.toList = n) (hnm : tt.extract 0 n = nm) (hww : tt.extract (n + 1) tt.size = ww) (h : n < tt.size) (hb : (tt[n]'h).toNat = 32) (hz : ww.size = m + 1) (hx : (ww[m]'(by omega)).toNat = 33) (hvv : ww.extract 0 m = vv) (e : enF (parseF tt.data.toList) = [.string nm, .int .i64 (kindW vv.data.toList), .bool true])
theorem piece2_any (tt : ByteArray) : Piece2 tt := by
  cases piece_any tt with
  | none h e => exact .none _ _ rfl rfl h (by rw [e]; rfl)
  | bare h hb hz e => exact .bare _ _ _ rfl rfl rfl h hb hz (by rw [e]; rfl)
  | may h hb m x hz hx hn e => exact .may _ _ _ m x rfl rfl rfl h hb hz hx hn (by rw [e]; rfl)
  | must h hb m hz hx e => exact .must _ _ _ _ m rfl rfl rfl h hb hz hx rfl (by rw [e]; rfl)
theorem set_1 {w : World} {b : Nat} {x y z : Value} {t : TypeId} (h : w.heap[b]? = some (.cells #[x, y, z] t)) (v : Value) : (w.setCell ⟨b, 1, none⟩ v).heap[b]? = some (.cells #[x, v, z] t) := by
  simp [World.setCell, Array.getElem?_modify, h]
end Go.Proofs.YtfbhalkiilbcoaaGreatDoor
/- A line is read as it is written, by the program and by the reference: mathematics. -/
namespace Go.Proofs.YtfbhalkiilbcoaaGreatDoor
open Go.RowKit

theorem ofNat_ne' {n d : Nat} (h : n < 256) (hd : d < 128) (h2 : n ≠ d) : UInt8.ofNat d ≠ UInt8.ofNat n := by
  intro e
  have := congrArg UInt8.toNat e
  rw [toNat_of h, toNat_of (by omega)] at this
  exact h2 this.symm
theorem enc_no' {c d : Nat} (hs : scal c) (hd : d < 128) (h : c ≠ d) : UInt8.ofNat d ∉ enc c := by
  by_cases h1 : c < 128
  · rw [enc1 h1]
    simp only [List.mem_cons, List.not_mem_nil, or_false]
    exact ofNat_ne' (by omega) hd h
  by_cases h2 : c < 2048
  · rw [enc2 (by omega) h2]
    simp only [List.mem_cons, List.not_mem_nil, or_false, not_or]
    exact ⟨ofNat_ne' (by omega) hd (by omega), ofNat_ne' (by omega) hd (by omega)⟩
  by_cases h3 : c < 65536
  · rw [enc3 (by omega) h3 hs]
    simp only [List.mem_cons, List.not_mem_nil, or_false, not_or]
    exact ⟨ofNat_ne' (by omega) hd (by omega), ofNat_ne' (by omega) hd (by omega), ofNat_ne' (by omega) hd (by omega)⟩
  · rw [enc4 (by omega) hs]
    unfold scal at hs
    simp only [List.mem_cons, List.not_mem_nil, or_false, not_or]
    exact ⟨ofNat_ne' (by omega) hd (by omega), ofNat_ne' (by omega) hd (by omega), ofNat_ne' (by omega) hd (by omega), ofNat_ne' (by omega) hd (by omega)⟩
theorem chk_none {d : Nat} (hb : beginsN d = false) (h46 : d ≠ 46) (h45 : d ≠ 45 ∧ ¬ (48 ≤ d ∧ d ≤ 57)) : ∀ (cs : List Nat) (p r : Nat) (f : Bool), chk p r f cs = 0 → d ∉ cs
  | [], _, _, _ => by simp
  | c :: cs, p, r, f => by
    intro h hm
    rcases List.mem_cons.1 hm with rfl | hm
    · simp only [chk, hb] at h
      rw [if_neg (by simp), if_neg h46, if_pos h45] at h
      cases f <;> simp at h
    · simp only [chk] at h
      split at h
      · exact chk_none hb h46 h45 cs _ _ _ h hm
      split at h
      · cases h
      split at h
      · exact chk_none hb h46 h45 cs _ _ _ h hm
      split at h
      · cases h
      · exact chk_none hb h46 h45 cs _ _ _ h hm
theorem name_no {l : List UInt8} (h : checkL l = 0) {d : Nat} (hd : d < 128) (hb : beginsN d = false) (h46 : d ≠ 46) (h45 : d ≠ 45 ∧ ¬ (48 ≤ d ∧ d ≤ 57)) : UInt8.ofNat d ∉ l := by
  intro hm
  have hv := enc_rns l.length l (Nat.le_refl _) (valid_of_name h)
  rw [← hv] at hm
  obtain ⟨c, hc, hx⟩ := List.mem_flatMap.1 hm
  by_cases e : c = d
  · subst e
    exact chk_none hb h46 h45 _ _ _ _ h hc
  · exact enc_no' (rns_scal _ c hc) hd e hx
theorem name_ok {x : Fd} (h : mayF x = true) : (∀ c ∈ x.n.data.toList, c ≠ 44) ∧ (∀ c ∈ x.n.data.toList, c ≠ 32) := by
  have h1 := (may_k h).2.2
  unfold oneP at h1
  rw [Bool.and_eq_true] at h1
  have hc := of_decide_eq_true h1.1
  refine ⟨fun c hc' e => ?_, fun c hc' e => ?_⟩
  · subst e; exact name_no hc (d := 44) (by decide) (by decide) (by decide) (by decide) hc'
  · subst e; exact name_no hc (d := 32) (by decide) (by decide) (by decide) (by decide) hc'
theorem word_no (k : Nat) : ∀ c ∈ wordK k, c ≠ 44 := by
  unfold wordK
  split <;> decide
theorem word_not33 (k : Nat) : ¬ ∃ t, wordK k = t ++ [33] := by
  intro ⟨t, h⟩
  have := congrArg List.getLast? h
  rw [List.getLast?_concat] at this
  unfold wordK at this
  split at this <;> simp at this
theorem shF_no {x : Fd} (h : mayF x = true) : ∀ c ∈ shF x, c ≠ 44 := by
  intro c hc
  unfold shF at hc
  rw [List.mem_append, List.mem_append, List.mem_append] at hc
  rcases hc with ((hc | hc) | hc) | hc
  · exact (name_ok h).1 c hc
  · simp at hc; subst hc; decide
  · exact word_no _ c hc
  · split at hc
    · simp at hc; subst hc; decide
    · simp at hc
theorem fi_app : ∀ (a r : List UInt8), (∀ c ∈ a, c ≠ 32) → fi (a ++ 32 :: r) = a.length
  | [], r, _ => by simp [fi]
  | c :: a, r, h => by
    rw [List.cons_append, fi, if_neg (h c (by simp)), fi_app a r fun x hx => h x (by simp [hx])]
    rfl
theorem drop_aux (a r : List UInt8) : (a ++ 32 :: r).drop (a.length + 1) = r := by
  induction a with
  | nil => rfl
  | cons c a ih => exact ih
theorem take_aux (a r : List UInt8) : (a ++ 32 :: r).take a.length = a := by simp
theorem parse_show {x : Fd} (h : mayF x = true) : parseF (shF x) = x := by
  obtain ⟨h1, h5, -⟩ := may_k h
  have hn := (name_ok h).2
  obtain ⟨n, k, m⟩ := x
  have h1 : 1 ≤ k := h1
  have h5 : k < 5 := h5
  have hk : kindW (wordK k.toNat) = k := by
    have := (kindW_iff (V := wordK k.toNat) (k := k.toNat) (by omega) (by omega)).1 rfl
    omega
  have e : shF ⟨n, k, m⟩ = n.data.toList ++ 32 :: (wordK k.toNat ++ if m = true then [33] else []) := by simp [shF]
  have hf := fi_app n.data.toList (wordK k.toNat ++ if m = true then [33] else []) hn
  have hl : fi (shF ⟨n, k, m⟩) < (shF ⟨n, k, m⟩).length := by rw [e, hf]; simp
  have hd : (shF ⟨n, k, m⟩).drop (fi (shF ⟨n, k, m⟩) + 1) = wordK k.toNat ++ if m = true then [33] else [] := by
    rw [e, hf, drop_aux]
  have ht : (shF ⟨n, k, m⟩).take (fi (shF ⟨n, k, m⟩)) = n.data.toList := by
    rw [e, hf, take_aux]
  cases m with
  | true =>
    rw [parse_must hl (t := wordK k.toNat) (by rw [hd]; rfl), ht, str_of, hk]
  | false =>
    have hd : (shF ⟨n, k, false⟩).drop (fi (shF ⟨n, k, false⟩) + 1) = wordK k.toNat := by rw [hd]; simp
    rw [parse_may hl (by rw [hd]; exact word_not33 _), ht, str_of, hd, hk]
theorem show_parse {y : List UInt8} (h : mayF (parseF y) = true) : shF (parseF y) = y := by
  obtain ⟨h1, h5, -⟩ := may_k h
  by_cases hl : fi y < y.length
  · have ey : y = y.take (fi y) ++ 32 :: y.drop (fi y + 1) := by
      conv => lhs; rw [← List.take_append_drop (fi y) y]
      rw [List.drop_eq_getElem_cons hl]
      have := fi_at y hl
      rw [List.getElem?_eq_getElem hl] at this
      rw [Option.some.inj this]
    by_cases hm : ∃ t, y.drop (fi y + 1) = t ++ [33]
    · obtain ⟨t, ht⟩ := hm
      have e := parse_must hl ht
      rw [e] at h1 h5 ⊢
      have hw : t = wordK (kindW t).toNat := (kindW_iff (k := (kindW t).toNat) (by have : 1 ≤ kindW t := h1; omega) (by have : kindW t < 5 := h5; omega)).2 (by have : 1 ≤ kindW t := h1; omega)
      show (str (y.take (fi y))).data.toList ++ [32] ++ wordK (kindW t).toNat ++ [33] = y
      rw [str_data, ← hw]
      conv => rhs; rw [ey, ht]
      simp
    · have e := parse_may hl hm
      rw [e] at h1 h5 ⊢
      have hw : y.drop (fi y + 1) = wordK (kindW (y.drop (fi y + 1))).toNat := (kindW_iff (k := (kindW (y.drop (fi y + 1))).toNat) (by have : 1 ≤ kindW (y.drop (fi y + 1)) := h1; omega) (by have : kindW (y.drop (fi y + 1)) < 5 := h5; omega)).2 (by have : 1 ≤ kindW (y.drop (fi y + 1)) := h1; omega)
      show (str (y.take (fi y))).data.toList ++ [32] ++ wordK (kindW (y.drop (fi y + 1))).toNat ++ [] = y
      rw [str_data, ← hw]
      conv => rhs; rw [ey]
      simp
  · have e := parse_none hl
    rw [e] at h1
    exact absurd h1 (by show ¬ (1 : Int) ≤ 0; decide)
end Go.Proofs.YtfbhalkiilbcoaaGreatDoor
/- What the program reads of a line is what the reference reads: mathematics. -/
namespace Go.Proofs.YtfbhalkiilbcoaaGreatDoor
open Go.RowKit

theorem tail_cons (y : List UInt8) (ys : List (List UInt8)) : Lib.joinTail [44, 32] (y :: ys) = 44 :: 32 :: (y ++ Lib.joinTail [44, 32] ys) := by simp [Lib.joinTail]
theorem pcs_join : ∀ (ys : List (List UInt8)) (a : List UInt8), (∀ c ∈ a, c ≠ 44) → (∀ y ∈ ys, ∀ c ∈ y, c ≠ 44) → pcs (a ++ Lib.joinTail [44, 32] ys) = a :: ys.map (32 :: ·)
  | [], a, ha, _ => by
    have e : Lib.joinTail [44, 32] [] = [] := rfl
    rw [e, List.append_nil, pcs_no a ha]; rfl
  | y :: ys, a, ha, hy => by
    rw [tail_cons, pcs_cons a _ ha]
    have := pcs_join ys (32 :: y) (fun c hc => by
      rcases List.mem_cons.1 hc with rfl | hc
      · decide
      · exact hy y (by simp) c hc) (fun z hz => hy z (by simp [hz]))
    rw [List.cons_append] at this
    rw [this]
    rfl
theorem flds_join {F : List Fd} (h : ∀ x ∈ F, mayF x = true) (h0 : F ≠ []) : flds (pcs (Lib.join (F.map shF) [44, 32])) = F := by
  match F, h0 with
  | x :: r, _ =>
    rw [List.map_cons, Lib.join_cons, pcs_join _ _ (shF_no (h x (by simp))) (fun y hy => by
      obtain ⟨z, hz, rfl⟩ := List.mem_map.1 hy
      exact shF_no (h z (by simp [hz])))]
    show parseF (shF x) :: ((r.map shF).map (32 :: ·)).map (fun q => parseF (trim1 q)) = x :: r
    rw [parse_show (h x (by simp)), List.map_map, List.map_map]
    congr 1
    conv => rhs; rw [← List.map_id r]
    refine List.map_congr_left fun z hz => ?_
    show parseF (trim1 (32 :: shF z)) = z
    have e : trim1 (32 :: shF z) = shF z := by simp [trim1]
    rw [e, parse_show (h z (by simp [hz]))]
theorem occ_44 {s : List UInt8} {j : Nat} (h : Lib.occAt s [44, 32] j = true) : s[j]? = some 44 := Lib.occAt_head rfl h
theorem idx_none {a : List UInt8} (ha : ∀ c ∈ a, c ≠ 44) : Lib.index a [44, 32] = -1 := by
  refine Lib.index_none fun j _ => ?_
  rw [← Bool.not_eq_true]
  intro h
  have := occ_44 h
  exact ha 44 (List.mem_of_getElem? this) rfl
theorem idx_at {a : List UInt8} (r : List UInt8) (ha : ∀ c ∈ a, c ≠ 44) : Lib.index (a ++ 44 :: 32 :: r) [44, 32] = (a.length : Int) := by
  refine Lib.index_first (by simp) ?_ fun j hj => ?_
  · unfold Lib.occAt
    rw [List.drop_left]
    simp [List.isPrefixOf]
  · rw [← Bool.not_eq_true]
    intro h
    have := occ_44 h
    rw [List.getElem?_append_left hj] at this
    exact ha 44 (List.mem_of_getElem? this) rfl
theorem split_join : ∀ (ys : List (List UInt8)) (a : List UInt8) (k : Nat), ys.length ≤ k → (∀ c ∈ a, c ≠ 44) → (∀ y ∈ ys, ∀ c ∈ y, c ≠ 44) → Lib.splitB ⟨#[44, 32]⟩ 0 k (str (a ++ Lib.joinTail [44, 32] ys)) = str a :: ys.map str
  | [], a, k, _, ha, _ => by
    have e : Lib.joinTail [44, 32] [] = [] := rfl
    rw [e, List.append_nil]
    refine Lib.splitB_miss _ _ _ _ ?_
    show Lib.index (str a).data.toList [44, 32] = -1
    rw [str_data]
    exact idx_none ha
  | y :: ys, a, 0, h, _, _ => absurd h (by simp)
  | y :: ys, a, k + 1, h, ha, hy => by
    rw [tail_cons]
    have hi : Lib.indexB (str (a ++ 44 :: 32 :: (y ++ Lib.joinTail [44, 32] ys))) ⟨#[44, 32]⟩ = (a.length : Int) := by
      show Lib.index (str _).data.toList [44, 32] = _
      rw [str_data]
      exact idx_at _ ha
    rw [Lib.splitB_hit _ _ _ _ _ hi]
    have e1 : (str (a ++ 44 :: 32 :: (y ++ Lib.joinTail [44, 32] ys))).extract 0 (a.length + 0) = str a := by
      rw [ext_str, str_data]
      simp
    have e2 : (str (a ++ 44 :: 32 :: (y ++ Lib.joinTail [44, 32] ys))).extract (a.length + (⟨#[44, 32]⟩ : ByteArray).size) (str (a ++ 44 :: 32 :: (y ++ Lib.joinTail [44, 32] ys))).size = str (y ++ Lib.joinTail [44, 32] ys) := by
      have e3 := ext_list (str (a ++ 44 :: 32 :: (y ++ Lib.joinTail [44, 32] ys))) (a.length + (⟨#[44, 32]⟩ : ByteArray).size)
      rw [str_data] at e3
      rw [← str_of (ByteArray.extract _ _ _), e3]
      congr 1
      show (a ++ 44 :: 32 :: (y ++ Lib.joinTail [44, 32] ys)).drop (a.length + 2) = _
      rw [List.drop_append]
      simp
    rw [e1, e2, split_join ys y k (by simpa using h) (hy y (by simp)) (fun z hz => hy z (by simp [hz]))]
    rfl
theorem parse_join {F : List Fd} (h : ∀ x ∈ F, mayF x = true) (h0 : F ≠ []) (h24 : F.length ≤ 24) (hz : F.length ≤ (Lib.join (F.map shF) [44, 32]).length + 1) : parseL (str (Lib.join (F.map shF) [44, 32])) = F := by
  match F, h0 with
  | x :: r, _ =>
    unfold parseL pL
    rw [str_size]
    have hk : r.length ≤ min 25 ((Lib.join ((x :: r).map shF) [44, 32]).length + 1) - 1 := by rw [List.length_cons] at h24 hz; omega
    generalize min 25 ((Lib.join ((x :: r).map shF) [44, 32]).length + 1) - 1 = k at *
    rw [List.map_cons, Lib.join_cons, split_join _ _ _ (by rw [List.length_map]; exact hk) (shF_no (h x (by simp))) (fun y hy => by
      obtain ⟨z, hz, rfl⟩ := List.mem_map.1 hy
      exact shF_no (h z (by simp [hz])))]
    show parseF (str (shF x)).data.toList :: ((r.map shF).map str).map (fun q => parseF q.data.toList) = x :: r
    rw [str_data, parse_show (h x (by simp)), List.map_map, List.map_map]
    congr 1
    conv => rhs; rw [← List.map_id r]
    refine List.map_congr_left fun z hz => ?_
    show parseF (str (shF z)).data.toList = z
    rw [str_data, parse_show (h z (by simp [hz]))]
theorem join_split : ∀ (k : Nat) (s : ByteArray), Lib.join ((Lib.splitB ⟨#[44, 32]⟩ 0 k s).map fun y => y.data.toList) [44, 32] = s.data.toList
  | 0, s => Lib.join_one _ _
  | k + 1, s => by
    rcases Lib.index_spec s.data.toList [44, 32] with ⟨h, _⟩ | ⟨i, h, hi, ho, _⟩
    · rw [Lib.splitB_miss _ _ _ _ h]
      exact Lib.join_one _ _
    · rw [Lib.splitB_hit _ _ _ _ i h]
      have ih := join_split k (s.extract (i + (⟨#[44, 32]⟩ : ByteArray).size) s.size)
      have hne : Lib.splitB ⟨#[44, 32]⟩ 0 k (s.extract (i + (⟨#[44, 32]⟩ : ByteArray).size) s.size) ≠ [] := by
        cases k with
        | zero => simp [Lib.splitB]
        | succ k => unfold Lib.splitB; split <;> simp
      generalize Lib.splitB ⟨#[44, 32]⟩ 0 k (s.extract (i + (⟨#[44, 32]⟩ : ByteArray).size) s.size) = R at *
      match R, hne with
      | y :: ys, _ =>
        rw [List.map_cons, Lib.join_cons] at ih
        rw [List.map_cons, List.map_cons, Lib.join_cons, tail_cons, ih, ext_mid, ext_list]
        have hp : s.data.toList.drop i = 44 :: 32 :: s.data.toList.drop (i + 2) := by
          unfold Lib.occAt at ho
          obtain ⟨t, ht⟩ := List.isPrefixOf_iff_prefix.1 ho
          rw [← List.drop_drop, ← ht]
          rfl
        show (s.data.toList.drop 0).take (i + 0 - 0) ++ 44 :: 32 :: s.data.toList.drop (i + 2) = _
        rw [← hp]
        simp
/-- A line that says a schema is the schema's line. -/
theorem show_of_parse {s : ByteArray} (h : chkF (parseL s) = true) : Lib.join ((parseL s).map shF) [44, 32] = s.data.toList := by
  have e := join_split (min 25 (s.size + 1) - 1) s
  rw [← e]
  unfold parseL pL at *
  congr 1
  rw [List.map_map]
  refine List.map_congr_left fun y hy => ?_
  show shF (parseF y.data.toList) = y.data.toList
  refine show_parse ?_
  obtain ⟨k, hk, e2⟩ := List.getElem_of_mem hy
  have := (chk_ok h k (by rw [List.length_map]; exact hk)).1
  rw [List.getElem_map, e2] at this
  exact this
theorem parseL_ne (s : ByteArray) : parseL s ≠ [] := by
  unfold parseL pL
  generalize min 25 (s.size + 1) - 1 = k
  cases k with
  | zero => simp [Lib.splitB]
  | succ k => unfold Lib.splitB; split <;> simp
theorem pcs_ne (l : List UInt8) : pcs l ≠ [] := by
  cases l with
  | nil => simp [pcs]
  | cons c r => unfold pcs; split; · simp
                split <;> simp
theorem flds_ne {D : List (List UInt8)} (h : D ≠ []) : flds D ≠ [] := by
  cases D with
  | nil => exact absurd rfl h
  | cons d D => simp [flds]
theorem chk_may {F : List Fd} (h : chkF F = true) : ∀ x ∈ F, mayF x = true := fun x hx => by
  obtain ⟨k, hk, rfl⟩ := List.getElem_of_mem hx
  exact (chk_ok h k hk).1
theorem len_join : ∀ F : List Fd, F.length ≤ (Lib.join (F.map shF) [44, 32]).length + 1
  | [] => by simp
  | x :: r => by
    rw [List.map_cons, join_len]
    simp
    omega
/-- The reference reads what the program reads. -/
theorem rparse_eq (s : ByteArray) : rparse s = parseR s := by
  unfold rparse parseR
  by_cases h45 : s.data.toList = [45]
  · rw [if_pos h45, if_pos h45]
  rw [if_neg h45, if_neg h45]
  by_cases hc : chkF (parseL s) = true
  · have e := show_of_parse hc
    have h0 := parseL_ne s
    have hf := flds_join (chk_may hc) h0
    rw [e] at hf
    have hl : (parseL s).length ≠ 0 := fun h => h0 (List.length_eq_zero_iff.1 h)
    have hsh : showL (parseL s) = s.data.toList := by unfold showL; rw [if_pos hc, if_neg hl, e]
    rw [if_pos hc, hf]
    rw [if_neg]
    intro h
    rcases h with h | h
    · obtain ⟨x, r, er⟩ := List.exists_cons_of_ne_nil h0
      rw [er, List.map_cons, Lib.join_cons, h] at e
      have := congrArg List.length e
      unfold shF at this
      simp at this
    · exact h hsh
  · rw [if_neg hc, if_pos]
    rw [Classical.or_iff_not_imp_left]
    intro hs h
    have hk : chkF (flds (pcs s.data.toList)) = true := by
      rw [← Bool.not_eq_false]
      intro e
      unfold showL at h
      rw [e] at h
      exact hs h.symm
    have hn := flds_ne (pcs_ne s.data.toList)
    have hl : (flds (pcs s.data.toList)).length ≠ 0 := fun h => hn (List.length_eq_zero_iff.1 h)
    unfold showL at h
    rw [if_pos hk, if_neg hl] at h
    have hp := parse_join (chk_may hk) hn (chk_len hk) (len_join _)
    rw [h, str_of] at hp
    rw [hp] at hc
    exact hc hk
end Go.Proofs.YtfbhalkiilbcoaaGreatDoor
