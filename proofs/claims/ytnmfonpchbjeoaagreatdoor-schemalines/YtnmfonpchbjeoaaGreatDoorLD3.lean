/- A piece of a line, as the reference's loops meet it. -/
import Derived.Test.YtnmfonpchbjeoaaGreatDoorLD2
namespace Go.Proofs.YtnmfonpchbjeoaaGreatDoor
open Go.RowKit

theorem sz_list (s : ByteArray) : s.data.toList.length = s.size := (Lib.size_eq s).symm
theorem ba_of {a b : ByteArray} (h : a.data.toList = b.data.toList) : a = b := by rw [← str_of a, ← str_of b, h]
theorem ext_str (s : ByteArray) (a b : Nat) : s.extract a b = str ((s.data.toList.drop a).take (b - a)) := by rw [← ext_mid, str_of]
theorem blank_before (tt : ByteArray) {j : Nat} (hj : j < fi tt.data.toList) : ∃ h : j < tt.size, ∃ x : Nat, (tt[j]'h).toNat = x ∧ ((x : Int) != 32) = true := by
  have h1 := fi_le tt.data.toList
  rw [sz_list] at h1
  have h : j < tt.size := by omega
  obtain ⟨c, c1, c2⟩ := byte_at tt h
  obtain ⟨c', c3, c4⟩ := fi_lt _ j hj
  rw [c1] at c3
  cases c3
  exact ⟨h, _, c2, byte_ne (d := 32) c4⟩
/-- The four ways of a piece. -/
inductive Piece (tt : ByteArray) : Prop
  | none (h : fi tt.data.toList = tt.size) (e : parseF tt.data.toList = ⟨tt.extract 0 (fi tt.data.toList), kindW (⟨#[]⟩ : ByteArray).data.toList, false⟩)
  | bare (h : fi tt.data.toList < tt.size) (hb : (tt[fi tt.data.toList]'h).toNat = 32) (hz : (tt.extract (fi tt.data.toList + 1) tt.size).size = 0) (e : parseF tt.data.toList = ⟨tt.extract 0 (fi tt.data.toList), kindW (tt.extract (fi tt.data.toList + 1) tt.size).data.toList, false⟩)
  | may (h : fi tt.data.toList < tt.size) (hb : (tt[fi tt.data.toList]'h).toNat = 32) (m x : Nat) (hz : (tt.extract (fi tt.data.toList + 1) tt.size).size = m + 1) (hx : ((tt.extract (fi tt.data.toList + 1) tt.size)[m]'(by omega)).toNat = x) (hn : ((x : Int) == 33) = false) (e : parseF tt.data.toList = ⟨tt.extract 0 (fi tt.data.toList), kindW (tt.extract (fi tt.data.toList + 1) tt.size).data.toList, false⟩)
  | must (h : fi tt.data.toList < tt.size) (hb : (tt[fi tt.data.toList]'h).toNat = 32) (m : Nat) (hz : (tt.extract (fi tt.data.toList + 1) tt.size).size = m + 1) (hx : ((tt.extract (fi tt.data.toList + 1) tt.size)[m]'(by omega)).toNat = 33) (e : parseF tt.data.toList = ⟨tt.extract 0 (fi tt.data.toList), kindW ((tt.extract (fi tt.data.toList + 1) tt.size).extract 0 m).data.toList, true⟩)
theorem piece_any (tt : ByteArray) : Piece tt := by
  have hl := sz_list tt
  have hle := fi_le tt.data.toList
  have ex0 : tt.extract 0 (fi tt.data.toList) = str (tt.data.toList.take (fi tt.data.toList)) := by rw [ext_str]; rfl
  by_cases h : fi tt.data.toList < tt.size
  · have h' : fi tt.data.toList < tt.data.toList.length := by omega
    have hb : (tt[fi tt.data.toList]'h).toNat = 32 := by
      obtain ⟨c, c1, c2⟩ := byte_at tt h
      rw [fi_at _ h'] at c1
      cases c1
      exact c2
    have ew : (tt.extract (fi tt.data.toList + 1) tt.size).data.toList = tt.data.toList.drop (fi tt.data.toList + 1) := ext_list tt _
    by_cases hm : ∃ t, tt.data.toList.drop (fi tt.data.toList + 1) = t ++ [33]
    · obtain ⟨t, ht⟩ := hm
      have e := parse_must h' ht
      rw [← ex0] at e
      have hz : (tt.extract (fi tt.data.toList + 1) tt.size).size = t.length + 1 := by rw [← sz_list, ew, ht]; simp
      refine .must h hb t.length hz ?_ ?_
      · obtain ⟨c, c1, c2⟩ := byte_at (tt.extract (fi tt.data.toList + 1) tt.size) (i := t.length) (by omega)
        rw [ew, ht] at c1
        simp at c1
        rw [c2, ← c1]
        rfl
      · rw [e, ext_mid _ 0 t.length, ew, ht]
        simp
    · have e := parse_may h' hm
      rw [← ex0, ← ew] at e
      by_cases hz : (tt.extract (fi tt.data.toList + 1) tt.size).size = 0
      · exact .bare h hb hz e
      · obtain ⟨m, hm2⟩ : ∃ m, (tt.extract (fi tt.data.toList + 1) tt.size).size = m + 1 := ⟨(tt.extract (fi tt.data.toList + 1) tt.size).size - 1, by omega⟩
        refine .may h hb m _ hm2 rfl ?_ e
        obtain ⟨c, c1, c2⟩ := byte_at (tt.extract (fi tt.data.toList + 1) tt.size) (i := m) (by omega)
        rw [c2]
        rw [beq_eq_false_iff_ne]
        intro he
        refine hm ⟨(tt.data.toList.drop (fi tt.data.toList + 1)).take m, ?_⟩
        rw [ew] at c1
        have hc : c = 33 := UInt8.toNat_inj.1 (by show c.toNat = 33; omega)
        subst hc
        have hlen : (tt.data.toList.drop (fi tt.data.toList + 1)).length = m + 1 := by rw [← ew, sz_list, hm2]
        conv => lhs; rw [← List.take_of_length_le (Nat.le_of_eq hlen)]
        rw [List.take_add_one, c1]
        rfl
  · have h' : ¬ fi tt.data.toList < tt.data.toList.length := by omega
    have e := parse_none h'
    refine .none (by omega) ?_
    rw [e, ex0, List.take_of_length_le (by omega)]
    rfl
/-- A piece, and what is left of it where it is not the first. -/
theorem trim_any (p : ByteArray) (fr : Nat) (hs : p.size ≤ 2000) : ∃ (tr : Bool) (tt : ByteArray), (tr = decide (p.data.toList.head? = some 32 ∧ 0 < fr)) ∧ (tr = true → p.extract 1 p.size = tt ∧ 0 < p.size) ∧ (tr = false → p = tt) ∧ tt.data.toList = (if fr = 0 then p.data.toList else trim1 p.data.toList) ∧ tt.size ≤ 2000 := by
  by_cases h : p.data.toList.head? = some 32 ∧ 0 < fr
  · refine ⟨true, p.extract 1 p.size, (decide_eq_true h).symm, fun _ => ⟨rfl, ?_⟩, fun e => Bool.noConfusion e, ?_, by rw [ByteArray.size_extract]; omega⟩
    · rw [← sz_list]
      cases hp : p.data.toList with
      | nil => rw [hp] at h; simp at h
      | cons a b => simp
    · rw [if_neg (by omega), trim1, if_pos h.1]
      exact ext_list p 1
  · refine ⟨false, p, (decide_eq_false h).symm, fun e => Bool.noConfusion e, fun _ => rfl, ?_, hs⟩
    by_cases hf : fr = 0
    · rw [if_pos hf]
    · rw [if_neg hf, trim1, if_neg fun e => h ⟨e, by omega⟩]
theorem head_of (p : ByteArray) (h : 0 < p.size) : ∃ x : Nat, (p[0]'h).toNat = x ∧ (p.data.toList.head? = some 32 ↔ x = 32) := by
  obtain ⟨c, c1, c2⟩ := byte_at p h
  refine ⟨_, c2, ?_⟩
  rw [List.head?_eq_getElem?, c1]
  constructor
  · intro e
    cases e
    rfl
  · intro e
    rw [show c = 32 from UInt8.toNat_inj.1 e]
/-- The same, with names for what the loops hold. -/
inductive Piece2 (tt : ByteArray) : Prop
  | none (n : Nat) (nm : ByteArray) (hf : fi tt.data.toList = n) (hnm : tt.extract 0 n = nm) (h : n = tt.size) (e : enF (parseF tt.data.toList) = [.string nm, .int .i64 (kindW (⟨#[]⟩ : ByteArray).data.toList), .bool false])
  | bare (n : Nat) (nm ww : ByteArray) (hf : fi tt.data.toList = n) (hnm : tt.extract 0 n = nm) (hww : tt.extract (n + 1) tt.size = ww) (h : n < tt.size) (hb : (tt[n]'h).toNat = 32) (hz : ww.size = 0) (e : enF (parseF tt.data.toList) = [.string nm, .int .i64 (kindW ww.data.toList), .bool false])
  | may (n : Nat) (nm ww : ByteArray) (m x : Nat) (hf : fi tt.data.toList = n) (hnm : tt.extract 0 n = nm) (hww : tt.extract (n + 1) tt.size = ww) (h : n < tt.size) (hb : (tt[n]'h).toNat = 32) (hz : ww.size = m + 1) (hx : (ww[m]'(by omega)).toNat = x) (hn : ((x : Int) == 33) = false) (e : enF (parseF tt.data.toList) = [.string nm, .int .i64 (kindW ww.data.toList), .bool false])
  | must (n : Nat) (nm ww vv : ByteArray) (m : Nat) (hf : fi tt.data.toList = n) (hnm : tt.extract 0 n = nm) (hww : tt.extract (n + 1) tt.size = ww) (h : n < tt.size) (hb : (tt[n]'h).toNat = 32) (hz : ww.size = m + 1) (hx : (ww[m]'(by omega)).toNat = 33) (hvv : ww.extract 0 m = vv) (e : enF (parseF tt.data.toList) = [.string nm, .int .i64 (kindW vv.data.toList), .bool true])
theorem piece2_any (tt : ByteArray) : Piece2 tt := by
  cases piece_any tt with
  | none h e => exact .none _ _ rfl rfl h (by rw [e]; rfl)
  | bare h hb hz e => exact .bare _ _ _ rfl rfl rfl h hb hz (by rw [e]; rfl)
  | may h hb m x hz hx hn e => exact .may _ _ _ m x rfl rfl rfl h hb hz hx hn (by rw [e]; rfl)
  | must h hb m hz hx e => exact .must _ _ _ _ m rfl rfl rfl h hb hz hx rfl (by rw [e]; rfl)
theorem set_1 {w : World} {b : Nat} {x y z : Value} {t : TypeId} (h : w.heap[b]? = some (.cells #[x, y, z] t)) (v : Value) : (w.setCell ⟨b, 1, none⟩ v).heap[b]? = some (.cells #[x, v, z] t) := by
  simp [World.setCell, Array.getElem?_modify, h]
end Go.Proofs.YtnmfonpchbjeoaaGreatDoor
