/- value.itemOf and value.Read at any bytes: walks over quic's contracts. -/
import Derived.Test.YtdendpckihckeaaGreatDoorVL
import Derived.Test.YtdendpckihckeaaGreatDoorT3
namespace Go.Proofs.YtdendpckihckeaaGreatDoor
open Go.RowKit

/-- The kind of the item that a value of this kind is written as; 0 if there is none. -/
def itm (k : Int) : Int := if k = 1 then 2 else if k = 3 then 3 else if k = 2 ∨ k = 4 then 4 else 0
theorem itm_rng {k : Int} (h1 : 1 ≤ k) (h4 : k ≤ 4) : 1 ≤ itm k ∧ itm k ≤ 4 := by
  obtain rfl | rfl | rfl | rfl : k = 1 ∨ k = 2 ∨ k = 3 ∨ k = 4 := by omega
  all_goals decide
theorem itm_zero {k : Int} (h : k < 1 ∨ 4 < k) : itm k = 0 := by
  unfold itm; rw [if_neg (by omega), if_neg (by omega), if_neg (by omega)]
theorem itemOf_any (k : Int) (w : World) : Calls Tryz.prog 43 #[.int .i64 k] w fun e w' => e = .returned (.int .i64 (itm k)) ∧ w' = w := by
  by_cases e1 : k = 1
  · subst e1
    go_enter Tryz.func43, Tryz.ntmps43
    go_wp2
    go_ret
    exact ⟨rfl, rfl⟩
  by_cases e3 : k = 3
  · subst e3
    go_enter Tryz.func43, Tryz.ntmps43
    go_wp2
    go_ret
    exact ⟨rfl, rfl⟩
  by_cases e2 : k = 2
  · subst e2
    go_enter Tryz.func43, Tryz.ntmps43
    go_wp2
    go_ret
    exact ⟨rfl, rfl⟩
  by_cases e4 : k = 4
  · subst e4
    go_enter Tryz.func43, Tryz.ntmps43
    go_wp2
    go_ret
    exact ⟨rfl, rfl⟩
  have g : itm k = 0 := by unfold itm; rw [if_neg e1, if_neg e3, if_neg (by omega)]
  rw [g]
  clear g
  have f1 : (k == 1) = false := by rw [beq_eq_false_iff_ne]; exact e1
  have f2 : (k == 2) = false := by rw [beq_eq_false_iff_ne]; exact e2
  have f3 : (k == 3) = false := by rw [beq_eq_false_iff_ne]; exact e3
  have f4 : (k == 4) = false := by rw [beq_eq_false_iff_ne]; exact e4
  clear e1 e2 e3 e4
  go_enter Tryz.func43, Tryz.ntmps43
  go_wp2
  go_ret
  exact ⟨rfl, rfl⟩

theorem tS_size (s : ByteArray) (k : Int) : (Q.tS s k).size ≤ s.size := by
  unfold Q.tS
  split
  · unfold Q.ttS
    split
    · have := Q.getRest_size s
      rw [ByteArray.size_extract]
      omega
    · exact Nat.zero_le _
  · exact Nat.zero_le _
/-- A row of one int, new. -/
theorem row_one (W : World) (k : Int) (t : TypeId) : IsRow (W.alloc (.cells #[.int .i64 k] t)) 1 (.slice (some ⟨W.heap.size, 0, none⟩) 1 1) [k].length (Q.intCells [k]) := by
  refine ⟨rfl, .inr ⟨W.heap.size, 0, 1, rfl, by simp, Nat.le_refl _, by decide, fun j u hu => ?_⟩⟩
  cases j with
  | zero =>
    have : u = .int .i64 k := by simpa [Q.intCells] using hu.symm
    subst this
    simp
  | succ j => simp [Q.intCells] at hu
/-- One item at the front of bytes: its cells, the rest. -/
def OneAt (N : Int) (S : ByteArray) (v : Value) (w : World) : Prop :=
  ∃ b off cap, v = .slice (some ⟨b, off, none⟩) 1 cap ∧ b < w.heap.size ∧ w.cell? ⟨b, off + 1, none⟩ = some (.int .i64 N) ∧ w.cell? ⟨b, off + 2, none⟩ = some (.string S)
theorem one_of {w : World} {v : Value} {x : It} (h : IsRow w 3 v 1 (itCells [x])) : OneAt x.n x.s v w := by
  obtain ⟨b, off, cap, hv, hb, _, _, hc⟩ := h.open (by omega)
  exact ⟨b, off, cap, hv, hb, hc 1 _ rfl, hc 2 _ rfl⟩
theorem takeR_ok {s : ByteArray} {k : Int} (h1 : 1 ≤ k) (h4 : k ≤ 4) (h : Q.tE s k = 0) : Q.takeR s [k] = ([⟨k, Q.tN s k, Q.tS s k⟩], Q.tR s k, 0) := by
  unfold Q.takeR
  rw [if_pos (by simp [Q.isK, h1, h4]), Q.tk, if_pos h]
  rfl
theorem takeR_no {s : ByteArray} {k : Int} (h1 : 1 ≤ k) (h4 : k ≤ 4) (h : ¬ Q.tE s k = 0) : Q.takeR s [k] = ([], ⟨#[]⟩, Q.tE s k) := by
  unfold Q.takeR
  rw [if_pos (by simp [Q.isK, h1, h4]), Q.tk, if_neg h]
theorem take_1ok (s : ByteArray) (k : Int) (t : TypeId) (W : World) (hs : s.size ≤ 140737488355328) (h1 : 1 ≤ k) (h4 : k ≤ 4) (h : Q.tE s k = 0) :
    Calls Tryz.prog 45 #[.string s, .slice (some ⟨W.heap.size, 0, none⟩) 1 1] (W.alloc (.cells #[.int .i64 k] t)) fun e w' => (∃ v, e = .returned (.tuple #[v, .string (Q.tR s k), .int .i64 0]) ∧ OneAt (Q.tN s k) (Q.tS s k) v w') ∧ Below W.heap.size W w' := by
  refine (Q.take_any s _ [k] _ hs (row_one W k t) (by simp)).mono ?_
  rintro e w' ⟨v, he, hr, hb⟩
  rw [takeR_ok h1 h4 h] at he hr
  exact ⟨⟨v, he, one_of hr⟩, ((Below.refl _ _).alloc (Nat.le_refl _) _).trans (hb.mono (by simp))⟩
theorem take_1no (s : ByteArray) (k : Int) (t : TypeId) (W : World) (hs : s.size ≤ 140737488355328) (h1 : 1 ≤ k) (h4 : k ≤ 4) (h : ¬ Q.tE s k = 0) :
    Calls Tryz.prog 45 #[.string s, .slice (some ⟨W.heap.size, 0, none⟩) 1 1] (W.alloc (.cells #[.int .i64 k] t)) fun e w' => (∃ a n c, e = .returned (.tuple #[.slice a n c, .string ⟨#[]⟩, .int .i64 (Q.tE s k)])) ∧ Below W.heap.size W w' := by
  refine (Q.take_any s _ [k] _ hs (row_one W k t) (by simp)).mono ?_
  rintro e w' ⟨v, he, hr, hb⟩
  rw [takeR_no h1 h4 h] at he hr
  obtain ⟨a, c, rfl⟩ := hr.form
  exact ⟨⟨a, _, c, he⟩, ((Below.refl _ _).alloc (Nat.le_refl _) _).trans (hb.mono (by simp))⟩

/-- What Read says: the value, the rest, the error. -/
structure Rd where
  k : Int
  n : Int
  s : ByteArray
  r : ByteArray
  e : Int
def rd (s : ByteArray) : Rd :=
  if ¬ Q.getE s = 0 then ⟨0, 0, ⟨#[]⟩, ⟨#[]⟩, Q.getE s⟩
  else if Q.getV s < 1 ∨ 4 < Q.getV s then ⟨0, 0, ⟨#[]⟩, ⟨#[]⟩, 8⟩
  else if ¬ Q.tE (Q.getRest s) (itm (Q.getV s)) = 0 then ⟨0, 0, ⟨#[]⟩, ⟨#[]⟩, Q.tE (Q.getRest s) (itm (Q.getV s))⟩
  else if chkV (Q.getV s) (Q.tN (Q.getRest s) (itm (Q.getV s))) (Q.tS (Q.getRest s) (itm (Q.getV s))) = true then ⟨Q.getV s, Q.tN (Q.getRest s) (itm (Q.getV s)), Q.tS (Q.getRest s) (itm (Q.getV s)), Q.tR (Q.getRest s) (itm (Q.getV s)), 0⟩
  else ⟨0, 0, ⟨#[]⟩, ⟨#[]⟩, 3⟩
def RdPost (x : Rd) (w : World) (e : Ending) (w' : World) : Prop := e = .returned (.tuple #[vv x.k x.n x.s, .string x.r, .int .i64 x.e]) ∧ Below w.heap.size w w'

set_option maxRecDepth 100000 in
set_option maxHeartbeats 2000000 in
theorem read_1 (s : ByteArray) (w : World) (hs : s.size ≤ 140737488355328) (h : ¬ Q.getE s = 0) :
    Calls Tryz.prog 18 #[.string s] w fun e w' => RdPost ⟨0, 0, ⟨#[]⟩, ⟨#[]⟩, Q.getE s⟩ w e w' := by
  have h0' : (Q.getE s != 0) = true := by rw [bne_iff_ne]; exact h
  clear h
  go_enter Tryz.func18, Tryz.ntmps18
  go_wp2_with fail
  refine (Q.get_any _ _ hs).mono ?_
  rintro e w2 ⟨rfl, hb2⟩
  have HZ : Hid (Three w.heap.size w2 (.int .i64 0) (.int .i64 0) (.string ⟨#[]⟩)) := ((Zero.new w).below hb2 (by simp)).three
  obtain ⟨c0, c1, c2, f0, f1, f2⟩ := (Zero.new w).below hb2 (by simp)
  have hB2 := (wv_below w).trans (hb2.mono (by simp))
  clear hb2
  go_wp2
  try simp only [Exit.inBlock, Exit.then]
  exact bodyPost_ret (results_v3 rfl _ _ w.heap.size rfl (HZ.out.set _ _ _)) rfl ⟨rfl, set3_below hB2 _ _ _⟩
set_option maxRecDepth 100000 in
set_option maxHeartbeats 2000000 in
theorem read_2 (s : ByteArray) (w : World) (hs : s.size ≤ 140737488355328) (h : Q.getE s = 0) (hk : Q.getV s < 1 ∨ 4 < Q.getV s) :
    Calls Tryz.prog 18 #[.string s] w fun e w' => RdPost ⟨0, 0, ⟨#[]⟩, ⟨#[]⟩, 8⟩ w e w' := by
  have H0 : Hid (Q.getE s = 0) := h
  have HI : Hid (itm (Q.getV s) = 0) := itm_zero hk
  clear h hk
  go_enter Tryz.func18, Tryz.ntmps18
  go_wp2_with fail
  refine (Q.get_any _ _ hs).mono ?_
  rintro e w2 ⟨rfl, hb2⟩
  have HZ : Hid (Three w.heap.size w2 (.int .i64 0) (.int .i64 0) (.string ⟨#[]⟩)) := ((Zero.new w).below hb2 (by simp)).three
  obtain ⟨c0, c1, c2, f0, f1, f2⟩ := (Zero.new w).below hb2 (by simp)
  have hB2 := (wv_below w).trans (hb2.mono (by simp))
  clear hb2
  rw [H0.out]
  go_wp2_with fail
  refine (itemOf_any _ _).mono ?_
  rintro e w3 ⟨rfl, rfl⟩
  rw [HI.out]
  go_wp2
  try simp only [Exit.inBlock, Exit.then]
  exact bodyPost_ret (results_v3 rfl _ _ w.heap.size rfl (HZ.out.set _ _ _)) rfl ⟨rfl, set3_below hB2 _ _ _⟩
set_option maxRecDepth 100000 in
set_option maxHeartbeats 2000000 in
theorem read_3 (s : ByteArray) (w : World) (hs : s.size ≤ 140737488355328) (h : Q.getE s = 0) (k1 : 1 ≤ Q.getV s) (k4 : Q.getV s ≤ 4) (ht : ¬ Q.tE (Q.getRest s) (itm (Q.getV s)) = 0) :
    Calls Tryz.prog 18 #[.string s] w fun e w' => RdPost ⟨0, 0, ⟨#[]⟩, ⟨#[]⟩, Q.tE (Q.getRest s) (itm (Q.getV s))⟩ w e w' := by
  have H0 : Hid (Q.getE s = 0) := h
  obtain ⟨i1, i4⟩ := itm_rng k1 k4
  have hr := Q.getRest_size s
  generalize hK : Q.getV s = K at *
  generalize hI : itm K = I at *
  have HK : Hid (Q.getV s = K) := hK
  have HI : Hid (itm K = I) := hI
  have h0 : (I == 0) = false := by rw [beq_eq_false_iff_ne]; omega
  have hE : (Q.tE (Q.getRest s) I != 0) = true := by rw [bne_iff_ne]; exact ht
  have HT : Hid (¬ Q.tE (Q.getRest s) I = 0) := ht
  clear h k1 k4 hK hI ht
  go_enter Tryz.func18, Tryz.ntmps18
  go_wp2_with fail
  refine (Q.get_any _ _ hs).mono ?_
  rintro e w2 ⟨rfl, hb2⟩
  have hz2 := (Zero.new w).below hb2 (by simp)
  have hlt2 : w.heap.size < w2.heap.size := by have := hb2.size; simp at this; omega
  have hB2 := (wv_below w).trans (hb2.mono (by simp))
  clear hb2
  rw [H0.out, HK.out]
  have HZ2 : Hid (Zero w.heap.size w2) := hz2
  clear hz2
  go_wp2_with fail
  refine (itemOf_any _ _).mono ?_
  rintro e w3 ⟨rfl, rfl⟩
  rw [HI.out]
  go_wp2_with fail
  refine (take_1no _ _ _ _ (by omega) i1 i4 HT.out).mono ?_
  rintro e w4 ⟨⟨a, n, c, rfl⟩, hb4⟩
  have HZ : Hid (Three w.heap.size w4 (.int .i64 0) (.int .i64 0) (.string ⟨#[]⟩)) := (HZ2.out.below hb4 hlt2).three
  obtain ⟨c0, c1, c2, f0, f1, f2⟩ := HZ2.out.below hb4 hlt2
  have hB4 := hB2.trans (hb4.mono (by omega))
  clear hb4
  go_wp2
  try simp only [Exit.inBlock, Exit.then]
  exact bodyPost_ret (results_v3 rfl _ _ w.heap.size rfl (HZ.out.set _ _ _)) rfl ⟨rfl, set3_below hB4 _ _ _⟩
end Go.Proofs.YtdendpckihckeaaGreatDoor
