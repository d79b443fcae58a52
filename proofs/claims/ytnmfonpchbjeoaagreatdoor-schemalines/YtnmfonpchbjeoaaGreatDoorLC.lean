/- caduceusref04.Show: its walk. -/
import Derived.Test.YtnmfonpchbjeoaaGreatDoorLB
namespace Go.Proofs.YtnmfonpchbjeoaaGreatDoor
open Go.RowKit

/-- The line of the first fields. -/
def jn (l : List Fd) (k : Nat) : List UInt8 := Lib.join ((l.take k).map shF) [44, 32]
theorem jn_one {l : List Fd} (h : 0 < l.length) : jn l 1 = shF l[0] := by
  match l, h with
  | x :: r, _ => simp [jn, Lib.join_one]
theorem jn_succ {l : List Fd} {k : Nat} (hk : k < l.length) (h0 : k ≠ 0) : jn l (k + 1) = jn l k ++ [44, 32] ++ shF l[k] := by
  match l, hk with
  | x :: r, hk =>
    obtain ⟨j, rfl⟩ : ∃ j, k = j + 1 := ⟨k - 1, by omega⟩
    unfold jn
    rw [List.take_succ_cons, List.take_succ_cons, List.map_cons, List.map_cons, Lib.join_cons, Lib.join_cons]
    have hj : j < r.length := by simpa using hk
    have := Lib.joinTail_take_succ [44, 32] (r.map shF) j (shF r[j]) (by simp [hj])
    rw [← List.map_take, ← List.map_take] at this
    rw [this]
    simp [List.append_assoc]
theorem jn_len {l : List Fd} (k : Nat) (hl : l.length ≤ 24) (hn : ∀ x ∈ l, x.n.size ≤ 20000) : (jn l k).length ≤ 1000000 := by
  have := joinF_len (l := l.take k) (N := 20007) fun x hx => by have := shF_len x; have := hn x (List.mem_of_mem_take hx); omega
  have h1 : (l.take k).length ≤ 24 := by rw [List.length_take]; omega
  have h2 : (l.take k).length * (20007 + 2) ≤ 24 * 20009 := Nat.mul_le_mul_right _ h1
  unfold jn
  omega
theorem stepS (p : List UInt8) (fn : ByteArray) (K : Nat) (hp : p.length ≤ 2000000) (hn : fn.size ≤ 1000000) :
    ∃ Y : ByteArray, str p ++ fn ++ (⟨#[32]⟩ : ByteArray) ++ str (wordK K) = Y ∧ Y = str (p ++ (fn.data.toList ++ [32] ++ wordK K)) ∧ ¬ 9223372036854775807 < (str p).size + fn.size ∧ ¬ 9223372036854775807 < (str p ++ fn).size + (⟨#[32]⟩ : ByteArray).size ∧
      ¬ 9223372036854775807 < (str p ++ fn ++ (⟨#[32]⟩ : ByteArray)).size + (str (wordK K)).size ∧ ¬ 9223372036854775807 < Y.size + (⟨#[33]⟩ : ByteArray).size ∧ Y ++ (⟨#[33]⟩ : ByteArray) = str (p ++ (fn.data.toList ++ [32] ++ wordK K ++ [33])) := by
  have hw := wordK_len K
  have e1 : (⟨#[32]⟩ : ByteArray) = str [32] := rfl
  have e2 : (⟨#[33]⟩ : ByteArray) = str [33] := rfl
  have z0 : (str p).size = p.length := str_size _
  have z1 : (⟨#[32]⟩ : ByteArray).size = 1 := rfl
  have z2 : (⟨#[33]⟩ : ByteArray).size = 1 := rfl
  have z3 : (str (wordK K)).size = (wordK K).length := str_size _
  have E : str p ++ fn ++ (⟨#[32]⟩ : ByteArray) ++ str (wordK K) = str (p ++ (fn.data.toList ++ [32] ++ wordK K)) := by
    rw [← List.append_assoc, ← List.append_assoc, ← str_app, ← str_app, ← str_app, str_of, e1]
  refine ⟨_, rfl, E, ?_, ?_, ?_, ?_, ?_⟩
  · omega
  · rw [ByteArray.size_append]; omega
  · rw [ByteArray.size_append, ByteArray.size_append]; omega
  · rw [ByteArray.size_append, ByteArray.size_append, ByteArray.size_append]; omega
  · rw [E, e2, str_app]; simp [List.append_assoc]
set_option maxRecDepth 100000 in
set_option maxHeartbeats 2000000 in
theorem refShow_any (v : Value) (l : List Fd) (w : World) (hr : IsRow w 3 v l.length (fCells l)) (hl : l.length ≤ 1000000) (hn : ∀ x ∈ l, x.n.size ≤ 20000) :
    Calls Tryz.prog 25 #[v] w fun e w' => e = .returned (.string (str (showL l))) ∧ Below w.heap.size w w' := by
  have HCk : Hid (Calls Tryz.prog 12 #[v] w fun e w' => e = .returned (.bool (chkF l)) ∧ Below w.heap.size w w') := refCheckF_any v l w hr hl (fun x hx => by have := hn x hx; omega)
  obtain ⟨a0, cap0, rfl⟩ := hr.form
  cases hc : chkF l with
  | false =>
    have e0 : showL l = [] := by unfold showL; rw [hc]; rfl
    rw [hc] at HCk
    rw [e0]
    go_enter Tryz.func25, Tryz.ntmps25
    go_wp2_with fail
    refine HCk.out.mono ?_
    rintro e w1 ⟨rfl, hb1⟩
    have HB : Hid (Below w.heap.size w w1) := hb1
    clear hb1
    go_wp2
    go_ret
    exact ⟨rfl, HB.out⟩
  | true =>
    rw [hc] at HCk
    by_cases h0 : l.length = 0
    · have e0 : showL l = [45] := by unfold showL; rw [if_pos hc, if_pos h0]
      have d0 : ((l.length : Int) == 0) = true := by rw [h0]; rfl
      rw [e0]
      clear h0 e0 hr hn hc
      go_enter Tryz.func25, Tryz.ntmps25
      go_wp2_with fail
      refine HCk.out.mono ?_
      rintro e w1 ⟨rfl, hb1⟩
      have HB : Hid (Below w.heap.size w w1) := hb1
      clear hb1
      go_wp2
      go_ret
      exact ⟨rfl, HB.out⟩
    have h24 := chk_len hc
    have e0 : showL l = jn l l.length := by unfold showL jn; rw [if_pos hc, if_neg h0, List.take_of_length_le (Nat.le_refl _)]
    have d0 : ((l.length : Int) == 0) = false := by rw [beq_eq_false_iff_ne]; omega
    have HL : Hid (∀ k, (jn l k).length ≤ 1000000) := fun k => jn_len k h24 hn
    have HN : Hid (∀ x ∈ l, x.n.size ≤ 1000000) := fun x hx => by have := hn x hx; omega
    have HR : Hid (IsRow w 3 (.slice a0 l.length cap0) l.length (fCells l)) := hr
    rw [e0]
    clear hr hn e0 hc hl h0
    go_enter Tryz.func25, Tryz.ntmps25
    go_wp2_with fail
    refine HCk.out.mono ?_
    rintro e w0 ⟨rfl, hb0⟩
    clear HCk
    go_wp2_with fail
    go_loopw [3, 4] (fun o i wr => ∃ k : Nat, k ≤ l.length ∧ i = .int .i64 (k : Int) ∧ o = .string (str (jn l k)) ∧ Below w.heap.size w wr) (fun _ i _ => l.length - (intOf i).toNat)
    case atStart => exact ⟨0, Nat.zero_le _, rfl, rfl, hb0⟩
    case round =>
      obtain ⟨k, hkl, rfl, rfl, hB⟩ := hrel
      by_cases hlk : k < l.length
      · have dk : decide ((k : Int) < l.length) = true := by simp; omega
        obtain ⟨b, off, rfl, hlt, hcap, hc⟩ := f_at (HR.out.below hB) (by omega)
        obtain ⟨ck0, ck1, ck2⟩ := hc k hlk
        have hfn := HN.out _ (List.getElem_mem hlk)
        have HBw : Hid (Below w.heap.size w wr) := hB
        have q1 : (0 : Int) ≤ (k : Int) := by omega
        have q2 : (k : Int) < (l.length : Int) := by omega
        have q3 : ¬ (k : Int) < 0 := by omega
        by_cases hk0 : k = 0
        · have HJ : Hid (jn l (k + 1) = [] ++ shF l[k]) := by subst hk0; exact jn_one hlk
          have HP : Hid (jn l k = []) := by subst hk0; rfl
          have d1 : ¬ 0 < k := by omega
          clear hk0 hc hB HN HL
          generalize l[k]'hlk = x at *
          obtain ⟨fn, fk, fm⟩ := x
          obtain ⟨Y, y1, y2, y3, y4, y5, y6, y7⟩ := stepS [] fn fk.toNat (by simp) hfn
          have HY1 : Hid (str [] ++ fn ++ (⟨#[32]⟩ : ByteArray) ++ str (wordK fk.toNat) = Y) := y1
          have HY2 : Hid (Y = str ([] ++ (fn.data.toList ++ [32] ++ wordK fk.toNat))) := y2
          have HY7 : Hid (Y ++ (⟨#[33]⟩ : ByteArray) = str ([] ++ (fn.data.toList ++ [32] ++ wordK fk.toNat ++ [33]))) := y7
          have HWd : Hid (∀ w, Calls Tryz.prog 45 #[.int .i64 fk] w fun e w' => e = .returned (.string (str (wordK fk.toNat))) ∧ w' = w) := fun w => refWord_any fk w
          rw [HP.out]
          clear y1 y2 y7 HP
          obtain ⟨P, hP⟩ : ∃ P, P = str [] := ⟨_, rfl⟩
          generalize str (wordK fk.toNat) = W at *
          rw [← hP] at HY1 y3 y4 y5 ⊢
          clear hP
          cases fm with
          | true =>
            go_wp2_with fail
            go_quiet ((go_at_call 45; exact Calls.quiet_of_same (HWd.out _)))
            rw [HY1.out]
            go_wp2
            go_roundw
            case rel => exact ⟨k + 1, by omega, by simp, by rw [HY7.out, HJ.out]; rfl, drewN_bE HBw.out _⟩
            case measure => simp [intOf]; omega
          | false =>
            go_wp2_with fail
            go_quiet ((go_at_call 45; exact Calls.quiet_of_same (HWd.out _)))
            rw [HY1.out]
            go_wp2
            go_roundw
            case rel => exact ⟨k + 1, by omega, by simp, by rw [HY2.out, HJ.out]; simp [shF], drewN_bE HBw.out _⟩
            case measure => simp [intOf]; omega
        · have HJ : Hid (jn l (k + 1) = (jn l k ++ [44, 32]) ++ shF l[k]) := jn_succ hlk hk0
          have hjl := HL.out k
          have d1 : 0 < k := by omega
          clear hk0 hc hB HN HL
          generalize l[k]'hlk = x at *
          obtain ⟨fn, fk, fm⟩ := x
          obtain ⟨Y, y1, y2, y3, y4, y5, y6, y7⟩ := stepS (jn l k ++ [44, 32]) fn fk.toNat (by rw [List.length_append]; show (jn l k).length + 2 ≤ _; omega) hfn
          have HY1 : Hid (str (jn l k ++ [44, 32]) ++ fn ++ (⟨#[32]⟩ : ByteArray) ++ str (wordK fk.toNat) = Y) := y1
          have HY2 : Hid (Y = str ((jn l k ++ [44, 32]) ++ (fn.data.toList ++ [32] ++ wordK fk.toNat))) := y2
          have HY7 : Hid (Y ++ (⟨#[33]⟩ : ByteArray) = str ((jn l k ++ [44, 32]) ++ (fn.data.toList ++ [32] ++ wordK fk.toNat ++ [33]))) := y7
          have HWd : Hid (∀ w, Calls Tryz.prog 45 #[.int .i64 fk] w fun e w' => e = .returned (.string (str (wordK fk.toNat))) ∧ w' = w) := fun w => refWord_any fk w
          have HQ : Hid (str (jn l k) ++ (⟨#[44, 32]⟩ : ByteArray) = str (jn l k ++ [44, 32])) := str_app (jn l k) [44, 32]
          have z0 : ¬ 9223372036854775807 < (str (jn l k)).size + (⟨#[44, 32]⟩ : ByteArray).size := by rw [str_size]; show ¬ 9223372036854775807 < (jn l k).length + 2; omega
          clear y1 y2 y7 hjl
          generalize str (jn l k) = A at *
          obtain ⟨P, hP⟩ : ∃ P, P = str (jn l k ++ [44, 32]) := ⟨_, rfl⟩
          generalize str (wordK fk.toNat) = W at *
          rw [← hP] at HY1 y3 y4 y5 HQ
          clear hP
          cases fm with
          | true =>
            go_wp2_with fail
            rw [HQ.out]
            go_quiet ((go_at_call 45; exact Calls.quiet_of_same (HWd.out _)))
            rw [HY1.out]
            go_wp2
            go_roundw
            case rel => exact ⟨k + 1, by omega, by simp, by rw [HY7.out, HJ.out]; rfl, drewN_bE HBw.out _⟩
            case measure => simp [intOf]; omega
          | false =>
            go_wp2_with fail
            rw [HQ.out]
            go_quiet ((go_at_call 45; exact Calls.quiet_of_same (HWd.out _)))
            rw [HY1.out]
            go_wp2
            go_roundw
            case rel => exact ⟨k + 1, by omega, by simp, by rw [HY2.out, HJ.out]; simp [shF], drewN_bE HBw.out _⟩
            case measure => simp [intOf]; omega
      · have hk' : k = l.length := by omega
        subst hk'
        have dk : decide ((l.length : Int) < l.length) = false := by simp
        have HBw : Hid (Below w.heap.size w wr) := hB
        clear hB
        go_wp2
        go_ret
        exact ⟨rfl, HBw.out⟩
end Go.Proofs.YtnmfonpchbjeoaaGreatDoor
