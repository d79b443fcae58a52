/- schema.Show: its walk. -/
import Derived.Test.YtfbhalkiilbcoaaGreatDoorLA
import Derived.Test.YtfbhalkiilbcoaaGreatDoorLJ
import Derived.Test.YtfbhalkiilbcoaaGreatDoorEL
namespace Go.Proofs.YtfbhalkiilbcoaaGreatDoor
open Go.RowKit

/-- The line of a schema; none, if it is none. -/
def showL (l : List Fd) : List UInt8 := if chkF l = true then (if l.length = 0 then [45] else Lib.join (l.map shF) [44, 32]) else []
theorem chk_len {l : List Fd} (h : chkF l = true) : l.length ≤ 24 := by
  unfold chkF at h
  rw [Bool.and_eq_true] at h
  exact of_decide_eq_true h.1
theorem chk_ok {l : List Fd} (h : chkF l = true) : ∀ (k : Nat) (h : k < l.length), okF l k h := by
  unfold chkF at h
  rw [Bool.and_eq_true] at h
  exact of_decide_eq_true h.2
theorem may_k {x : Fd} (h : mayF x = true) : 1 ≤ x.k ∧ x.k < 5 ∧ oneP x.n = true := by
  unfold mayF at h
  rw [Bool.and_eq_true, Bool.and_eq_true, decide_eq_true_eq, decide_eq_true_eq] at h
  exact h
theorem lens_map_le {l : List Fd} {N : Nat} (h : ∀ x ∈ l, (shF x).length ≤ N) : Lib.lens (l.map shF) ≤ l.length * N := by
  induction l with
  | nil => simp [Lib.lens]
  | cons x r ih =>
    have h1 := h x (by simp)
    have h2 := ih fun y hy => h y (by simp [hy])
    unfold Lib.lens at h2 ⊢
    rw [List.map_cons, List.map_cons, List.sum_cons, List.length_cons, Nat.succ_mul]
    omega
theorem joinF_len {l : List Fd} {N : Nat} (h : ∀ x ∈ l, (shF x).length ≤ N) : (Lib.join (l.map shF) [44, 32]).length ≤ l.length * (N + 2) := by
  match l, h with
  | [], _ => simp [Lib.join_nil]
  | x :: r, h =>
    have h2 := lens_map_le h
    rw [List.map_cons, join_len, ← List.map_cons]
    rw [List.length_cons] at h2 ⊢
    rw [Nat.mul_add]
    simp only [List.length_map]
    omega
theorem sf_take (l : List Fd) (k : Nat) (hk : k < l.length) : sCells ((l.take (k + 1)).map shF) = sCells ((l.take k).map shF) ++ [.string (str (shF l[k]))] := by
  unfold sCells
  rw [List.take_succ_eq_append_getElem hk, List.map_append, List.map_append]
  rfl
set_option maxRecDepth 100000 in
set_option maxHeartbeats 2000000 in
theorem showS_any (v : Value) (l : List Fd) (w : World) (hr : IsRow w 3 v l.length (fCells l)) (hl : l.length ≤ 1000000) (hn : ∀ x ∈ l, x.n.size ≤ 20000) (h : W4 w) :
    Calls Tryz.prog 10 #[v] w fun e w' => e = .returned (.string (str (showL l))) ∧ Below w.heap.size w w' := by
  have HCk : Hid (Calls Tryz.prog 8 #[v] w fun e w' => e = .returned (.bool (chkF l)) ∧ Below w.heap.size w w') := checkF_any v l w hr hl (fun x hx => by have := hn x hx; omega) h.t h.m
  obtain ⟨a0, cap0, rfl⟩ := hr.form
  cases hc : chkF l with
  | false =>
    have e0 : showL l = [] := by unfold showL; rw [hc]; rfl
    rw [hc] at HCk
    rw [e0]
    go_enter Tryz.func10, Tryz.ntmps10
    go_wp2_with fail
    refine HCk.out.mono ?_
    rintro e w1 ⟨rfl, hb1⟩
    have HB : Hid (Below w.heap.size w w1) := hb1
    clear hb1
    go_wp2
    go_ret
    exact ⟨rfl, HB.out⟩
  | true =>
    rw [hc] at HCk
    by_cases h0 : l.length = 0
    · have e0 : showL l = [45] := by unfold showL; rw [if_pos hc, if_pos h0]
      have d0 : ((l.length : Int) == 0) = true := by rw [h0]; rfl
      rw [e0]
      clear h0 e0 hr hn h hc
      go_enter Tryz.func10, Tryz.ntmps10
      go_wp2_with fail
      refine HCk.out.mono ?_
      rintro e w1 ⟨rfl, hb1⟩
      have HB : Hid (Below w.heap.size w w1) := hb1
      clear hb1
      go_wp2
      go_ret
      exact ⟨rfl, HB.out⟩
    have e0 : showL l = Lib.join (l.map shF) [44, 32] := by unfold showL; rw [if_pos hc, if_neg h0]
    have d0 : ((l.length : Int) == 0) = false := by rw [beq_eq_false_iff_ne]; omega
    have h24 := chk_len hc
    have hp : 0 < l.length := by omega
    have HK : Hid (∀ (k : Nat) (hk : k < l.length) (w' : World), WT w' → Calls Tryz.prog 28 #[fV l[k]] w' fun e w'' => e = .returned (.string (str (shF l[k]))) ∧ Below w'.heap.size w' w'') := fun k hk w' hw => by
      obtain ⟨q1, q2, -⟩ := may_k (chk_ok hc k hk).1
      exact showField_any l[k] w' (by have := hn _ (List.getElem_mem hk); omega) q1 q2 hw
    have HJ : Hid ((Lib.join (l.map shF) [44, 32]).length ≤ 1000000) := by
      have := joinF_len (l := l) (N := 20007) fun x hx => by have := shF_len x; have := hn x hx; omega
      have h2 : l.length * (20007 + 2) ≤ 24 * 20009 := Nat.mul_le_mul_right _ h24
      show _ ≤ _
      omega
    have HR : Hid (IsRow w 3 (.slice a0 l.length cap0) l.length (fCells l)) := hr
    have HW : Hid (WT w) := h.k
    rw [e0]
    clear hr hn e0 hc h hl h0
    obtain ⟨i0, hi0, hz0, hz1, hz2⟩ := info_parts info_str
    have hb2 : i0.bytes * l.length ≤ 281474976710656 := by rw [hz2]; omega
    have hb3 : l.length ≤ maxLen := by unfold maxLen; omega
    go_enter Tryz.func10, Tryz.ntmps10
    go_wp2_with fail
    refine HCk.out.mono ?_
    rintro e w0 ⟨rfl, hb0⟩
    have hs0 := hb0.size
    clear HCk
    go_wp2_with (at_make; go_loud (refine wpList_make_own _ rfl (.const (.int .i64 0)) (.tmp 13) 56 rfl w.heap.size 9 i0 _ 1 Tryz.underlying56 hi0 hz0 hz1 .i64 .i64 _ l.length rfl rfl rfl hb2 hb3 (by omega) ?_; intro w1 hown1 hg1))
    have hB1 : Below w.heap.size w w1 := hb0.trans ((Below.refl _ _).grown hg1 hs0 (fun k hk => by cases hk))
    clear hg1 hb0 hs0
    go_wp2_with fail
    go_loopw [3, 17] (fun o i wr => ∃ k : Nat, k ≤ l.length ∧ i = .int .i64 (k : Int) ∧ wr.ownsRow w.heap.size 9 1 o k (sCells ((l.take k).map shF)) ∧ Below w.heap.size w wr) (fun _ i _ => l.length - (intOf i).toNat)
    case atStart => exact ⟨0, Nat.zero_le _, rfl, hown1, hB1⟩
    case round =>
      obtain ⟨k, hkl, rfl, hown, hB⟩ := hrel
      have hsz := hB.size
      by_cases hlk : k < l.length
      · have dk : decide ((k : Int) < l.length) = true := by simp; omega
        obtain ⟨b, off, rfl, hlt, hcap, hc⟩ := f_at (HR.out.below hB) (by omega)
        obtain ⟨ck0, ck1, ck2⟩ := hc k hlk
        have HSh : Hid (∀ w', WT w' → Calls Tryz.prog 28 #[fV l[k]] w' fun e w'' => e = .returned (.string (str (shF l[k]))) ∧ Below w'.heap.size w' w'') := fun w' hw => HK.out k hlk w' hw
        have HT : Hid (sCells ((l.take (k + 1)).map shF) = sCells ((l.take k).map shF) ++ [.string (str (shF l[k]))]) := sf_take l k hlk
        have hVr : WT wr := WT_below HW.out hB
        generalize str (shF (l[k]'hlk)) = z at *
        generalize l[k]'hlk = x at *
        obtain ⟨fn, fk, fm⟩ := x
        have HO : Hid (wr.ownsRow w.heap.size 9 1 u3 k (sCells ((l.take k).map shF))) := hown
        clear hown hc HK
        have hA := al_b wr (.cells #[.string fn, .int .i64 fk, .bool fm] 45)
        go_wp2_with fail
        refine (HSh.out _ (WT_below hVr hA)).mono ?_
        rintro e w3 ⟨rfl, hb3⟩
        have hB3 : Below wr.heap.size wr w3 := hA.trans (hb3.mono (by simp))
        have hs3 := hB3.size
        have HO3 : Hid (w3.ownsRow w.heap.size 9 1 u3 k (sCells ((l.take k).map shF))) := own_belowE HO.out hB3
        have HW3 : Hid (Below w.heap.size w w3) := hB.trans (hB3.mono hsz)
        clear HSh HO hB hA hb3 hB3 ck0 ck1 ck2 hVr
        go_wp2_with (at_builtin; go_loud (refine wpl_app w3 rfl (.tmp 21) (.tmp 24) 56 9 rfl i0 _ 16 Tryz.underlying56 hi0 hz0 hz1 hz2 rfl w.heap.size u3 k _ rfl HO3.out (.string z) rfl rfl (by omega) (by unfold maxLen; omega) (by omega) ?_; intro v4 w4 hown4 hb4 hne4))
        have HO4 : Hid (w4.ownsRow w.heap.size 9 1 v4 (k + 1) (sCells ((l.take (k + 1)).map shF))) := by show World.ownsRow _ _ _ _ _ _ _; rw [HT.out]; exact hown4
        have HB4 : Hid (Below w.heap.size w w4) := HW3.out.trans hb4
        clear hown4 hb4 HT HO3 HW3
        go_wp2
        go_roundw
        case rel => exact ⟨k + 1, by omega, by simp, HO4.out, HB4.out⟩
        case measure => simp [intOf]; omega
      · have hk' : k = l.length := by omega
        subst hk'
        have dk : decide ((l.length : Int) < l.length) = false := by simp
        rw [List.take_of_length_le (Nat.le_refl _)] at hown
        have HJn : Hid (∀ v w, IsRow w 1 v (l.map shF).length (sCells (l.map shF)) → Calls Tryz.prog 29 #[v, .string ⟨#[44, 32]⟩] w fun e w' => e = .returned (.string (str (Lib.join (l.map shF) [44, 32]))) ∧ Below w.heap.size w w') := fun v w h => join_any v (l.map shF) w h (by rw [List.length_map]; omega) HJ.out
        have HO : Hid (wr.ownsRow w.heap.size 9 1 u3 l.length (sCells (l.map shF))) := hown
        clear hown
        go_wp2_with fail
        refine (HJn.out u3 wr (by rw [List.length_map]; exact IsRow.own HO.out)).mono ?_
        rintro e w2 ⟨rfl, hb2⟩
        have HB : Hid (Below w.heap.size w w2) := hB.trans (hb2.mono hsz)
        clear hb2 hB
        go_wp2
        go_ret
        exact ⟨rfl, HB.out⟩
end Go.Proofs.YtfbhalkiilbcoaaGreatDoor
