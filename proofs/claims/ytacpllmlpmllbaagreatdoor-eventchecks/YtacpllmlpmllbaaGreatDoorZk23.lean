/- The reference's Hex, Digits, escape: walks. -/
import Derived.Test.YtacpllmlpmllbaaGreatDoorZk21
import Derived.Test.YtacpllmlpmllbaaGreatDoorZk9
import Derived.Lib.ItoaNum
import Derived.Test.YtacpllmlpmllbaaGreatDoorZk1
import Derived.Lib.RuneCountTail
import Derived.Deep.RegionHeld3
namespace Go.Proofs.YtacpllmlpmllbaaGreatDoor.V
open Go.RowKit

set_option maxRecDepth 100000 in
set_option maxHeartbeats 2000000 in
theorem refHex_any (n : Nat) (w : World) (h : n < 16) :
    Calls Tryz.prog 100 #[.int .i64 (n : Int)] w fun e w' => e = .returned (.string (str [dg n])) ∧ Below w.heap.size w w' := by
  obtain rfl | rfl | rfl | rfl | rfl | rfl | rfl | rfl | rfl | rfl | rfl | rfl | rfl | rfl | rfl | rfl : n = 0 ∨ n = 1 ∨ n = 2 ∨ n = 3 ∨ n = 4 ∨ n = 5 ∨ n = 6 ∨ n = 7 ∨ n = 8 ∨ n = 9 ∨ n = 10 ∨ n = 11 ∨ n = 12 ∨ n = 13 ∨ n = 14 ∨ n = 15 := by omega
  all_goals
    go_enter Tryz.func100, Tryz.ntmps100
    go_wp2
    rw [cvb1]
    go_wp2
    go_ret
    exact ⟨rfl, (Below.refl _ _).alloc (Nat.le_refl _) _⟩

theorem dec_one {n : Nat} (h : n < 10) : strOfNums [48 + (n : Int)] = str (Lib.decDigits n) := by
  rw [Lib.decDigits, dif_pos h]
  exact str_nums [48 + n] _ (by simp)
theorem dec_more {n : Nat} (h : ¬ n < 10) : str (Lib.decDigits (n / 10)) ++ strOfNums [48 + ((n % 10 : Nat) : Int)] = str (Lib.decDigits n) := by
  conv => rhs; rw [Lib.decDigits, dif_neg h]
  refine ba_eq ?_
  rw [ba_append, str_data, str_data, str_nums [48 + n % 10] _ (by simp), str_data]
  rfl
theorem dec_len : ∀ (k n : Nat), n < 10 ^ k → 0 < k → (Lib.decDigits n).length ≤ k
  | 0, _, _, h => absurd h (by decide)
  | k + 1, n, h, _ => by
    rw [Lib.decDigits]
    by_cases hn : n < 10
    · rw [dif_pos hn]
      show 1 ≤ k + 1
      omega
    · rw [dif_neg hn, List.length_append]
      have hp : 10 ^ (k + 1) = 10 ^ k * 10 := Nat.pow_succ 10 k
      have h1 : n / 10 < 10 ^ k := by omega
      have hk : 0 < k := by
        cases k with
        | zero => simp at h; omega
        | succ k => omega
      have := dec_len k (n / 10) h1 hk
      show _ + 1 ≤ _
      omega
theorem dec_size {n : Nat} (h : n ≤ 9007199254740991) : (str (Lib.decDigits n)).size ≤ 16 := by
  rw [str_size]
  exact dec_len 16 n (by omega) (by decide)
set_option maxRecDepth 100000 in
set_option maxHeartbeats 2000000 in
theorem refDigits_any : ∀ (n : Nat) (w : World) (_ : n ≤ 9007199254740991),
    Calls Tryz.prog 61 #[.int .i64 (n : Int)] w fun e w' => e = .returned (.string (str (Lib.decDigits n))) ∧ Below w.heap.size w w' := by
  intro n
  induction n using Nat.strongRecOn with
  | ind n ih =>
    intro w hn
    by_cases h : n < 10
    · have hd : decide ((n : Int) < 10) = true := by simp; omega
      have hm : (n : Int) % 10 = n := by omega
      have HE := dec_one h
      generalize str (Lib.decDigits n) = X at *
      subst HE
      go_enter Tryz.func61, Tryz.ntmps61
      go_wp2
      rw [cvb1]
      go_wp2
      go_ret
      exact ⟨rfl, (Below.refl _ _).alloc (Nat.le_refl _) _⟩
    · have hd : decide ((n : Int) < 10) = false := by simp; omega
      have hq : (n : Int) / 10 = ((n / 10 : Nat) : Int) := by omega
      have HI : Hid (∀ w : World, Calls Tryz.prog 61 #[.int .i64 ((n : Int) / 10)] w fun e w' => e = .returned (.string (str (Lib.decDigits (n / 10)))) ∧ Below w.heap.size w w') := fun w => by
        rw [hq]
        exact ih (n / 10) (by omega) w (by omega)
      have hsz : (str (Lib.decDigits (n / 10))).size ≤ 16 := dec_size (by omega)
      have HE : Hid (str (Lib.decDigits (n / 10)) ++ strOfNums [48 + (n : Int) % 10] = str (Lib.decDigits n)) := by
        have := dec_more h
        rw [show ((n % 10 : Nat) : Int) = (n : Int) % 10 by omega] at this
        exact this
      generalize str (Lib.decDigits (n / 10)) = X at *
      have hY : (strOfNums [48 + (n : Int) % 10]).size = 1 := rfl
      obtain ⟨Y, HY⟩ : ∃ Y, Hid (strOfNums [48 + (n : Int) % 10] = Y) := ⟨_, rfl⟩
      rw [← HE.out, HY.out]
      rw [HY.out] at hY
      clear ih HE hq
      go_enter Tryz.func61, Tryz.ntmps61
      go_wp2
      rw [cvb1, HY.out]
      go_wp2_with fail
      refine (HI.out _).mono ?_
      rintro e w1 ⟨rfl, hb1⟩
      have hB : Below w.heap.size w w1 := ((Below.refl _ _).alloc (Nat.le_refl _) _).trans (hb1.mono (by simp))
      clear hb1
      go_wp2
      go_ret
      exact ⟨rfl, hB⟩

set_option maxRecDepth 100000 in
set_option maxHeartbeats 2000000 in
theorem escape_any (c : Nat) (w : World) (hs : scal c) :
    Calls Tryz.prog 101 #[.int .i64 (c : Int)] w fun e w' => e = .returned (.string (str (shR c))) ∧ Below w.heap.size w w' := by
  have hc : c ≤ 1114111 := by unfold scal at hs; omega
  by_cases h1 : c = 34
  · subst h1
    go_enter Tryz.func101, Tryz.ntmps101
    go_wp2
    go_ret
    exact ⟨rfl, Below.refl _ _⟩
  by_cases h2 : c = 92
  · subst h2
    go_enter Tryz.func101, Tryz.ntmps101
    go_wp2
    go_ret
    exact ⟨rfl, Below.refl _ _⟩
  by_cases h3 : c = 10
  · subst h3
    go_enter Tryz.func101, Tryz.ntmps101
    go_wp2
    go_ret
    exact ⟨rfl, Below.refl _ _⟩
  by_cases h4 : c = 9
  · subst h4
    go_enter Tryz.func101, Tryz.ntmps101
    go_wp2
    go_ret
    exact ⟨rfl, Below.refl _ _⟩
  by_cases h5 : c = 13
  · subst h5
    go_enter Tryz.func101, Tryz.ntmps101
    go_wp2
    go_ret
    exact ⟨rfl, Below.refl _ _⟩
  have k1 : ((c : Int) == 34) = false := by rw [beq_eq_false_iff_ne]; omega
  have k2 : ((c : Int) == 92) = false := by rw [beq_eq_false_iff_ne]; omega
  have k3 : ((c : Int) == 10) = false := by rw [beq_eq_false_iff_ne]; omega
  have k4 : ((c : Int) == 9) = false := by rw [beq_eq_false_iff_ne]; omega
  have k5 : ((c : Int) == 13) = false := by rw [beq_eq_false_iff_ne]; omega
  have k0 : decide ((0 : Int) ≤ c) = true := by simp
  by_cases h6 : c < 16
  · have e : shR c = [92, 117, 123, dg c, 125] := by unfold shR; rw [if_neg h1, if_neg h2, if_neg h3, if_neg h4, if_neg h5, if_pos h6]
    have k6 : decide ((c : Int) < 16) = true := by simp; omega
    rw [e, ← brace]
    clear e h1 h2 h3 h4 h5
    have HX : Hid (∀ w : World, Calls Tryz.prog 100 #[.int .i64 (c : Int)] w fun e w' => e = .returned (.string (str [dg c])) ∧ Below w.heap.size w w') := fun w => refHex_any c w h6
    have hz : (str [dg c]).size = 1 := rfl
    generalize str [dg c] = X at *
    go_enter Tryz.func101, Tryz.ntmps101
    go_wp2_with fail
    refine (HX.out _).mono ?_
    rintro e w1 ⟨rfl, hb1⟩
    go_wp2
    go_ret
    exact ⟨rfl, hb1⟩
  have k6 : decide ((c : Int) < 16) = false := by simp; omega
  have k6' : decide ((16 : Int) ≤ c) = true := by simp; omega
  by_cases h7 : c < 32 ∨ c = 127
  · have e : shR c = [92, 117, 123, dg (c / 16), dg (c % 16), 125] := by unfold shR; rw [if_neg h1, if_neg h2, if_neg h3, if_neg h4, if_neg h5, if_neg h6, if_pos h7]
    have HB : Hid ((((⟨#[92, 117, 123]⟩ : ByteArray) ++ str [dg (c / 16)]) ++ str [dg (c % 16)]) ++ (⟨#[125]⟩ : ByteArray) = str [92, 117, 123, dg (c / 16), dg (c % 16), 125]) := ba_eq (by
      rw [ba_append, ba_append, ba_append, str_data, str_data, str_data]
      rfl)
    rw [e, ← HB.out]
    have HX : Hid (∀ w : World, Calls Tryz.prog 100 #[.int .i64 ((c : Int) / 16)] w fun e w' => e = .returned (.string (str [dg (c / 16)])) ∧ Below w.heap.size w w') := fun w => by
      rw [show (c : Int) / 16 = ((c / 16 : Nat) : Int) by omega]
      exact refHex_any (c / 16) w (by omega)
    have HY : Hid (∀ w : World, Calls Tryz.prog 100 #[.int .i64 ((c : Int) % 16)] w fun e w' => e = .returned (.string (str [dg (c % 16)])) ∧ Below w.heap.size w w') := fun w => by
      rw [show (c : Int) % 16 = ((c % 16 : Nat) : Int) by omega]
      exact refHex_any (c % 16) w (by omega)
    have hz : (str [dg (c / 16)]).size = 1 := rfl
    have hz' : (str [dg (c % 16)]).size = 1 := rfl
    have k7 : decide ((c : Int) < 32) = true ∨ (decide ((c : Int) < 32) = false ∧ ((c : Int) == 127) = true) := by
      by_cases hh : c < 32
      · exact .inl (by simp; omega)
      · exact .inr ⟨by simp; omega, by simp; omega⟩
    generalize str [dg (c / 16)] = X at *
    generalize str [dg (c % 16)] = Y at *
    clear e HB h1 h2 h3 h4 h5 h6 h7
    rcases k7 with k7 | ⟨k7, k8⟩
    all_goals
      go_enter Tryz.func101, Tryz.ntmps101
      go_wp2_with fail
      refine (HX.out _).mono ?_
      rintro e w1 ⟨rfl, hb1⟩
      go_wp2_with fail
      refine (HY.out _).mono ?_
      rintro e w2 ⟨rfl, hb2⟩
      have hB := hb1.trans (hb2.mono hb1.size)
      clear hb1 hb2
      go_wp2
      go_ret
      exact ⟨rfl, hB⟩
  · have e : shR c = enc c := by unfold shR; rw [if_neg h1, if_neg h2, if_neg h3, if_neg h4, if_neg h5, if_neg h6, if_neg h7]
    have k7 : decide ((c : Int) < 32) = false := by simp; omega
    have k8 : ((c : Int) == 127) = false := by rw [beq_eq_false_iff_ne]; omega
    rw [e]
    clear e h1 h2 h3 h4 h5 h6 h7
    go_enter Tryz.func101, Tryz.ntmps101
    go_wp2_with fail
    refine (refBytes_any c _ hs).mono ?_
    rintro e w1 ⟨rfl, hb1⟩
    go_wp2
    go_ret
    exact ⟨rfl, hb1⟩
end Go.Proofs.YtacpllmlpmllbaaGreatDoor.V
/- The reference's Runes: its walk (as with names). -/
namespace Go.Proofs.YtacpllmlpmllbaaGreatDoor.V
open Go.RowKit Go.Lib

theorem wpl_apps {P : Program} (wr : World) {ops : Array Oper} {rest : List Oper} {o : Oper} {a : Act} {Q : Exit → Act → World → Prop} (hgd : o.guard = none) (s x : Operand) (t e : TypeId)
    (ho : o.op = .call { callee := .builtin .append, args := #[s, x], argTypes := #[t, t] })
    (i : TypeInfo) (z : Value) (bytes : Nat) (ht : P.underlying t = some (.slice e)) (hi : P.info? e = some i) (hz : i.zero = some z)
    (hsize : i.size = 1) (hby : i.bytes = bytes) (hzs : z.cells.size = 1)
    (base : Nat) (v : Value) (n : Nat) (xs : List Value) (hs : a.eval s = v) (hown : wr.ownsRow base e 1 v n xs)
    (el : Value) (N : Nat) (hN : N = wr.heap.size) (hx : a.eval x = .slice (some ⟨N, 0, none⟩) 1 1) (h1 : el.oneCell' = true)
    (hbytes : (n + 1) * bytes ≤ 140737488355328) (h63 : n + 1 ≤ maxLen) (hbase : base ≤ wr.heap.size)
    (h : ∀ v' w', w'.ownsRow base e 1 v' (n + 1) (xs ++ [el]) → Below base wr w' → (∀ b, b < wr.heap.size → v.ownBlock ≠ some b → w'.heap[b]? = wr.heap[b]?) → wpList P ops Q rest (a.put o.dst v') w') :
    wpList P ops Q (o :: rest) a (wr.alloc (.cells #[el] e)) := by
  subst hN
  refine wpList_append_own _ hgd s x t ho base e i z 1 bytes ht hi hz hsize hby hzs (by omega) v n xs hs (hown.alloc _) ⟨wr.heap.size, 0, none⟩ 1 1 [el] hx rfl ?_ ?_ h63 hbytes ?_ ?_
  · intro j u hj
    match j, hj with
    | 0, hj => simp at hj; subst hj; simp [Addr.add]
  · intro u hu; simp at hu; subst hu; exact h1
  · simp; omega
  · intro v' w' h2 h3 h4
    refine h v' w' h2 ?_ ?_
    · exact ((Below.refl _ _).alloc hbase _).grown h3 (by simp; omega) (fun k hk => (hown.lt k hk).1)
    · intro b hb hne
      rw [h3.block b (by simp; omega) (fun e => hne e.symm)]
      exact Below.heap_alloc _ _ _ hb

theorem owns_below' {w w1 : World} {base : Nat} {e : TypeId} {sz : Nat} {v : Value} {n : Nat} {xs : List Value} (h : w.ownsRow base e sz v n xs) (hb : Below w.heap.size w w1) : w1.ownsRow base e sz v n xs :=
  h.kept (row := none) ⟨hb.os, hb.tape, hb.output, hb.size, fun k hk _ => hb.block k hk⟩ (by cases hv : v.ownBlock <;> simp)
def icells (l : List Nat) : List Value := l.map fun (c : Nat) => Value.int .i64 (c : Int)
theorem info_int : (Tryz.prog.info? 3).map (fun i => (i.zero, i.size, i.bytes)) = some (some (.int .i64 0), 1, 8) := by kernel_rfl
/-- What Runes leaves. -/
def RnPost (l : List Nat) (w : World) (e : Ending) (w' : World) : Prop :=
  ∃ v, e = .returned v ∧ IsRow w' 1 v l.length (icells l) ∧ Below w.heap.size w w'
def RnRel (s : ByteArray) (w : World) (t i : Value) (wr : World) : Prop :=
  ∃ (pos : Nat) (acc : List Nat), pos ≤ s.size ∧ i = .int .i64 pos ∧ wr.ownsRow w.heap.size 3 1 t acc.length (icells acc) ∧ Below w.heap.size w wr ∧ acc ++ rns (s.data.toList.drop pos) = rns s.data.toList ∧ validD (s.data.toList.drop pos) = true ∧ acc.length ≤ pos

set_option maxRecDepth 100000 in
set_option maxHeartbeats 2000000 in
theorem refRunes_any (s : ByteArray) (w : World) (hs : s.size ≤ 1000000) (hvs : validD s.data.toList = true) :
    Calls Tryz.prog 91 #[.string s] w fun e w' => RnPost (rns s.data.toList) w e w' := by
  obtain ⟨i0, hi0, hz0, hz1, hz2⟩ := info_parts info_int
  go_enter Tryz.func91, Tryz.ntmps91
  go_wp2
  go_loopw [3, 4] (fun t i wr => RnRel s w t i wr) (fun _ i _ => s.size - (RowKit.intOf i).toNat)
  case atStart => exact ⟨0, [], Nat.zero_le _, rfl, World.ownsRow_nil _ _ _ _, Below.refl _ _, rfl, hvs, Nat.le_refl _⟩
  case round =>
    obtain ⟨pos, acc, hp, rfl, hown, hb, hck, hv, hal⟩ := hrel
    have HC : Hid (acc ++ rns (s.data.toList.drop pos) = rns s.data.toList) := hck
    have HV : Hid (validD (s.data.toList.drop pos) = true) := hv
    clear hck hv
    by_cases hlt : pos < s.size
    · have hi : (pos : Int) < s.size := by omega
      have hsl := slice_ok s pos
      have hwl := width_le s pos hlt
      have hw1 := Lib.decode_width_pos s pos hlt
      have hfa := fst_at s pos hlt
      have hbs := hb.size
      have hbad : ¬ ((Utf8.decode s pos).1 = 65533 ∧ (Utf8.decode s pos).2 = 1) := by
        intro h
        have := HV.out
        rw [valid_at s pos hlt, if_pos h] at this
        cases this
      have HV2 : Hid (validD (s.data.toList.drop (pos + (Utf8.decode s pos).2)) = true) := by
        have := HV.out
        rw [valid_at s pos hlt, if_neg hbad] at this
        exact this
      have HC2 : Hid ((acc ++ [(Utf8.decode s pos).1]) ++ rns (s.data.toList.drop (pos + (Utf8.decode s pos).2)) = rns s.data.toList) := by
        show _ = _
        rw [← HC.out, rns_at s pos hlt]
        simp
      rw [if_neg hbad] at hfa
      clear hbad HC HV
      generalize (Utf8.decode s pos) = dc at *
      obtain ⟨c, d⟩ := dc
      simp only at hwl hw1 HC2 HV2
      have hd0 : ((d : Int) == 0) = false := by rw [beq_eq_false_iff_ne]; omega
      have HX : Hid (icells acc ++ [Value.int .i64 (c : Nat)] = icells (acc ++ [c])) := by show _ = _; simp [icells]
      go_wp2_with fail
      refine (first_any _ _ (by omega)).mono ?_
      rintro e w1 ⟨rfl, hb1⟩
      rw [show (fst (s.extract pos s.size)).1 = c by rw [hfa], show (fst (s.extract pos s.size)).2 = d by rw [hfa]]
      have hb2 := hb.trans (hb1.mono hb.size)
      have hs1 := hb1.size
      have hown1 := owns_below' hown hb1
      clear hb1 hfa hown
      have hne : u3.ownBlock ≠ some w1.heap.size := fun e => by have := (hown1.lt _ e).2; omega
      have hownA := hown1.alloc (.cells #[Value.int .i64 c, .int .i64 d] 177)
      go_wp2_with (at_builtin; refine wpl_apps _ rfl (.tmp 18) (.tmp 21) 124 3 rfl i0 _ 8 Tryz.underlying124 hi0 hz0 hz1 hz2 rfl _ _ _ _ rfl hownA (.int .i64 (c : Nat)) (w1.heap.size + 1) (by simp) rfl rfl (by omega) (by unfold maxLen; omega) (by simp; omega) ?_; intro v3 w3 hown3 hb3 hst3; have hc3 : w3.cell? ⟨w1.heap.size, 1, none⟩ = some (.int .i64 d) := (World.cell?_of_block (a := ⟨w1.heap.size, 1, none⟩) (hst3 w1.heap.size (by simp) hne)).trans (by simp))
      have HO : Hid (w3.ownsRow w.heap.size 3 1 v3 (acc ++ [c]).length (icells (acc ++ [c]))) := by
        show World.ownsRow _ _ _ _ _ _ _
        rw [← HX.out, List.length_append]
        exact hown3
      have HB : Hid (Below w.heap.size w w3) := (hb2.alloc (by omega) _).trans hb3
      clear hst3 hown3 hb3 hown1 hownA hb2
      go_wp2
      go_roundw
      case rel => exact ⟨pos + d, acc ++ [c], hwl, by go_num, HO.out, HB.out, HC2.out, HV2.out, by simp; omega⟩
      case measure => simp [RowKit.intOf]; omega
    · have HC2 : Hid (acc = rns s.data.toList) := by show _ = _; rw [← HC.out, rns_end s pos hlt]; simp
      have HO : Hid (IsRow wr 1 u3 acc.length (icells acc)) := IsRow.own hown
      have hp' : pos = s.size := by omega
      clear HC hown HV
      subst hp'
      go_wp2
      go_ret
      refine ⟨_, rfl, ?_, hb⟩
      rw [← HC2.out]
      exact HO.out
end Go.Proofs.YtacpllmlpmllbaaGreatDoor.V
/- The reference's Show of any value: its walk. -/
namespace Go.Proofs.YtacpllmlpmllbaaGreatDoor.V
open Go.RowKit

abbrev wr3 (w : World) (k n : Int) (s : ByteArray) : World := w.alloc (.cells #[.int .i64 k, .int .i64 n, .string s] 88)
theorem wr3_below (w : World) (k n : Int) (s : ByteArray) : Below w.heap.size w (wr3 w k n s) := (Below.refl _ _).alloc (Nat.le_refl _) _
theorem neg_itoa {n : Int} (h : n < 0) : (⟨#[45]⟩ : ByteArray) ++ str (Lib.decDigits n.natAbs) = str (Lib.itoa n) := by
  rw [Lib.itoa, if_pos h]
  refine ba_eq ?_
  rw [ba_append, str_data, str_data]
  rfl

set_option maxRecDepth 100000 in
set_option maxHeartbeats 4000000 in
theorem refShow_1 (n : Int) (s : ByteArray) (w : World) (hs : s.size ≤ 140737488355328) (h : chkV 1 n s = true) :
    Calls Tryz.prog 55 #[vv 1 n s] w fun e w' => e = .returned (.string (str (Lib.itoa n))) ∧ Below w.heap.size w w' := by
  obtain ⟨_, _, n1, n2, hz⟩ := chk_rng h
  have HC : Hid (chkV 1 n s = true) := h
  clear h
  by_cases hn : n < 0
  · have hd : decide (n < 0) = true := by simpa using hn
    have HI : Hid (∀ w : World, Calls Tryz.prog 61 #[.int .i64 (-n)] w fun e w' => e = .returned (.string (str (Lib.decDigits n.natAbs))) ∧ Below w.heap.size w w') := fun w => by
      rw [show -n = (n.natAbs : Int) by omega]
      exact refDigits_any n.natAbs w (by omega)
    have hsz : (str (Lib.decDigits n.natAbs)).size ≤ 16 := dec_size (by omega)
    rw [← neg_itoa hn]
    generalize str (Lib.decDigits n.natAbs) = X at *
    go_enter Tryz.func55, Tryz.ntmps55
    go_wp2_with fail
    refine (refCheck_any _ _ _ _ hs).mono ?_
    rintro e w1 ⟨rfl, hb1⟩
    rw [HC.out]
    have c0 : w1.cell? ⟨w.heap.size, 0, none⟩ = some (.int .i64 1) := (hb1.cell (p := ⟨w.heap.size, 0, none⟩) (by simp)).trans (by simp)
    have c1 : w1.cell? ⟨w.heap.size, 1, none⟩ = some (.int .i64 n) := (hb1.cell (p := ⟨w.heap.size, 1, none⟩) (by simp)).trans (by simp)
    have hB1 : Below w.heap.size w w1 := (wr3_below w 1 n s).trans (hb1.mono (by simp))
    clear hb1
    go_wp2_with fail
    refine (HI.out _).mono ?_
    rintro e w2 ⟨rfl, hb2⟩
    have hB2 := hB1.trans (hb2.mono hB1.size)
    clear hb2
    go_wp2
    go_ret
    exact ⟨rfl, hB2⟩
  · have hd : decide (n < 0) = false := by simpa using hn
    have HI : Hid (∀ w : World, Calls Tryz.prog 61 #[.int .i64 n] w fun e w' => e = .returned (.string (str (Lib.itoa n))) ∧ Below w.heap.size w w') := fun w => by
      have := refDigits_any n.toNat w (by omega)
      rw [show ((n.toNat : Nat) : Int) = n by omega] at this
      rw [Lib.itoa, if_neg hn]
      exact this
    generalize str (Lib.itoa n) = X at *
    go_enter Tryz.func55, Tryz.ntmps55
    go_wp2_with fail
    refine (refCheck_any _ _ _ _ hs).mono ?_
    rintro e w1 ⟨rfl, hb1⟩
    rw [HC.out]
    have c0 : w1.cell? ⟨w.heap.size, 0, none⟩ = some (.int .i64 1) := (hb1.cell (p := ⟨w.heap.size, 0, none⟩) (by simp)).trans (by simp)
    have c1 : w1.cell? ⟨w.heap.size, 1, none⟩ = some (.int .i64 n) := (hb1.cell (p := ⟨w.heap.size, 1, none⟩) (by simp)).trans (by simp)
    have hB1 : Below w.heap.size w w1 := (wr3_below w 1 n s).trans (hb1.mono (by simp))
    clear hb1
    go_wp2_with fail
    refine (HI.out _).mono ?_
    rintro e w2 ⟨rfl, hb2⟩
    have hB2 := hB1.trans (hb2.mono hB1.size)
    clear hb2
    go_wp2
    go_ret
    exact ⟨rfl, hB2⟩

set_option maxRecDepth 100000 in
set_option maxHeartbeats 4000000 in
theorem refShow_3 (n : Int) (s : ByteArray) (w : World) (hs : s.size ≤ 140737488355328) (h : chkV 3 n s = true) :
    Calls Tryz.prog 55 #[vv 3 n s] w fun e w' => e = .returned (.string (if (n == 1) = true then ⟨#[116, 114, 117, 101]⟩ else ⟨#[102, 97, 108, 115, 101]⟩)) ∧ Below w.heap.size w w' := by
  have HC : Hid (chkV 3 n s = true) := h
  clear h
  obtain ⟨B, hB⟩ : ∃ B, (n == 1) = B := ⟨_, rfl⟩
  rw [hB]
  cases B
  all_goals
    go_enter Tryz.func55, Tryz.ntmps55
    go_wp2_with fail
    refine (refCheck_any _ _ _ _ hs).mono ?_
    rintro e w1 ⟨rfl, hb1⟩
    rw [HC.out]
    have c0 : w1.cell? ⟨w.heap.size, 0, none⟩ = some (.int .i64 3) := (hb1.cell (p := ⟨w.heap.size, 0, none⟩) (by simp)).trans (by simp)
    have c1 : w1.cell? ⟨w.heap.size, 1, none⟩ = some (.int .i64 n) := (hb1.cell (p := ⟨w.heap.size, 1, none⟩) (by simp)).trans (by simp)
    have hB1 : Below w.heap.size w w1 := (wr3_below w 3 n s).trans (hb1.mono (by simp))
    clear hb1
    go_wp2
    go_ret
    exact ⟨rfl, hB1⟩

set_option maxRecDepth 100000 in
set_option maxHeartbeats 4000000 in
theorem refShow_0 (k n : Int) (s : ByteArray) (w : World) (hs : s.size ≤ 140737488355328) (h : chkV k n s = false) :
    Calls Tryz.prog 55 #[vv k n s] w fun e w' => e = .returned (.string ⟨#[]⟩) ∧ Below w.heap.size w w' := by
  have HC : Hid (chkV k n s = false) := h
  clear h
  go_enter Tryz.func55, Tryz.ntmps55
  go_wp2_with fail
  refine (refCheck_any _ _ _ _ hs).mono ?_
  rintro e w1 ⟨rfl, hb1⟩
  rw [HC.out]
  have hB1 : Below w.heap.size w w1 := (wr3_below w k n s).trans (hb1.mono (by simp))
  clear hb1
  go_wp2
  go_ret
  exact ⟨rfl, hB1⟩
end Go.Proofs.YtacpllmlpmllbaaGreatDoor.V
/- The reference's Show of bytes: its walk. -/
namespace Go.Proofs.YtacpllmlpmllbaaGreatDoor.V
open Go.RowKit

abbrev SA (w0 : World) (s : ByteArray) (w : World) : Prop :=
  w.cell? ⟨w0.heap.size, 2, none⟩ = some (.string s) ∧ w0.heap.size < w.heap.size ∧ Below w0.heap.size w0 w
theorem SA_call {w0 W w' : World} {s : ByteArray} (hb : Below W.heap.size W w') (h : SA w0 s W) : SA w0 s w' := by
  obtain ⟨a2, l1, hB⟩ := h
  exact ⟨(hb.cell (p := ⟨w0.heap.size, 2, none⟩) l1).trans a2, Nat.lt_of_lt_of_le l1 hb.size, hB.trans (hb.mono hB.size)⟩
theorem SA_drew {w0 W : World} {s : ByteArray} (h : SA w0 s W) : SA w0 s W.drew := ⟨h.1, h.2.1, h.2.2.drew⟩
/-- A digit's text. -/
def hx1 (z : Int) : ByteArray := str [dg z.toNat]
theorem hx1_size (z : Int) : (hx1 z).size = 1 := rfl
theorem refHexZ (z : Int) (w : World) (h0 : 0 ≤ z) (h1 : z < 16) :
    Calls Tryz.prog 100 #[.int .i64 z] w fun e w' => e = .returned (.string (hx1 z)) ∧ Below w.heap.size w w' := by
  have := refHex_any z.toNat w (by omega)
  rw [show ((z.toNat : Nat) : Int) = z by omega] at this
  exact this
theorem hex_step (l : List UInt8) (c : UInt8) : (str (120 :: 39 :: hexs l) ++ str [dg (c.toNat / 16)]) ++ str [dg (c.toNat % 16)] = str (120 :: 39 :: hexs (l ++ [c])) := ba_eq (by
  rw [ba_append, ba_append, str_data, str_data, str_data, str_data]
  simp [hexs, hex2])

set_option maxRecDepth 100000 in
set_option maxHeartbeats 8000000 in
theorem refShow_4 (n : Int) (s : ByteArray) (w : World) (hs : s.size ≤ 140737488355328) (h : chkV 4 n s = true) :
    Calls Tryz.prog 55 #[vv 4 n s] w fun e w' => e = .returned (.string (str (120 :: 39 :: hexs s.data.toList ++ [39]))) ∧ Below w.heap.size w w' := by
  obtain ⟨_, _, n1, n2, hz⟩ := chk_rng h
  have HC : Hid (chkV 4 n s = true) := h
  clear h
  go_enter Tryz.func55, Tryz.ntmps55
  go_wp2_with fail
  refine (refCheck_any _ _ _ _ hs).mono ?_
  rintro e w1 ⟨rfl, hb1⟩
  rw [HC.out]
  have c0 : w1.cell? ⟨w.heap.size, 0, none⟩ = some (.int .i64 4) := (hb1.cell (p := ⟨w.heap.size, 0, none⟩) (by simp)).trans (by simp)
  have c1 : w1.cell? ⟨w.heap.size, 1, none⟩ = some (.int .i64 n) := (hb1.cell (p := ⟨w.heap.size, 1, none⟩) (by simp)).trans (by simp)
  have c2 : w1.cell? ⟨w.heap.size, 2, none⟩ = some (.string s) := (hb1.cell (p := ⟨w.heap.size, 2, none⟩) (by simp)).trans (by simp)
  have hB1 : Below w.heap.size w w1 := (wr3_below w 4 n s).trans (hb1.mono (by simp))
  have hS1 : SA w s w1 := ⟨c2, by have := hb1.size; simp at this; omega, hB1⟩
  have HS1 : Hid (SA w s w1) := hS1
  clear hb1 c2 hS1
  go_wp2_with fail
  go_loopw [3, 4] (fun t i wr => ∃ j : Nat, j ≤ s.size ∧ i = .int .i64 j ∧ t = .string (str (120 :: 39 :: hexs (s.data.toList.take j))) ∧ SA w s wr) (fun _ i _ => s.size - (intOf i).toNat)
  case atStart => exact ⟨0, Nat.zero_le _, rfl, rfl, HS1.out⟩
  case round =>
    obtain ⟨j, hj, rfl, rfl, hS⟩ := hrel
    have c2 := hS.1
    by_cases hlt : j < s.size
    · have hi : (j : Int) < s.size := by omega
      have HT : Hid (s.data.toList.take (j + 1) = s.data.toList.take j ++ [s[j]]) := List.take_succ_eq_append_getElem (by rw [Array.length_toList]; exact hlt)
      have hsz : (str (120 :: 39 :: hexs (s.data.toList.take j))).size ≤ 500 := by
        rw [str_size, List.length_cons, List.length_cons, hexs_len, List.length_take]
        omega
      generalize hc : s[j] = c at *
      have hn := c.toNat_lt
      have HN : Hid ((str (120 :: 39 :: hexs (s.data.toList.take j)) ++ str [dg (c.toNat / 16)]) ++ str [dg (c.toNat % 16)] = str (120 :: 39 :: hexs (s.data.toList.take (j + 1)))) := by
        show _ = _
        rw [hex_step, HT.out]
      have e1 : str [dg (c.toNat / 16)] = hx1 ((c.toNat : Int) / 16) := by unfold hx1; rw [show ((c.toNat : Int) / 16).toNat = c.toNat / 16 by omega]
      have e2 : str [dg (c.toNat % 16)] = hx1 ((c.toNat : Int) % 16) := by unfold hx1; rw [show ((c.toNat : Int) % 16).toNat = c.toNat % 16 by omega]
      rw [e1, e2] at HN
      have hx1s := hx1_size ((c.toNat : Int) / 16)
      have hx2s := hx1_size ((c.toNat : Int) % 16)
      have q1 : IntKind.i64.wrap ((IntKind.i64.wrap (c.toNat : Int)).tdiv 16) = (c.toNat : Int) / 16 := by
        rw [IntWalk.i64_in (c.toNat : Int) ⟨by omega, by omega⟩, Int.tdiv_eq_ediv_of_nonneg (by omega), IntWalk.i64_in _ ⟨by omega, by omega⟩]
      have q2 : IntKind.i64.wrap ((IntKind.i64.wrap (c.toNat : Int)).tmod 16) = (c.toNat : Int) % 16 := by
        rw [IntWalk.i64_in (c.toNat : Int) ⟨by omega, by omega⟩, Int.tmod_eq_emod_of_nonneg (by omega), IntWalk.i64_in _ ⟨by omega, by omega⟩]
      have q3 : (IntKind.i64.wrap (c.toNat : Int)).tmod 16 = (c.toNat : Int) % 16 := by
        rw [IntWalk.i64_in (c.toNat : Int) ⟨by omega, by omega⟩, Int.tmod_eq_emod_of_nonneg (by omega)]
      clear e1 e2
      generalize str (120 :: 39 :: hexs (s.data.toList.take j)) = Z at *
      have l1 : Z.size ≤ 9223372036854775806 := by omega
      have l2 : Z.size ≤ 9223372036854775805 := by omega
      have l3 : ¬ 9223372036854775807 < Z.size + 1 := by omega
      have l4 : ¬ 9223372036854775807 < Z.size + 1 + 1 := by omega
      clear c2 HT
      go_wp2_with fail
      go_region_held3 (fun w' => SA w s w') (first | assumption | exact SA_call (by assumption) (by assumption) | exact SA_drew (by assumption))
        ((go_at_call 100; (first | rw [q1] | rw [q2] | rw [q3] | skip); refine (refHexZ _ _ ?_ ?_).mono ?_; omega; omega; rintro e w' ⟨rfl, hb⟩))
      all_goals
        rename_i hS3
        have HS3 : Hid (SA w s _) := hS3
        clear hS3 hS
        go_wp2
        go_roundw
        case rel => exact ⟨j + 1, by omega, by go_num, by rw [HN.out], HS3.out⟩
        case measure => simp [intOf]; omega
    · have hj' : j = s.size := by omega
      subst hj'
      have hfull : s.data.toList.take s.size = s.data.toList := List.take_of_length_le (by rw [Array.length_toList]; exact Nat.le_refl _)
      have hsz : (str (120 :: 39 :: hexs s.data.toList)).size ≤ 500 := by
        have e : s.data.toList.length = s.size := Array.length_toList
        rw [str_size, List.length_cons, List.length_cons, hexs_len]
        omega
      have HE : Hid (str (120 :: 39 :: hexs s.data.toList) ++ (⟨#[39]⟩ : ByteArray) = str (120 :: 39 :: (hexs s.data.toList ++ [39]))) := ba_eq (by
        rw [ba_append, str_data, str_data]
        rfl)
      rw [hfull]
      generalize str (120 :: 39 :: hexs s.data.toList) = Z at *
      have hB9 := hS.2.2
      clear hfull hS
      go_wp2
      go_ret
      exact ⟨by rw [← HE.out]; rfl, hB9⟩
end Go.Proofs.YtacpllmlpmllbaaGreatDoor.V
/- The reference's Show of a text: its walk; Show at any value. -/
namespace Go.Proofs.YtacpllmlpmllbaaGreatDoor.V
open Go.RowKit

theorem icells_at {w : World} {a : Option Addr} {cap : Nat} {l : List Nat} (h : IsRow w 1 (.slice a l.length cap) l.length (icells l)) (i : Nat) (hi : i < l.length) :
    ∃ b off, a = some ⟨b, off, none⟩ ∧ b < w.heap.size ∧ w.cell? ⟨b, off + i, none⟩ = some (.int .i64 ((l[i]'hi : Nat) : Int)) := by
  obtain ⟨b, off, cap', hv, hlt, _, _, hc⟩ := h.open (by omega)
  simp only [Value.slice.injEq] at hv
  exact ⟨b, off, hv.1, hlt, hc i _ (by simp [icells, hi])⟩
theorem shws_len (l : List Nat) : (shws l).length ≤ 6 * l.length := by
  induction l with
  | nil => simp [shws]
  | cons c l ih => have := shR_len c; simp only [shws, List.flatMap_cons, List.length_append, List.length_cons] at ih ⊢; omega

set_option maxRecDepth 100000 in
set_option maxHeartbeats 8000000 in
theorem refShow_2 (n : Int) (s : ByteArray) (w : World) (hs : s.size ≤ 140737488355328) (h : chkV 2 n s = true) :
    Calls Tryz.prog 55 #[vv 2 n s] w fun e w' => e = .returned (.string (str (34 :: shws (rns s.data.toList) ++ [34]))) ∧ Below w.heap.size w w' := by
  obtain ⟨_, _, n1, n2, hz⟩ := chk_rng h
  have hv : Lib.validD s.data.toList = true := by
    unfold chkV at h
    rw [if_neg (by decide), if_pos rfl] at h
    simp only [Bool.and_eq_true, decide_eq_true_eq] at h
    exact h.2.2
  have HC : Hid (chkV 2 n s = true) := h
  clear h
  have hln : (rns s.data.toList).length ≤ 200 := by
    have h3 := rns_len_le s.data.toList.length s.data.toList
    have e : s.data.toList.length = s.size := Array.length_toList
    have h4 : (rns s.data.toList).length ≤ s.data.toList.length := h3
    omega
  have hsc := rns_scal s.data.toList
  have HRn : Hid (∀ w : World, Calls Tryz.prog 91 #[.string s] w fun e w' => RnPost (rns s.data.toList) w e w') := fun w => refRunes_any s w (by omega) hv
  generalize rns s.data.toList = l at *
  go_enter Tryz.func55, Tryz.ntmps55
  go_wp2_with fail
  refine (refCheck_any _ _ _ _ hs).mono ?_
  rintro e w1 ⟨rfl, hb1⟩
  rw [HC.out]
  have c0 : w1.cell? ⟨w.heap.size, 0, none⟩ = some (.int .i64 2) := (hb1.cell (p := ⟨w.heap.size, 0, none⟩) (by simp)).trans (by simp)
  have c1 : w1.cell? ⟨w.heap.size, 1, none⟩ = some (.int .i64 n) := (hb1.cell (p := ⟨w.heap.size, 1, none⟩) (by simp)).trans (by simp)
  have c2 : w1.cell? ⟨w.heap.size, 2, none⟩ = some (.string s) := (hb1.cell (p := ⟨w.heap.size, 2, none⟩) (by simp)).trans (by simp)
  have hB1 : Below w.heap.size w w1 := (wr3_below w 2 n s).trans (hb1.mono (by simp))
  clear hb1 hv
  go_wp2_with fail
  refine (HRn.out _).mono ?_
  rintro e w2 ⟨v, rfl, hrow, hb2⟩
  obtain ⟨a0, cap0, rfl⟩ := hrow.form
  have hB2 := hB1.trans (hb2.mono hB1.size)
  clear hb2 c0 c1 c2
  go_wp2_with fail
  go_loopw [6, 7] (fun t i wr => ∃ j : Nat, j ≤ l.length ∧ i = .int .i64 j ∧ t = .string (str (34 :: shws (l.take j))) ∧ Below w2.heap.size w2 wr) (fun _ i _ => l.length - (intOf i).toNat)
  case atStart => exact ⟨0, Nat.zero_le _, rfl, rfl, Below.refl _ _⟩
  case round =>
    obtain ⟨j, hj, rfl, rfl, hb⟩ := hrel
    by_cases hlt : j < l.length
    · have hi : (j : Int) < l.length := by omega
      obtain ⟨b, off, rfl, hbl, d0⟩ := icells_at (hrow.below hb) j hlt
      have HT : Hid (l.take (j + 1) = l.take j ++ [l[j]]) := List.take_succ_eq_append_getElem hlt
      have hcs := hsc _ (List.getElem_mem hlt)
      generalize hc : l[j] = c at *
      have hsz : (str (34 :: shws (l.take j))).size ≤ 1300 := by
        have := shws_len (l.take j)
        rw [str_size, List.length_cons]
        rw [List.length_take] at this
        omega
      have hsz2 : (str (shR c)).size ≤ 6 := by rw [str_size]; exact shR_len c
      have HN : Hid (str (34 :: shws (l.take j)) ++ str (shR c) = str (34 :: shws (l.take (j + 1)))) := ba_eq (by
        rw [ba_append, str_data, str_data, str_data, HT.out]
        simp [shws])
      have HE : Hid (∀ w : World, Calls Tryz.prog 101 #[.int .i64 (c : Int)] w fun e w' => e = .returned (.string (str (shR c))) ∧ Below w.heap.size w w') := fun w => escape_any c w hcs
      generalize str (34 :: shws (l.take j)) = Z at *
      generalize str (shR c) = X at *
      clear HT
      go_wp2_with fail
      refine (HE.out _).mono ?_
      rintro e w3 ⟨rfl, hb3⟩
      have HB : Hid (Below w2.heap.size w2 w3) := hb.trans (hb3.mono hb.size)
      clear hb hb3 d0
      go_wp2
      go_roundw
      case rel => exact ⟨j + 1, by omega, by go_num, by rw [HN.out], HB.out⟩
      case measure => simp [intOf]; omega
    · have hj' : j = l.length := by omega
      subst hj'
      have hsz : (str (34 :: shws l)).size ≤ 1300 := by
        have := shws_len l
        rw [str_size, List.length_cons]
        omega
      have HE : Hid (str (34 :: shws l) ++ (⟨#[34]⟩ : ByteArray) = str (34 :: (shws l ++ [34]))) := ba_eq (by
        rw [ba_append, str_data, str_data]
        rfl)
      rw [List.take_of_length_le (Nat.le_refl _)]
      generalize str (34 :: shws l) = Z at *
      have hB9 := hB2.trans (hb.mono hB2.size)
      clear hb
      go_wp2
      go_ret
      exact ⟨by rw [← HE.out]; rfl, hB9⟩

theorem refShow_any (k n : Int) (s : ByteArray) (w : World) (hs : s.size ≤ 140737488355328) :
    Calls Tryz.prog 55 #[vv k n s] w fun e w' => e = .returned (.string (shwV k n s)) ∧ Below w.heap.size w w' := by
  unfold shwV
  by_cases h : chkV k n s = true
  · rw [if_pos h]
    obtain ⟨k1, k4, _, _, _⟩ := chk_rng h
    obtain rfl | rfl | rfl | rfl : k = 1 ∨ k = 2 ∨ k = 3 ∨ k = 4 := by omega
    · rw [if_pos rfl]; exact refShow_1 n s w hs h
    · rw [if_neg (by decide), if_neg (by decide), if_neg (by decide)]; exact refShow_2 n s w hs h
    · rw [if_neg (by decide), if_pos rfl]; exact refShow_3 n s w hs h
    · rw [if_neg (by decide), if_neg (by decide), if_pos rfl]; exact refShow_4 n s w hs h
  · rw [if_neg h]; exact refShow_0 k n s w hs (by simpa using h)
end Go.Proofs.YtacpllmlpmllbaaGreatDoor.V
