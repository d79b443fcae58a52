/- SchemaOnce: its walk. -/
import Derived.Test.YtfbhalkiilbcoaaGreatDoorSS
import Derived.Test.YtfbhalkiilbcoaaGreatDoorSWa
import Derived.Test.YtfbhalkiilbcoaaGreatDoorZb
namespace Go.Proofs.YtfbhalkiilbcoaaGreatDoor
open Go.RowKit

/-- The variables that are read: the names' and quic's. -/
structure W5 (W : World) : Prop where
  w : W4 W
  q : Q.Tab W
theorem W5.below {w w' : World} (h : W5 w) (hb : Below w.heap.size w w') : W5 w' := ⟨h.w.below hb, h.q.below hb h.q.size⟩
/-- What is shown is what was parsed. -/
theorem parse_once {s : ByteArray} (h : (parseR s).2 = 0) : str (showL (parseR s).1) = s := by
  unfold parseR at h ⊢
  by_cases h45 : s.data.toList = [45]
  · rw [if_pos h45]
    refine ba_eq ?_
    rw [h45]
    have hc : chkF [] = true := by decide +kernel
    unfold showL
    rw [if_pos hc]
    rfl
  · rw [if_neg h45] at h ⊢
    by_cases hc : chkF (parseL s) = true
    · rw [if_pos hc]
      refine ba_eq ?_
      dsimp only
      unfold showL
      rw [if_pos hc, if_neg (fun e => parseL_ne s (List.eq_nil_of_length_eq_zero e)), str_data]
      exact show_of_parse hc
    · rw [if_neg hc] at h
      cases h
theorem parse_names {s : ByteArray} (hs : s.size ≤ 5000) : (∀ x ∈ (parseR s).1, x.n.size ≤ 20000) ∧ (parseR s).1.length ≤ 25 := by
  unfold parseR
  split
  · exact ⟨(fun x hx => by cases hx), by simp⟩
  split
  · refine ⟨fun x hx => ?_, ?_⟩
    · obtain ⟨y, hy, rfl⟩ := List.mem_map.1 hx
      have h1 := split_size _ _ _ _ hy
      have h2 := cut_le1 y.data.toList [32]
      show (str (Lib.cut y.data.toList [32]).1).size ≤ _
      have h3 : (str (Lib.cut y.data.toList [32]).1).size = (Lib.cut y.data.toList [32]).1.length := by rw [Lib.size_eq, str_data]
      have h4 : y.data.toList.length = y.size := by simp
      omega
    · have := pL_len s
      show (parseL s).length ≤ 25
      unfold parseL
      rw [List.length_map]
      omega
  · exact ⟨(fun x hx => by cases hx), by simp⟩
theorem readS_all {s r : ByteArray} {l : List Fd} (hs : s.size ≤ 65536) (h : readS s = .ok (l, r)) : (∀ x ∈ l, x.n.size ≤ 65536) ∧ l.length ≤ 24 ∧ r.size ≤ s.size := by
  have hc := (readS_once h).1
  unfold readS at h
  cases hx : manyE rfX rfR rfE s with
  | error e => rw [hx] at h; cases h
  | ok x =>
    obtain ⟨l', r'⟩ := x
    rw [hx] at h
    dsimp only at h
    split at h
    · obtain ⟨rfl, rfl⟩ := Prod.mk.inj (Except.ok.inj h)
      obtain ⟨i1, i2⟩ := many_all (p := fun x : Fd => x.n.size ≤ 65536) (N := 65536) (fun s h => Nat.le_trans (rfX_size s) h) rfR_size hs hx
      exact ⟨i1, chk_len hc, i2⟩
    · cases h
theorem readA_all {s r : ByteArray} {l : List At} (hs : s.size ≤ 65536) (h : readA s = .ok (l, r)) : (∀ x ∈ l, x.n.size ≤ 65536 ∧ x.s.size ≤ 140737488355328) ∧ l.length ≤ 24 ∧ r.size ≤ s.size := by
  have hc := (readA_once h).1
  unfold readA at h
  cases hx : manyE raX raR raE s with
  | error e => rw [hx] at h; cases h
  | ok x =>
    obtain ⟨l', r'⟩ := x
    rw [hx] at h
    dsimp only at h
    split at h
    · obtain ⟨rfl, rfl⟩ := Prod.mk.inj (Except.ok.inj h)
      obtain ⟨i1, i2⟩ := many_all (p := fun x : At => x.n.size ≤ 65536 ∧ x.s.size ≤ 140737488355328) (N := 65536) (fun s h => ⟨Nat.le_trans (raX_size s).1 h, Nat.le_trans (Nat.le_trans (raX_size s).2 h) (by decide)⟩) raR_size hs hx
      exact ⟨i1, chkA_len hc, i2⟩
    · cases h
/-- What a reader answers, for the law's walk: the row, the rest, the error; written again it is the text. -/
def OnS (s : ByteArray) (w : World) (e : Ending) (w' : World) : Prop :=
  ∃ (a : Option Addr) (n c : Nat) (r : ByteArray) (E : Int), e = .returned (.tuple #[.slice a n c, .string r, .int .i64 E]) ∧ Below w.heap.size w w' ∧
    (E ≠ 0 ∨ (E = 0 ∧ ∃ T : ByteArray, T ++ r = s ∧ ∀ W, Below w'.heap.size w' W → Calls Tryz.prog 12 #[.slice a n c] W fun e W' => e = .returned (.string T) ∧ Below W.heap.size W W'))
def OnA (s : ByteArray) (w : World) (e : Ending) (w' : World) : Prop :=
  ∃ (a : Option Addr) (n c : Nat) (r : ByteArray) (E : Int), e = .returned (.tuple #[.slice a n c, .string r, .int .i64 E]) ∧ Below w.heap.size w w' ∧
    (E ≠ 0 ∨ (E = 0 ∧ ∃ T : ByteArray, T ++ r = s ∧ ∀ W, Below w'.heap.size w' W → Calls Tryz.prog 16 #[.slice a n c] W fun e W' => e = .returned (.string T) ∧ Below W.heap.size W W'))
def OnP (s : ByteArray) (w : World) (e : Ending) (w' : World) : Prop :=
  ∃ (a : Option Addr) (n c : Nat) (E : Int), e = .returned (.tuple #[.slice a n c, .int .i64 E]) ∧ Below w.heap.size w w' ∧
    (E ≠ 0 ∨ (E = 0 ∧ ∀ W, Below w'.heap.size w' W → Calls Tryz.prog 10 #[.slice a n c] W fun e W' => e = .returned (.string s) ∧ Below W.heap.size W W'))
theorem onS {s : ByteArray} (hs : s.size ≤ 5000) (w : World) (h : W5 w) : Calls Tryz.prog 11 #[.string s] w fun e w' => OnS s w e w' := by
  refine (readF_any s w (by omega) h.w).mono ?_
  intro e w' hp
  cases hr : readS s with
  | error E =>
    rw [hr] at hp
    obtain ⟨hE, rfl, hb⟩ := hp
    exact ⟨none, 0, 0, e0S, E, rfl, hb, .inl hE⟩
  | ok x =>
    obtain ⟨l, r⟩ := x
    rw [hr] at hp
    obtain ⟨v, rfl, hrow, hb⟩ := hp
    obtain ⟨a, c, rfl⟩ := hrow.form
    obtain ⟨i1, i2, -⟩ := readS_all (by omega) hr
    refine ⟨a, _, c, r, 0, rfl, hb, .inr ⟨rfl, textS l, (readS_once hr).2, fun W hW => ?_⟩⟩
    have h5 := (h.below hb).below hW
    exact textS_any _ l W (hrow.below hW) (by omega) i1 h5.w h5.q
theorem onA {s : ByteArray} (hs : s.size ≤ 5000) (w : World) (h : W5 w) : Calls Tryz.prog 17 #[.string s] w fun e w' => OnA s w e w' := by
  refine (readA_any s w (by omega) h.w).mono ?_
  intro e w' hp
  cases hr : readA s with
  | error E =>
    rw [hr] at hp
    obtain ⟨hE, rfl, hb⟩ := hp
    exact ⟨none, 0, 0, e0S, E, rfl, hb, .inl hE⟩
  | ok x =>
    obtain ⟨l, r⟩ := x
    rw [hr] at hp
    obtain ⟨v, rfl, hrow, hb⟩ := hp
    obtain ⟨a, c, rfl⟩ := hrow.form
    obtain ⟨i1, i2, -⟩ := readA_all (by omega) hr
    refine ⟨a, _, c, r, 0, rfl, hb, .inr ⟨rfl, textA l, (readA_once hr).2, fun W hW => ?_⟩⟩
    have h5 := (h.below hb).below hW
    exact textA_any _ l W (hrow.below hW) (by omega) i1 h5.w h5.q
theorem onP {s : ByteArray} (hs : s.size ≤ 5000) (w : World) (h : W5 w) : Calls Tryz.prog 9 #[.string s] w fun e w' => OnP s w e w' := by
  refine (parse_any s w (by omega) h.w.t h.w.m h.w.k).mono ?_
  rintro e w' ⟨v, rfl, hrow, hb⟩
  obtain ⟨a, c, rfl⟩ := hrow.form
  by_cases hE : (parseR s).2 = 0
  · refine ⟨a, _, c, _, rfl, hb, .inr ⟨hE, fun W hW => ?_⟩⟩
    obtain ⟨i1, i2⟩ := parse_names hs
    have h5 := (h.below hb).below hW
    have hsh := showS_any _ (parseR s).1 W (hrow.below hW) (by omega) i1 h5.w
    rw [parse_once hE] at hsh
    exact hsh
  · exact ⟨a, _, c, _, rfl, hb, .inl hE⟩
theorem bne0 {E : Int} (h : E ≠ 0) : (E != 0) = true := by simpa using h
set_option maxRecDepth 100000 in
set_option maxHeartbeats 4000000 in
theorem schemaOnce_walk (s : ByteArray) (w : World) (_hs : s.size ≤ 140737488355328) (h : W5 w) :
    Calls Tryz.prog 4 #[.string s] w fun e w' => e = .returned (.bool true) ∧ Below w.heap.size w w' := by
  have HAw : Hid (∀ W, Below w.heap.size w W → Calls Tryz.prog 7 #[] W fun e W' => e = .returned (.bool true) ∧ Below W.heap.size W W') := fun W hW => awake4_any W (h.below hW).w
  by_cases h5 : s.size ≤ 5000
  · have HP : Hid (∀ W, Below w.heap.size w W → Calls Tryz.prog 9 #[.string s] W fun e W' => OnP s W e W') := fun W hW => onP h5 W (h.below hW)
    have HS : Hid (∀ W, Below w.heap.size w W → Calls Tryz.prog 11 #[.string s] W fun e W' => OnS s W e W') := fun W hW => onS h5 W (h.below hW)
    have HA : Hid (∀ W, Below w.heap.size w W → Calls Tryz.prog 17 #[.string s] W fun e W' => OnA s W e W') := fun W hW => onA h5 W (h.below hW)
    have d5 : decide ((5000 : Int) < (s.size : Int)) = false := by simp; omega
    have es : (s.toList == s.toList) = true := by simp
    clear h
    go_enter Tryz.func4, Tryz.ntmps4
    go_wp2_with fail
    refine (HP.out w (Below.refl _ _)).mono ?_
    rintro e w1 ⟨a1, n1, c1, E1, rfl, hb1, hK1⟩
    have HB1 : Hid (Below w.heap.size w w1) := hb1
    have HK1 : Hid (E1 ≠ 0 ∨ (E1 = 0 ∧ ∀ W, Below w1.heap.size w1 W → Calls Tryz.prog 10 #[.slice a1 n1 c1] W fun e W' => e = .returned (.string s) ∧ Below W.heap.size W W')) := hK1
    clear hb1 hK1
    go_wp2_with fail
    refine (HS.out w1 HB1.out).mono ?_
    rintro e w2 ⟨a2, n2, c2, r2, E2, rfl, hb2, hK2⟩
    have HB2 : Hid (Below w.heap.size w w2) := HB1.out.trans (hb2.mono HB1.out.size)
    have HB12 : Hid (Below w1.heap.size w1 w2) := hb2
    have HK2 : Hid (E2 ≠ 0 ∨ (E2 = 0 ∧ ∃ T : ByteArray, T ++ r2 = s ∧ ∀ W, Below w2.heap.size w2 W → Calls Tryz.prog 12 #[.slice a2 n2 c2] W fun e W' => e = .returned (.string T) ∧ Below W.heap.size W W')) := hK2
    clear hb2 hK2
    go_wp2_with fail
    refine (HA.out w2 HB2.out).mono ?_
    rintro e w3 ⟨a3, n3, c3, r3, E3, rfl, hb3, hK3⟩
    have HB3 : Hid (Below w.heap.size w w3) := HB2.out.trans (hb3.mono HB2.out.size)
    have HB13 : Hid (Below w1.heap.size w1 w3) := HB12.out.trans (hb3.mono HB12.out.size)
    have HB23 : Hid (Below w2.heap.size w2 w3) := hb3
    have HK3 : Hid (E3 ≠ 0 ∨ (E3 = 0 ∧ ∃ T : ByteArray, T ++ r3 = s ∧ ∀ W, Below w3.heap.size w3 W → Calls Tryz.prog 16 #[.slice a3 n3 c3] W fun e W' => e = .returned (.string T) ∧ Below W.heap.size W W')) := hK3
    clear hb3 hK3 HP HS HA
    rcases HK1.out with k1 | k1
    · have e1 : (E1 != 0) = true := bne0 k1
      clear k1 HK1
      rcases HK2.out with k2 | k2
      · have e2 : (E2 != 0) = true := bne0 k2
        clear k2 HK2
        rcases HK3.out with k3 | k3
        · have e3 : (E3 != 0) = true := bne0 k3
          clear k3 HK3
          go_wp2_with fail
          refine (HAw.out w3 HB3.out).mono ?_
          rintro e w4 ⟨rfl, hb4⟩
          have HB4 : Hid (Below w3.heap.size w3 w4) := hb4
          clear hb4
          go_wp2
          go_ret
          exact ⟨rfl, HB3.out.trans (HB4.out.mono HB3.out.size)⟩
        · obtain ⟨rfl, T3, hT3, kk3⟩ := k3
          have K3 : Hid (∀ W, Below w3.heap.size w3 W → Calls Tryz.prog 16 #[.slice a3 n3 c3] W fun e W' => e = .returned (.string T3) ∧ Below W.heap.size W W') := kk3
          have z3 : ¬ 9223372036854775807 < T3.size + r3.size := by have := congrArg ByteArray.size hT3; rw [ByteArray.size_append] at this; omega
          have t3 : ((T3 ++ r3).toList == s.toList) = true := by rw [hT3]; simp
          clear kk3 HK3 hT3
          go_wp2_with fail
          refine (HAw.out w3 HB3.out).mono ?_
          rintro e w4 ⟨rfl, hb4⟩
          have HB4 : Hid (Below w3.heap.size w3 w4) := hb4
          clear hb4
          go_wp2_with fail
          refine (K3.out w4 HB4.out).mono ?_
          rintro e w5 ⟨rfl, hb5⟩
          have HB5 : Hid (Below w3.heap.size w3 w5) := HB4.out.trans (hb5.mono HB4.out.size)
          clear hb5
          go_wp2
          go_ret
          exact ⟨rfl, HB3.out.trans (HB5.out.mono HB3.out.size)⟩
      · obtain ⟨rfl, T2, hT2, kk2⟩ := k2
        have K2 : Hid (∀ W, Below w2.heap.size w2 W → Calls Tryz.prog 12 #[.slice a2 n2 c2] W fun e W' => e = .returned (.string T2) ∧ Below W.heap.size W W') := kk2
        have z2 : ¬ 9223372036854775807 < T2.size + r2.size := by have := congrArg ByteArray.size hT2; rw [ByteArray.size_append] at this; omega
        have t2 : ((T2 ++ r2).toList == s.toList) = true := by rw [hT2]; simp
        clear kk2 HK2 hT2
        rcases HK3.out with k3 | k3
        · have e3 : (E3 != 0) = true := bne0 k3
          clear k3 HK3
          go_wp2_with fail
          refine (HAw.out w3 HB3.out).mono ?_
          rintro e w4 ⟨rfl, hb4⟩
          have HB4 : Hid (Below w3.heap.size w3 w4) := hb4
          clear hb4
          go_wp2_with fail
          refine (K2.out w4 (HB23.out.trans (HB4.out.mono HB23.out.size))).mono ?_
          rintro e w5 ⟨rfl, hb5⟩
          have HB5 : Hid (Below w3.heap.size w3 w5) := HB4.out.trans (hb5.mono HB4.out.size)
          clear hb5
          go_wp2
          go_ret
          exact ⟨rfl, HB3.out.trans (HB5.out.mono HB3.out.size)⟩
        · obtain ⟨rfl, T3, hT3, kk3⟩ := k3
          have K3 : Hid (∀ W, Below w3.heap.size w3 W → Calls Tryz.prog 16 #[.slice a3 n3 c3] W fun e W' => e = .returned (.string T3) ∧ Below W.heap.size W W') := kk3
          have z3 : ¬ 9223372036854775807 < T3.size + r3.size := by have := congrArg ByteArray.size hT3; rw [ByteArray.size_append] at this; omega
          have t3 : ((T3 ++ r3).toList == s.toList) = true := by rw [hT3]; simp
          clear kk3 HK3 hT3
          go_wp2_with fail
          refine (HAw.out w3 HB3.out).mono ?_
          rintro e w4 ⟨rfl, hb4⟩
          have HB4 : Hid (Below w3.heap.size w3 w4) := hb4
          clear hb4
          go_wp2_with fail
          refine (K2.out w4 (HB23.out.trans (HB4.out.mono HB23.out.size))).mono ?_
          rintro e w5 ⟨rfl, hb5⟩
          have HB5 : Hid (Below w3.heap.size w3 w5) := HB4.out.trans (hb5.mono HB4.out.size)
          clear hb5
          go_wp2_with fail
          refine (K3.out w5 HB5.out).mono ?_
          rintro e w6 ⟨rfl, hb6⟩
          have HB6 : Hid (Below w3.heap.size w3 w6) := HB5.out.trans (hb6.mono HB5.out.size)
          clear hb6
          go_wp2
          go_ret
          exact ⟨rfl, HB3.out.trans (HB6.out.mono HB3.out.size)⟩
    · obtain ⟨rfl, kk1⟩ := k1
      have K1 : Hid (∀ W, Below w1.heap.size w1 W → Calls Tryz.prog 10 #[.slice a1 n1 c1] W fun e W' => e = .returned (.string s) ∧ Below W.heap.size W W') := kk1
      clear kk1 HK1
      rcases HK2.out with k2 | k2
      · have e2 : (E2 != 0) = true := bne0 k2
        clear k2 HK2
        rcases HK3.out with k3 | k3
        · have e3 : (E3 != 0) = true := bne0 k3
          clear k3 HK3
          go_wp2_with fail
          refine (HAw.out w3 HB3.out).mono ?_
          rintro e w4 ⟨rfl, hb4⟩
          have HB4 : Hid (Below w3.heap.size w3 w4) := hb4
          clear hb4
          go_wp2_with fail
          refine (K1.out w4 (HB13.out.trans (HB4.out.mono HB13.out.size))).mono ?_
          rintro e w5 ⟨rfl, hb5⟩
          have HB5 : Hid (Below w3.heap.size w3 w5) := HB4.out.trans (hb5.mono HB4.out.size)
          clear hb5
          go_wp2
          go_ret
          exact ⟨rfl, HB3.out.trans (HB5.out.mono HB3.out.size)⟩
        · obtain ⟨rfl, T3, hT3, kk3⟩ := k3
          have K3 : Hid (∀ W, Below w3.heap.size w3 W → Calls Tryz.prog 16 #[.slice a3 n3 c3] W fun e W' => e = .returned (.string T3) ∧ Below W.heap.size W W') := kk3
          have z3 : ¬ 9223372036854775807 < T3.size + r3.size := by have := congrArg ByteArray.size hT3; rw [ByteArray.size_append] at this; omega
          have t3 : ((T3 ++ r3).toList == s.toList) = true := by rw [hT3]; simp
          clear kk3 HK3 hT3
          go_wp2_with fail
          refine (HAw.out w3 HB3.out).mono ?_
          rintro e w4 ⟨rfl, hb4⟩
          have HB4 : Hid (Below w3.heap.size w3 w4) := hb4
          clear hb4
          go_wp2_with fail
          refine (K1.out w4 (HB13.out.trans (HB4.out.mono HB13.out.size))).mono ?_
          rintro e w5 ⟨rfl, hb5⟩
          have HB5 : Hid (Below w3.heap.size w3 w5) := HB4.out.trans (hb5.mono HB4.out.size)
          clear hb5
          go_wp2_with fail
          refine (K3.out w5 HB5.out).mono ?_
          rintro e w6 ⟨rfl, hb6⟩
          have HB6 : Hid (Below w3.heap.size w3 w6) := HB5.out.trans (hb6.mono HB5.out.size)
          clear hb6
          go_wp2
          go_ret
          exact ⟨rfl, HB3.out.trans (HB6.out.mono HB3.out.size)⟩
      · obtain ⟨rfl, T2, hT2, kk2⟩ := k2
        have K2 : Hid (∀ W, Below w2.heap.size w2 W → Calls Tryz.prog 12 #[.slice a2 n2 c2] W fun e W' => e = .returned (.string T2) ∧ Below W.heap.size W W') := kk2
        have z2 : ¬ 9223372036854775807 < T2.size + r2.size := by have := congrArg ByteArray.size hT2; rw [ByteArray.size_append] at this; omega
        have t2 : ((T2 ++ r2).toList == s.toList) = true := by rw [hT2]; simp
        clear kk2 HK2 hT2
        rcases HK3.out with k3 | k3
        · have e3 : (E3 != 0) = true := bne0 k3
          clear k3 HK3
          go_wp2_with fail
          refine (HAw.out w3 HB3.out).mono ?_
          rintro e w4 ⟨rfl, hb4⟩
          have HB4 : Hid (Below w3.heap.size w3 w4) := hb4
          clear hb4
          go_wp2_with fail
          refine (K1.out w4 (HB13.out.trans (HB4.out.mono HB13.out.size))).mono ?_
          rintro e w5 ⟨rfl, hb5⟩
          have HB5 : Hid (Below w3.heap.size w3 w5) := HB4.out.trans (hb5.mono HB4.out.size)
          clear hb5
          go_wp2_with fail
          refine (K2.out w5 (HB23.out.trans (HB5.out.mono HB23.out.size))).mono ?_
          rintro e w6 ⟨rfl, hb6⟩
          have HB6 : Hid (Below w3.heap.size w3 w6) := HB5.out.trans (hb6.mono HB5.out.size)
          clear hb6
          go_wp2
          go_ret
          exact ⟨rfl, HB3.out.trans (HB6.out.mono HB3.out.size)⟩
        · obtain ⟨rfl, T3, hT3, kk3⟩ := k3
          have K3 : Hid (∀ W, Below w3.heap.size w3 W → Calls Tryz.prog 16 #[.slice a3 n3 c3] W fun e W' => e = .returned (.string T3) ∧ Below W.heap.size W W') := kk3
          have z3 : ¬ 9223372036854775807 < T3.size + r3.size := by have := congrArg ByteArray.size hT3; rw [ByteArray.size_append] at this; omega
          have t3 : ((T3 ++ r3).toList == s.toList) = true := by rw [hT3]; simp
          clear kk3 HK3 hT3
          go_wp2_with fail
          refine (HAw.out w3 HB3.out).mono ?_
          rintro e w4 ⟨rfl, hb4⟩
          have HB4 : Hid (Below w3.heap.size w3 w4) := hb4
          clear hb4
          go_wp2_with fail
          refine (K1.out w4 (HB13.out.trans (HB4.out.mono HB13.out.size))).mono ?_
          rintro e w5 ⟨rfl, hb5⟩
          have HB5 : Hid (Below w3.heap.size w3 w5) := HB4.out.trans (hb5.mono HB4.out.size)
          clear hb5
          go_wp2_with fail
          refine (K2.out w5 (HB23.out.trans (HB5.out.mono HB23.out.size))).mono ?_
          rintro e w6 ⟨rfl, hb6⟩
          have HB6 : Hid (Below w3.heap.size w3 w6) := HB5.out.trans (hb6.mono HB5.out.size)
          clear hb6
          go_wp2_with fail
          refine (K3.out w6 HB6.out).mono ?_
          rintro e w7 ⟨rfl, hb7⟩
          have HB7 : Hid (Below w3.heap.size w3 w7) := HB6.out.trans (hb7.mono HB6.out.size)
          clear hb7
          go_wp2
          go_ret
          exact ⟨rfl, HB3.out.trans (HB7.out.mono HB3.out.size)⟩
  · have d5 : decide ((5000 : Int) < (s.size : Int)) = true := by simp; omega
    clear h h5
    go_enter Tryz.func4, Tryz.ntmps4
    go_wp2_with (refine (HAw.out w (Below.refl _ _)).mono ?_; rintro e w1 ⟨rfl, hb1⟩)
    go_ret
    exact ⟨rfl, hb1⟩
end Go.Proofs.YtfbhalkiilbcoaaGreatDoor
