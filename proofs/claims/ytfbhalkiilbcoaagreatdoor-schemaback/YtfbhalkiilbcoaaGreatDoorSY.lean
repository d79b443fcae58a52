/- The reference's SameAttrs of the same attributes; what is written is read: its mathematics; SchemaBack's walk. -/
import Derived.Test.YtfbhalkiilbcoaaGreatDoorSX
import Derived.Test.YtfbhalkiilbcoaaGreatDoorZf
import Derived.Test.YtfbhalkiilbcoaaGreatDoorZa
namespace Go.Proofs.YtfbhalkiilbcoaaGreatDoor
open Go.RowKit

set_option maxRecDepth 100000 in
set_option maxHeartbeats 2000000 in
theorem refSameA_eq (v u : Value) (a : List At) (w : World) (hq : IsRow w 4 v a.length (aCells a)) (hr : IsRow w 4 u a.length (aCells a)) (hal : a.length ≤ 1000000) :
    Calls Tryz.prog 18 #[v, u] w fun e w' => e = .returned (.bool true) ∧ Below w.heap.size w w' := by
  obtain ⟨a0, cap0, rfl⟩ := hq.form
  obtain ⟨a1, cap1, rfl⟩ := hr.form
  have HQ : Hid (∀ w', Below w.heap.size w w' → IsRow w' 4 (.slice a0 a.length cap0) a.length (aCells a)) := fun w' h => hq.below h
  have HR : Hid (∀ w', Below w.heap.size w w' → IsRow w' 4 (.slice a1 a.length cap1) a.length (aCells a)) := fun w' h => hr.below h
  clear hq hr
  have dn : ((a.length : Int) != (a.length : Int)) = false := by simp
  go_enter Tryz.func18, Tryz.ntmps18
  go_wp2_with fail
  go_loopw [4, 5] (fun r i wr => r = .bool false ∧ ∃ k : Nat, k ≤ a.length ∧ i = .int .i64 (k : Int) ∧ Below w.heap.size w wr) (fun _ i _ => a.length - (intOf i).toNat)
  case atStart => exact ⟨rfl, 0, Nat.zero_le _, rfl, Below.refl _ _⟩
  case round =>
    obtain ⟨rfl, k, hk, rfl, hB⟩ := hrel
    by_cases hlk : k < a.length
    · have dk : decide ((k : Int) < a.length) = true := by simp; omega
      obtain ⟨b, off, rfl, hlt, hcap, hc⟩ := a_at (HQ.out wr hB) (by omega)
      obtain ⟨b', off', rfl, hlt', hcap', hc'⟩ := a_at (HR.out wr hB) (by omega)
      obtain ⟨ck0, ck1, ck2, ck3⟩ := hc k hlk
      obtain ⟨dk0, dk1, dk2, dk3⟩ := hc' k hlk
      generalize a[k]'hlk = x at *
      obtain ⟨n, kk, m, ss⟩ := x
      have q1 : (0 : Int) ≤ (k : Int) := by omega
      have q2 : (k : Int) < (a.length : Int) := by omega
      clear hc hc'
      have HBd : Hid (∀ q, Below w.heap.size w (wr.drewN q)) := fun q => ⟨hB.os, hB.tape, hB.output, hB.size, hB.block⟩
      clear hB
      go_wp2_with fail
      refine wp_region_quiet (C := fun w' => ∃ q, w' = wr.drewN q) (by kernel_rfl) (by kernel_rfl) ⟨1, rfl⟩ ?_
      dsimp only
      repeat (first
        | (go_big_quiet_want
           apply Exists.intro
           refine ⟨fun W' hW' => ?_, ?_⟩
           · obtain ⟨q, rfl⟩ := hW'
             go_simp
             first
               | done
               | exact ⟨rfl, q, rfl⟩
               | exact ⟨rfl, rfl⟩
               | rfl
           go_big_quiet_on
           try simp only [Act.put, List.setIfInBounds_toArray, List.set_cons_zero, List.set_cons_succ]))
      refine wpQuiet_nil ?_
      rintro w2 ⟨q, rfl⟩
      go_wp2
      go_roundw
      case rel => exact ⟨rfl, k + 1, by omega, by simp, HBd.out q⟩
      case measure => simp [intOf]; omega
    · have hk' : k = a.length := by omega
      subst hk'
      have dk : decide ((a.length : Int) < a.length) = false := by simp
      have HBB : Hid (Below w.heap.size w wr) := hB
      clear hB
      go_wp2
      go_ret
      exact ⟨rfl, HBB.out⟩
theorem numL8 (n : Int) : (Q.numL n).length ≤ 8 := by
  have := Q.num_size_le n; have := Q.strOfNums_len n; have := Q.numL_len n; omega
theorem parse_back {l : List Fd} (h : chkF l = true) : parseR (str (showL l)) = (l, 0) := by
  unfold showL
  rw [if_pos h]
  by_cases h0 : l.length = 0
  · rw [if_pos h0]
    obtain rfl := List.eq_nil_of_length_eq_zero h0
    rfl
  · rw [if_neg h0]
    have hne : l ≠ [] := fun e => h0 (by rw [e]; rfl)
    have hj := parse_join (chk_may h) hne (chk_len h) (len_join l)
    have h45 : ¬ (str (Lib.join (l.map shF) [44, 32])).data.toList = [45] := by
      rw [str_data]
      match l, hne with
      | x :: r, _ =>
        rw [List.map_cons, Lib.join_cons]
        intro e
        have hm : (32 : UInt8) ∈ shF x ++ Lib.joinTail [44, 32] (r.map shF) := by simp [shF]
        rw [e] at hm
        simp at hm
    unfold parseR
    rw [if_neg h45, hj, if_pos h]
theorem show_size {l : List Fd} (h : chkF l = true) (hn : ∀ x ∈ l, x.n.size ≤ 200) : (str (showL l)).size ≤ 1000000 := by
  have h24 := chk_len h
  have e : (str (showL l)).size = (showL l).length := by rw [Lib.size_eq, str_data]
  rw [e]
  unfold showL
  rw [if_pos h]
  split
  · simp
  · have := joinF_len (l := l) (N := 207) (fun x hx => by have := shF_len x; have := hn x hx; omega)
    omega
theorem readS_back {l : List Fd} (h : chkF l = true) (hn : ∀ x ∈ l, x.n.size ≤ 200) (b : ByteArray) : readS (textS l ++ b) = .ok (l, b) := by
  have hm : manyE rfX rfR rfE (textS l ++ b) = .ok (l, b) := by
    refine many_read (enc := encF) (fun x hx s r hs => rf_read (itF_may (chk_may h x hx) (by have := hn x hx; omega)) hs) (chk_len h) ?_
    unfold textS
    rw [if_pos h, ba_append, itS_flat]
  unfold readS
  rw [hm]
  dsimp only
  rw [if_pos h]
theorem readA_back {l : List At} (h : chkA l = true) (hn : ∀ x ∈ l, x.n.size ≤ 200) (b : ByteArray) : readA (textA l ++ b) = .ok (l, b) := by
  have hm : manyE raX raR raE (textA l ++ b) = .ok (l, b) := by
    refine many_read (enc := encA) (fun x hx s r hs => ra_read (may4S (by have := hn x hx; omega)) (chkA_ok h x hx).2 hs) (chkA_len h) ?_
    unfold textA
    rw [if_pos h, ba_append]
  unfold readA
  rw [hm]
  dsimp only
  rw [if_pos h]
theorem flat_le {α : Type} {f : α → List UInt8} {N : Nat} : ∀ l : List α, (∀ x ∈ l, (f x).length ≤ N) → (l.flatMap f).length ≤ l.length * N
  | [], _ => by simp
  | x :: l, h => by
    have h1 := h x (by simp)
    have h2 := flat_le l (fun y hy => h y (by simp [hy]))
    rw [List.flatMap_cons, List.length_append, List.length_cons, Nat.add_mul]
    omega
theorem ba_size' (l : List UInt8) : (⟨l.toArray⟩ : ByteArray).size = l.length := by simp [ByteArray.size]
theorem textS_size {l : List Fd} (h : chkF l = true) (hn : ∀ x ∈ l, x.n.size ≤ 200) : (textS l).size ≤ 100000 := by
  have h24 := chk_len h
  unfold textS
  rw [if_pos h, ba_size', itS_flat, List.length_append]
  have h1 := numL8 l.length
  have h2 := flat_le (f := encF) (N := 300) l (fun x hx => by
    have hx := hn x hx
    unfold encF itF
    simp only [List.flatMap_cons, List.flatMap_nil, List.append_nil, List.length_append]
    rw [Q.itB_4 (by decide) (by decide) (by decide), Q.itB_1 (by decide), Q.itB_3 (by decide) (by decide) (by decide)]
    have a1 := numL8 x.n.size
    have a2 := numL8 x.k
    have a3 : x.n.data.toList.length = x.n.size := by simp
    rw [List.length_append, List.length_singleton]
    omega)
  omega
theorem itB_small (k n : Int) (s : ByteArray) : (Q.itB ⟨k, n, s⟩).length ≤ 8 + s.size := by
  have a3 : s.data.toList.length = s.size := by simp
  unfold Q.itB
  split
  · have := numL8 n; dsimp only; omega
  split
  · have := numL8 (Q.zig n); dsimp only; omega
  split
  · simp; omega
  · have := numL8 s.size; dsimp only; rw [List.length_append]; omega
theorem textA_size {l : List At} (h : chkA l = true) (hn : ∀ x ∈ l, x.n.size ≤ 200 ∧ x.s.size ≤ 500) : (textA l).size ≤ 100000 := by
  have h24 := chkA_len h
  unfold textA
  rw [if_pos h, ba_size', List.length_append]
  have h1 := numL8 l.length
  have h2 := flat_le (f := encA) (N := 800) l (fun x hx => by
    have hc := (chkA_ok h x hx).2
    have hx := hn x hx
    unfold encA
    rw [List.length_append]
    have a1 := itB_small 4 0 x.n
    unfold V.txtV
    rw [if_pos hc, V.txt_list, List.length_append]
    have a2 := numL8 x.k
    have a3 := itB_small (V.itm x.k) x.v x.s
    omega)
  omega
theorem few_names {l : List Fd} (h : fewF l = true) : (∀ x ∈ l, x.n.size ≤ 200) ∧ l.length ≤ 41 := by
  have h := of_decide_eq_true h
  refine ⟨fun x hx => ?_, ?_⟩
  · obtain ⟨i, hi, rfl⟩ := List.mem_iff_getElem.1 hx
    exact (h i hi).2
  · by_cases h0 : l.length ≤ 41
    · exact h0
    · have := (h 41 (by omega)).1
      omega
theorem few_attrs {l : List At} (h : fewA l = true) : (∀ x ∈ l, x.n.size ≤ 200 ∧ x.s.size ≤ 500) ∧ l.length ≤ 41 := by
  have h := of_decide_eq_true h
  refine ⟨fun x hx => ?_, ?_⟩
  · obtain ⟨i, hi, rfl⟩ := List.mem_iff_getElem.1 hx
    exact (h i hi).2
  · by_cases h0 : l.length ≤ 41
    · exact h0
    · have := (h 41 (by omega)).1
      omega
def RwF2 (l : List Fd) (w : World) (e : Ending) (w' : World) : Prop := ∃ a c, e = .returned (.tuple #[.slice a l.length c, .int .i64 0]) ∧ IsRow w' 3 (.slice a l.length c) l.length (fCells l) ∧ Below w.heap.size w w'
def RwF3 (l : List Fd) (b : ByteArray) (w : World) (e : Ending) (w' : World) : Prop := ∃ a c, e = .returned (.tuple #[.slice a l.length c, .string b, .int .i64 0]) ∧ IsRow w' 3 (.slice a l.length c) l.length (fCells l) ∧ Below w.heap.size w w'
def RwA3 (l : List At) (b : ByteArray) (w : World) (e : Ending) (w' : World) : Prop := ∃ a c, e = .returned (.tuple #[.slice a l.length c, .string b, .int .i64 0]) ∧ IsRow w' 4 (.slice a l.length c) l.length (aCells l) ∧ Below w.heap.size w w'
def RwF1 (l : List Fd) (w : World) (e : Ending) (w' : World) : Prop := ∃ a c, e = .returned (.slice a l.length c) ∧ IsRow w' 3 (.slice a l.length c) l.length (fCells l) ∧ Below w.heap.size w w'
def RwA1 (l : List At) (w : World) (e : Ending) (w' : World) : Prop := ∃ a c, e = .returned (.slice a l.length c) ∧ IsRow w' 4 (.slice a l.length c) l.length (aCells l) ∧ Below w.heap.size w w'
/-- What the calls say, of fields that are a schema. -/
structure BkF (l : List Fd) (b : ByteArray) (SH TX : ByteArray) (v : Value) (w : World) : Prop where
  sh : ∀ W, Below w.heap.size w W → Calls Tryz.prog 10 #[v] W fun e W' => e = .returned (.string SH) ∧ Below W.heap.size W W'
  ps : ∀ W, Below w.heap.size w W → Calls Tryz.prog 9 #[.string SH] W fun e W' => RwF2 l W e W'
  tx : ∀ W, Below w.heap.size w W → Calls Tryz.prog 12 #[v] W fun e W' => e = .returned (.string TX) ∧ Below W.heap.size W W'
  rd : ∀ W, Below w.heap.size w W → Calls Tryz.prog 11 #[.string (TX ++ b)] W fun e W' => RwF3 l b W e W'
  rf : ∀ W u, Below w.heap.size w W → IsRow W 3 u l.length (fCells l) → Calls Tryz.prog 14 #[u] W fun e W' => RwF1 l W e W'
  sm : ∀ W u y, Below w.heap.size w W → IsRow W 3 u l.length (fCells l) → IsRow W 3 y l.length (fCells l) → Calls Tryz.prog 13 #[u, y] W fun e W' => e = .returned (.bool true) ∧ Below W.heap.size W W'
  sz : ¬ 9223372036854775807 < TX.size + b.size
theorem bkF {l : List Fd} {b : ByteArray} {v : Value} {w : World} (hr : IsRow w 3 v l.length (fCells l)) (hc : chkF l = true) (hn : ∀ x ∈ l, x.n.size ≤ 200) (hb : b.size ≤ 500) (h5 : W5 w) : BkF l b (str (showL l)) (textS l) v w := by
  have h24 := chk_len hc
  have hts := textS_size hc hn
  refine ⟨fun W hW => ?_, fun W hW => ?_, fun W hW => ?_, fun W hW => ?_, fun W u hW hu => ?_, fun W u y hW hu hy => ?_, by omega⟩
  · exact showS_any v l W (hr.below hW) (by omega) (fun x hx => by have := hn x hx; omega) (h5.below hW).w
  · refine (parse_any _ W (show_size hc hn) (h5.below hW).w.t (h5.below hW).w.m (h5.below hW).w.k).mono ?_
    rintro e W' ⟨v', rfl, hrow, hbl⟩
    rw [parse_back hc] at hrow
    obtain ⟨a, c, rfl⟩ := hrow.form
    exact ⟨a, c, by rw [parse_back hc], hrow, hbl⟩
  · exact textS_any v l W (hr.below hW) (by omega) (fun x hx => by have := hn x hx; omega) (h5.below hW).w (h5.below hW).q
  · refine (readF_any _ W (by rw [ByteArray.size_append]; omega) (h5.below hW).w).mono ?_
    intro e W' hp
    rw [readS_back hc hn b] at hp
    obtain ⟨v', rfl, hrow, hbl⟩ := hp
    obtain ⟨a, c, rfl⟩ := hrow.form
    exact ⟨a, c, rfl, hrow, hbl⟩
  · refine (refs_any u l W hu (by omega)).mono ?_
    rintro e W' ⟨v', rfl, hrow, hbl⟩
    obtain ⟨a, c, rfl⟩ := hrow.form
    exact ⟨a, c, rfl, hrow, hbl⟩
  · refine (refSame_any u y l l W hu hy (by omega) (by omega)).mono ?_
    rintro e W' ⟨rfl, hbl⟩
    exact ⟨by rw [(sameR_iff l l).2 rfl], hbl⟩
structure BkA (l : List At) (b : ByteArray) (TX : ByteArray) (v : Value) (w : World) : Prop where
  tx : ∀ W, Below w.heap.size w W → Calls Tryz.prog 16 #[v] W fun e W' => e = .returned (.string TX) ∧ Below W.heap.size W W'
  rd : ∀ W, Below w.heap.size w W → Calls Tryz.prog 17 #[.string (TX ++ b)] W fun e W' => RwA3 l b W e W'
  rf : ∀ W u, Below w.heap.size w W → IsRow W 4 u l.length (aCells l) → Calls Tryz.prog 19 #[u] W fun e W' => RwA1 l W e W'
  sm : ∀ W u y, Below w.heap.size w W → IsRow W 4 u l.length (aCells l) → IsRow W 4 y l.length (aCells l) → Calls Tryz.prog 18 #[u, y] W fun e W' => e = .returned (.bool true) ∧ Below W.heap.size W W'
  sz : ¬ 9223372036854775807 < TX.size + b.size
theorem bkA {l : List At} {b : ByteArray} {v : Value} {w : World} (hr : IsRow w 4 v l.length (aCells l)) (hc : chkA l = true) (hn : ∀ x ∈ l, x.n.size ≤ 200 ∧ x.s.size ≤ 500) (hb : b.size ≤ 500) (h5 : W5 w) : BkA l b (textA l) v w := by
  have h24 := chkA_len hc
  have hts := textA_size hc hn
  refine ⟨fun W hW => ?_, fun W hW => ?_, fun W u hW hu => ?_, fun W u y hW hu hy => ?_, by omega⟩
  · exact textA_any v l W (hr.below hW) (by omega) (fun x hx => by have := hn x hx; omega) (h5.below hW).w (h5.below hW).q
  · refine (readA_any _ W (by rw [ByteArray.size_append]; omega) (h5.below hW).w).mono ?_
    intro e W' hp
    rw [readA_back hc (fun x hx => (hn x hx).1) b] at hp
    obtain ⟨v', rfl, hrow, hbl⟩ := hp
    obtain ⟨a, c, rfl⟩ := hrow.form
    exact ⟨a, c, rfl, hrow, hbl⟩
  · refine (attrsR_any u l W hu (by omega)).mono ?_
    rintro e W' ⟨v', rfl, hrow, hbl⟩
    obtain ⟨a, c, rfl⟩ := hrow.form
    exact ⟨a, c, rfl, hrow, hbl⟩
  · exact refSameA_eq u y l W hu hy (by omega)
theorem textA_none {l : List At} (h : chkA l = false) : textA l = e0S := if_neg (by rw [h]; decide)
set_option maxRecDepth 100000 in
set_option maxHeartbeats 4000000 in
theorem back_tt (v : Value) (l : List Fd) (u : Value) (a : List At) (b : ByteArray) (w : World) (hr : IsRow w 3 v l.length (fCells l)) (hra : IsRow w 4 u a.length (aCells a)) (hl : l.length ≤ 140737488355328) (hla : a.length ≤ 140737488355328) (h : W5 w) (hf : fewF l = true) (hg : fewA a = true) (hb : b.size ≤ 500) (hc : chkF l = true) (hd : chkA a = true) :
    Calls Tryz.prog 3 #[v, u, .string b] w fun e w' => e = .returned (.bool true) ∧ Below w.heap.size w w' := by
  obtain ⟨hn, h41⟩ := few_names hf
  obtain ⟨hna, h41a⟩ := few_attrs hg
  have HAw : Hid (∀ W, Below w.heap.size w W → Calls Tryz.prog 7 #[] W fun e W' => e = .returned (.bool true) ∧ Below W.heap.size W W') := fun W hW => awake4_any W (h.below hW).w
  have HFw : Hid (Calls Tryz.prog 5 #[v] w fun e w' => e = .returned (.bool true) ∧ w' = w) := by
    have := fewF_any v l w hr hl
    rw [hf] at this
    exact this
  have HFa : Hid (Calls Tryz.prog 6 #[u] w fun e w' => e = .returned (.bool true) ∧ w' = w) := by
    have := fewA_any u a w hra hla
    rw [hg] at this
    exact this
  have HCk : Hid (Calls Tryz.prog 8 #[v] w fun e w' => e = .returned (.bool true) ∧ Below w.heap.size w w') := by
    have := checkF_any v l w hr (by omega) (fun x hx => by have := hn x hx; omega) h.w.t h.w.m
    rw [hc] at this
    exact this
  have HCa : Hid (∀ W, Below w.heap.size w W → Calls Tryz.prog 15 #[u] W fun e w' => e = .returned (.bool true) ∧ Below W.heap.size W w') := fun W hW => by
    have := attrs_any u a W (hra.below hW) (by omega) (fun x hx => by have := hna x hx; omega) (h.below hW).w.t (h.below hW).w.m
    rw [hd] at this
    exact this
  obtain ⟨SH, TX, hKF⟩ : ∃ SH TX, BkF l b SH TX v w := ⟨_, _, bkF hr hc hn hb h⟩
  have KF : Hid (BkF l b SH TX v w) := hKF
  have z1 := hKF.sz
  clear hKF
  obtain ⟨TA, hKA⟩ : ∃ TA, BkA a b TA u w := ⟨_, bkA hra hd hna hb h⟩
  have KA : Hid (BkA a b TA u w) := hKA
  have z2 := hKA.sz
  clear hKA
  have HRv : Hid (∀ W, Below w.heap.size w W → IsRow W 3 v l.length (fCells l)) := fun W hW => hr.below hW
  have HRu : Hid (∀ W, Below w.heap.size w W → IsRow W 4 u a.length (aCells a)) := fun W hW => hra.below hW
  have d5 : decide ((500 : Int) < (b.size : Int)) = false := by simp; omega
  obtain ⟨av, cv, rfl⟩ := hr.form
  obtain ⟨au, cu, rfl⟩ := hra.form
  clear hr hra hl hla h hf hg hc hd hn hna hb
  go_enter Tryz.func3, Tryz.ntmps3
  go_wp2_with fail
  refine HFw.out.mono ?_
  rintro e w0 ⟨rfl, he0⟩
  obtain rfl := he0.symm
  go_wp2_with fail
  refine HFa.out.mono ?_
  rintro e w00 ⟨rfl, he0⟩
  obtain rfl := he0.symm
  clear HFw HFa
  go_wp2_with fail
  refine HCk.out.mono ?_
  rintro e w1 ⟨rfl, hb1⟩
  have HB1 : Hid (Below w.heap.size w w1) := hb1
  clear hb1 HCk
  go_wp2_with fail
  refine (KF.out.sh w1 HB1.out).mono ?_
  rintro e w2 ⟨rfl, hb2⟩
  have HB2 : Hid (Below w.heap.size w w2) := HB1.out.trans (hb2.mono HB1.out.size)
  clear hb2
  go_wp2_with fail
  refine (KF.out.ps w2 HB2.out).mono ?_
  rintro e w3 ⟨am, cm, rfl, hrow, hb3⟩
  have HB3 : Hid (Below w.heap.size w w3) := HB2.out.trans (hb3.mono HB2.out.size)
  have RM3 : Hid (IsRow w3 3 (.slice am l.length cm) l.length (fCells l)) := hrow
  clear hb3 hrow
  go_wp2_with fail
  refine (KF.out.tx w3 HB3.out).mono ?_
  rintro e w4 ⟨rfl, hb4⟩
  have HB4 : Hid (Below w.heap.size w w4) := HB3.out.trans (hb4.mono HB3.out.size)
  have RM4 : Hid (IsRow w4 3 (.slice am l.length cm) l.length (fCells l)) := RM3.out.below hb4
  clear hb4
  go_wp2_with fail
  refine (KF.out.rd w4 HB4.out).mono ?_
  rintro e w5 ⟨an, cn, rfl, hrow, hb5⟩
  have HB5 : Hid (Below w.heap.size w w5) := HB4.out.trans (hb5.mono HB4.out.size)
  have RM5 : Hid (IsRow w5 3 (.slice am l.length cm) l.length (fCells l)) := RM4.out.below hb5
  have RN5 : Hid (IsRow w5 3 (.slice an l.length cn) l.length (fCells l)) := hrow
  clear hb5 hrow
  go_wp2_with fail
  refine (KF.out.rf w5 _ HB5.out RM5.out).mono ?_
  rintro e w6 ⟨ap, cp, rfl, hrow, hb6⟩
  have HB6 : Hid (Below w.heap.size w w6) := HB5.out.trans (hb6.mono HB5.out.size)
  have RM6 : Hid (IsRow w6 3 (.slice am l.length cm) l.length (fCells l)) := RM5.out.below hb6
  have RN6 : Hid (IsRow w6 3 (.slice an l.length cn) l.length (fCells l)) := RN5.out.below hb6
  have RX6 : Hid (IsRow w6 3 (.slice ap l.length cp) l.length (fCells l)) := hrow
  clear hb6 hrow
  go_wp2_with fail
  refine (KF.out.rf w6 _ HB6.out (HRv.out w6 HB6.out)).mono ?_
  rintro e w7 ⟨aq, cq, rfl, hrow, hb7⟩
  have HB7 : Hid (Below w.heap.size w w7) := HB6.out.trans (hb7.mono HB6.out.size)
  have RM7 : Hid (IsRow w7 3 (.slice am l.length cm) l.length (fCells l)) := RM6.out.below hb7
  have RN7 : Hid (IsRow w7 3 (.slice an l.length cn) l.length (fCells l)) := RN6.out.below hb7
  have RX7 : Hid (IsRow w7 3 (.slice ap l.length cp) l.length (fCells l)) := RX6.out.below hb7
  have RY7 : Hid (IsRow w7 3 (.slice aq l.length cq) l.length (fCells l)) := hrow
  clear hb7 hrow
  go_wp2_with fail
  refine (KF.out.sm w7 _ _ HB7.out RX7.out RY7.out).mono ?_
  rintro e w8 ⟨rfl, hb8⟩
  have HB8 : Hid (Below w.heap.size w w8) := HB7.out.trans (hb8.mono HB7.out.size)
  have RM8 : Hid (IsRow w8 3 (.slice am l.length cm) l.length (fCells l)) := RM7.out.below hb8
  have RN8 : Hid (IsRow w8 3 (.slice an l.length cn) l.length (fCells l)) := RN7.out.below hb8
  clear hb8
  go_wp2_with fail
  refine (KF.out.rf w8 _ HB8.out RN8.out).mono ?_
  rintro e w9 ⟨ar, cr, rfl, hrow, hb9⟩
  have HB9 : Hid (Below w.heap.size w w9) := HB8.out.trans (hb9.mono HB8.out.size)
  have RM9 : Hid (IsRow w9 3 (.slice am l.length cm) l.length (fCells l)) := RM8.out.below hb9
  have RN9 : Hid (IsRow w9 3 (.slice an l.length cn) l.length (fCells l)) := RN8.out.below hb9
  have RX9 : Hid (IsRow w9 3 (.slice ar l.length cr) l.length (fCells l)) := hrow
  clear hb9 hrow
  go_wp2_with fail
  refine (KF.out.rf w9 _ HB9.out (HRv.out w9 HB9.out)).mono ?_
  rintro e w10 ⟨ah, ch, rfl, hrow, hb10⟩
  have HB10 : Hid (Below w.heap.size w w10) := HB9.out.trans (hb10.mono HB9.out.size)
  have RM10 : Hid (IsRow w10 3 (.slice am l.length cm) l.length (fCells l)) := RM9.out.below hb10
  have RN10 : Hid (IsRow w10 3 (.slice an l.length cn) l.length (fCells l)) := RN9.out.below hb10
  have RX10 : Hid (IsRow w10 3 (.slice ar l.length cr) l.length (fCells l)) := RX9.out.below hb10
  have RY10 : Hid (IsRow w10 3 (.slice ah l.length ch) l.length (fCells l)) := hrow
  clear hb10 hrow
  go_wp2_with fail
  refine (KF.out.sm w10 _ _ HB10.out RX10.out RY10.out).mono ?_
  rintro e w11 ⟨rfl, hb11⟩
  have HB11 : Hid (Below w.heap.size w w11) := HB10.out.trans (hb11.mono HB10.out.size)
  have RM11 : Hid (IsRow w11 3 (.slice am l.length cm) l.length (fCells l)) := RM10.out.below hb11
  have RN11 : Hid (IsRow w11 3 (.slice an l.length cn) l.length (fCells l)) := RN10.out.below hb11
  clear hb11
  go_wp2_with fail
  refine (HCa.out w11 HB11.out).mono ?_
  rintro e w12 ⟨rfl, hb12⟩
  have HB12 : Hid (Below w.heap.size w w12) := HB11.out.trans (hb12.mono HB11.out.size)
  clear hb12
  go_wp2_with fail
  refine (KA.out.tx w12 HB12.out).mono ?_
  rintro e w13 ⟨rfl, hb13⟩
  have HB13 : Hid (Below w.heap.size w w13) := HB12.out.trans (hb13.mono HB12.out.size)
  clear hb13
  go_wp2_with fail
  refine (KA.out.rd w13 HB13.out).mono ?_
  rintro e w14 ⟨ab, cb, rfl, hrow, hb14⟩
  have HB14 : Hid (Below w.heap.size w w14) := HB13.out.trans (hb14.mono HB13.out.size)
  have RB14 : Hid (IsRow w14 4 (.slice ab a.length cb) a.length (aCells a)) := hrow
  clear hb14 hrow
  go_wp2_with fail
  refine (HAw.out w14 HB14.out).mono ?_
  rintro e w15 ⟨rfl, hb15⟩
  have HB15 : Hid (Below w.heap.size w w15) := HB14.out.trans (hb15.mono HB14.out.size)
  have RB15 : Hid (IsRow w15 4 (.slice ab a.length cb) a.length (aCells a)) := RB14.out.below hb15
  clear hb15
  go_wp2_with fail
  refine (KA.out.rf w15 _ HB15.out RB15.out).mono ?_
  rintro e w16 ⟨ax, cx, rfl, hrow, hb16⟩
  have HB16 : Hid (Below w.heap.size w w16) := HB15.out.trans (hb16.mono HB15.out.size)
  have RX16 : Hid (IsRow w16 4 (.slice ax a.length cx) a.length (aCells a)) := hrow
  clear hb16 hrow
  go_wp2_with fail
  refine (KA.out.rf w16 _ HB16.out (HRu.out w16 HB16.out)).mono ?_
  rintro e w17 ⟨ay, cy, rfl, hrow, hb17⟩
  have HB17 : Hid (Below w.heap.size w w17) := HB16.out.trans (hb17.mono HB16.out.size)
  have RX17 : Hid (IsRow w17 4 (.slice ax a.length cx) a.length (aCells a)) := RX16.out.below hb17
  have RY17 : Hid (IsRow w17 4 (.slice ay a.length cy) a.length (aCells a)) := hrow
  clear hb17 hrow
  go_wp2_with fail
  refine (KA.out.sm w17 _ _ HB17.out RX17.out RY17.out).mono ?_
  rintro e w18 ⟨rfl, hb18⟩
  have HB18 : Hid (Below w.heap.size w w18) := HB17.out.trans (hb18.mono HB17.out.size)
  clear hb18
  go_wp2
  go_ret
  exact ⟨rfl, HB18.out⟩
set_option maxRecDepth 100000 in
set_option maxHeartbeats 4000000 in
theorem back_tf (v : Value) (l : List Fd) (u : Value) (a : List At) (b : ByteArray) (w : World) (hr : IsRow w 3 v l.length (fCells l)) (hra : IsRow w 4 u a.length (aCells a)) (hl : l.length ≤ 140737488355328) (hla : a.length ≤ 140737488355328) (h : W5 w) (hf : fewF l = true) (hg : fewA a = true) (hb : b.size ≤ 500) (hc : chkF l = true) (hd : chkA a = false) :
    Calls Tryz.prog 3 #[v, u, .string b] w fun e w' => e = .returned (.bool true) ∧ Below w.heap.size w w' := by
  obtain ⟨hn, h41⟩ := few_names hf
  obtain ⟨hna, h41a⟩ := few_attrs hg
  have HAw : Hid (∀ W, Below w.heap.size w W → Calls Tryz.prog 7 #[] W fun e W' => e = .returned (.bool true) ∧ Below W.heap.size W W') := fun W hW => awake4_any W (h.below hW).w
  have HFw : Hid (Calls Tryz.prog 5 #[v] w fun e w' => e = .returned (.bool true) ∧ w' = w) := by
    have := fewF_any v l w hr hl
    rw [hf] at this
    exact this
  have HFa : Hid (Calls Tryz.prog 6 #[u] w fun e w' => e = .returned (.bool true) ∧ w' = w) := by
    have := fewA_any u a w hra hla
    rw [hg] at this
    exact this
  have HCk : Hid (Calls Tryz.prog 8 #[v] w fun e w' => e = .returned (.bool true) ∧ Below w.heap.size w w') := by
    have := checkF_any v l w hr (by omega) (fun x hx => by have := hn x hx; omega) h.w.t h.w.m
    rw [hc] at this
    exact this
  have HCa : Hid (∀ W, Below w.heap.size w W → Calls Tryz.prog 15 #[u] W fun e w' => e = .returned (.bool false) ∧ Below W.heap.size W w') := fun W hW => by
    have := attrs_any u a W (hra.below hW) (by omega) (fun x hx => by have := hna x hx; omega) (h.below hW).w.t (h.below hW).w.m
    rw [hd] at this
    exact this
  obtain ⟨SH, TX, hKF⟩ : ∃ SH TX, BkF l b SH TX v w := ⟨_, _, bkF hr hc hn hb h⟩
  have KF : Hid (BkF l b SH TX v w) := hKF
  have z1 := hKF.sz
  clear hKF
  have KA0 : Hid (∀ W, Below w.heap.size w W → Calls Tryz.prog 16 #[u] W fun e W' => e = .returned (.string ⟨#[]⟩) ∧ Below W.heap.size W W') := fun W hW => by
    have := textA_any u a W (hra.below hW) (by omega) (fun x hx => by have := hna x hx; omega) (h.below hW).w (h.below hW).q
    rw [textA_none hd] at this
    exact this
  have HRv : Hid (∀ W, Below w.heap.size w W → IsRow W 3 v l.length (fCells l)) := fun W hW => hr.below hW
  have HRu : Hid (∀ W, Below w.heap.size w W → IsRow W 4 u a.length (aCells a)) := fun W hW => hra.below hW
  have d5 : decide ((500 : Int) < (b.size : Int)) = false := by simp; omega
  obtain ⟨av, cv, rfl⟩ := hr.form
  obtain ⟨au, cu, rfl⟩ := hra.form
  clear hr hra hl hla h hf hg hc hd hn hna hb
  go_enter Tryz.func3, Tryz.ntmps3
  go_wp2_with fail
  refine HFw.out.mono ?_
  rintro e w0 ⟨rfl, he0⟩
  obtain rfl := he0.symm
  go_wp2_with fail
  refine HFa.out.mono ?_
  rintro e w00 ⟨rfl, he0⟩
  obtain rfl := he0.symm
  clear HFw HFa
  go_wp2_with fail
  refine HCk.out.mono ?_
  rintro e w1 ⟨rfl, hb1⟩
  have HB1 : Hid (Below w.heap.size w w1) := hb1
  clear hb1 HCk
  go_wp2_with fail
  refine (KF.out.sh w1 HB1.out).mono ?_
  rintro e w2 ⟨rfl, hb2⟩
  have HB2 : Hid (Below w.heap.size w w2) := HB1.out.trans (hb2.mono HB1.out.size)
  clear hb2
  go_wp2_with fail
  refine (KF.out.ps w2 HB2.out).mono ?_
  rintro e w3 ⟨am, cm, rfl, hrow, hb3⟩
  have HB3 : Hid (Below w.heap.size w w3) := HB2.out.trans (hb3.mono HB2.out.size)
  have RM3 : Hid (IsRow w3 3 (.slice am l.length cm) l.length (fCells l)) := hrow
  clear hb3 hrow
  go_wp2_with fail
  refine (KF.out.tx w3 HB3.out).mono ?_
  rintro e w4 ⟨rfl, hb4⟩
  have HB4 : Hid (Below w.heap.size w w4) := HB3.out.trans (hb4.mono HB3.out.size)
  have RM4 : Hid (IsRow w4 3 (.slice am l.length cm) l.length (fCells l)) := RM3.out.below hb4
  clear hb4
  go_wp2_with fail
  refine (KF.out.rd w4 HB4.out).mono ?_
  rintro e w5 ⟨an, cn, rfl, hrow, hb5⟩
  have HB5 : Hid (Below w.heap.size w w5) := HB4.out.trans (hb5.mono HB4.out.size)
  have RM5 : Hid (IsRow w5 3 (.slice am l.length cm) l.length (fCells l)) := RM4.out.below hb5
  have RN5 : Hid (IsRow w5 3 (.slice an l.length cn) l.length (fCells l)) := hrow
  clear hb5 hrow
  go_wp2_with fail
  refine (KF.out.rf w5 _ HB5.out RM5.out).mono ?_
  rintro e w6 ⟨ap, cp, rfl, hrow, hb6⟩
  have HB6 : Hid (Below w.heap.size w w6) := HB5.out.trans (hb6.mono HB5.out.size)
  have RM6 : Hid (IsRow w6 3 (.slice am l.length cm) l.length (fCells l)) := RM5.out.below hb6
  have RN6 : Hid (IsRow w6 3 (.slice an l.length cn) l.length (fCells l)) := RN5.out.below hb6
  have RX6 : Hid (IsRow w6 3 (.slice ap l.length cp) l.length (fCells l)) := hrow
  clear hb6 hrow
  go_wp2_with fail
  refine (KF.out.rf w6 _ HB6.out (HRv.out w6 HB6.out)).mono ?_
  rintro e w7 ⟨aq, cq, rfl, hrow, hb7⟩
  have HB7 : Hid (Below w.heap.size w w7) := HB6.out.trans (hb7.mono HB6.out.size)
  have RM7 : Hid (IsRow w7 3 (.slice am l.length cm) l.length (fCells l)) := RM6.out.below hb7
  have RN7 : Hid (IsRow w7 3 (.slice an l.length cn) l.length (fCells l)) := RN6.out.below hb7
  have RX7 : Hid (IsRow w7 3 (.slice ap l.length cp) l.length (fCells l)) := RX6.out.below hb7
  have RY7 : Hid (IsRow w7 3 (.slice aq l.length cq) l.length (fCells l)) := hrow
  clear hb7 hrow
  go_wp2_with fail
  refine (KF.out.sm w7 _ _ HB7.out RX7.out RY7.out).mono ?_
  rintro e w8 ⟨rfl, hb8⟩
  have HB8 : Hid (Below w.heap.size w w8) := HB7.out.trans (hb8.mono HB7.out.size)
  have RM8 : Hid (IsRow w8 3 (.slice am l.length cm) l.length (fCells l)) := RM7.out.below hb8
  have RN8 : Hid (IsRow w8 3 (.slice an l.length cn) l.length (fCells l)) := RN7.out.below hb8
  clear hb8
  go_wp2_with fail
  refine (KF.out.rf w8 _ HB8.out RN8.out).mono ?_
  rintro e w9 ⟨ar, cr, rfl, hrow, hb9⟩
  have HB9 : Hid (Below w.heap.size w w9) := HB8.out.trans (hb9.mono HB8.out.size)
  have RM9 : Hid (IsRow w9 3 (.slice am l.length cm) l.length (fCells l)) := RM8.out.below hb9
  have RN9 : Hid (IsRow w9 3 (.slice an l.length cn) l.length (fCells l)) := RN8.out.below hb9
  have RX9 : Hid (IsRow w9 3 (.slice ar l.length cr) l.length (fCells l)) := hrow
  clear hb9 hrow
  go_wp2_with fail
  refine (KF.out.rf w9 _ HB9.out (HRv.out w9 HB9.out)).mono ?_
  rintro e w10 ⟨ah, ch, rfl, hrow, hb10⟩
  have HB10 : Hid (Below w.heap.size w w10) := HB9.out.trans (hb10.mono HB9.out.size)
  have RM10 : Hid (IsRow w10 3 (.slice am l.length cm) l.length (fCells l)) := RM9.out.below hb10
  have RN10 : Hid (IsRow w10 3 (.slice an l.length cn) l.length (fCells l)) := RN9.out.below hb10
  have RX10 : Hid (IsRow w10 3 (.slice ar l.length cr) l.length (fCells l)) := RX9.out.below hb10
  have RY10 : Hid (IsRow w10 3 (.slice ah l.length ch) l.length (fCells l)) := hrow
  clear hb10 hrow
  go_wp2_with fail
  refine (KF.out.sm w10 _ _ HB10.out RX10.out RY10.out).mono ?_
  rintro e w11 ⟨rfl, hb11⟩
  have HB11 : Hid (Below w.heap.size w w11) := HB10.out.trans (hb11.mono HB10.out.size)
  have RM11 : Hid (IsRow w11 3 (.slice am l.length cm) l.length (fCells l)) := RM10.out.below hb11
  have RN11 : Hid (IsRow w11 3 (.slice an l.length cn) l.length (fCells l)) := RN10.out.below hb11
  clear hb11
  go_wp2_with fail
  refine (HCa.out w11 HB11.out).mono ?_
  rintro e w12 ⟨rfl, hb12⟩
  have HB12 : Hid (Below w.heap.size w w12) := HB11.out.trans (hb12.mono HB11.out.size)
  clear hb12
  go_wp2_with fail
  refine (HAw.out w12 HB12.out).mono ?_
  rintro e w13 ⟨rfl, hb13⟩
  have HB13 : Hid (Below w.heap.size w w13) := HB12.out.trans (hb13.mono HB12.out.size)
  clear hb13
  go_wp2_with fail
  refine (KA0.out w13 HB13.out).mono ?_
  rintro e w14 ⟨rfl, hb14⟩
  have HB14 : Hid (Below w.heap.size w w14) := HB13.out.trans (hb14.mono HB13.out.size)
  clear hb14
  go_wp2
  go_ret
  exact ⟨rfl, HB14.out⟩
set_option maxRecDepth 100000 in
set_option maxHeartbeats 4000000 in
theorem back_ft (v : Value) (l : List Fd) (u : Value) (a : List At) (b : ByteArray) (w : World) (hr : IsRow w 3 v l.length (fCells l)) (hra : IsRow w 4 u a.length (aCells a)) (hl : l.length ≤ 140737488355328) (hla : a.length ≤ 140737488355328) (h : W5 w) (hf : fewF l = true) (hg : fewA a = true) (hb : b.size ≤ 500) (hc : chkF l = false) (hd : chkA a = true) :
    Calls Tryz.prog 3 #[v, u, .string b] w fun e w' => e = .returned (.bool true) ∧ Below w.heap.size w w' := by
  obtain ⟨hn, h41⟩ := few_names hf
  obtain ⟨hna, h41a⟩ := few_attrs hg
  have HAw : Hid (∀ W, Below w.heap.size w W → Calls Tryz.prog 7 #[] W fun e W' => e = .returned (.bool true) ∧ Below W.heap.size W W') := fun W hW => awake4_any W (h.below hW).w
  have HFw : Hid (Calls Tryz.prog 5 #[v] w fun e w' => e = .returned (.bool true) ∧ w' = w) := by
    have := fewF_any v l w hr hl
    rw [hf] at this
    exact this
  have HFa : Hid (Calls Tryz.prog 6 #[u] w fun e w' => e = .returned (.bool true) ∧ w' = w) := by
    have := fewA_any u a w hra hla
    rw [hg] at this
    exact this
  have HCk : Hid (Calls Tryz.prog 8 #[v] w fun e w' => e = .returned (.bool false) ∧ Below w.heap.size w w') := by
    have := checkF_any v l w hr (by omega) (fun x hx => by have := hn x hx; omega) h.w.t h.w.m
    rw [hc] at this
    exact this
  have HCa : Hid (∀ W, Below w.heap.size w W → Calls Tryz.prog 15 #[u] W fun e w' => e = .returned (.bool true) ∧ Below W.heap.size W w') := fun W hW => by
    have := attrs_any u a W (hra.below hW) (by omega) (fun x hx => by have := hna x hx; omega) (h.below hW).w.t (h.below hW).w.m
    rw [hd] at this
    exact this
  obtain ⟨TA, hKA⟩ : ∃ TA, BkA a b TA u w := ⟨_, bkA hra hd hna hb h⟩
  have KA : Hid (BkA a b TA u w) := hKA
  have z2 := hKA.sz
  clear hKA
  have HRv : Hid (∀ W, Below w.heap.size w W → IsRow W 3 v l.length (fCells l)) := fun W hW => hr.below hW
  have HRu : Hid (∀ W, Below w.heap.size w W → IsRow W 4 u a.length (aCells a)) := fun W hW => hra.below hW
  have d5 : decide ((500 : Int) < (b.size : Int)) = false := by simp; omega
  obtain ⟨av, cv, rfl⟩ := hr.form
  obtain ⟨au, cu, rfl⟩ := hra.form
  clear hr hra hl hla h hf hg hc hd hn hna hb
  go_enter Tryz.func3, Tryz.ntmps3
  go_wp2_with fail
  refine HFw.out.mono ?_
  rintro e w0 ⟨rfl, he0⟩
  obtain rfl := he0.symm
  go_wp2_with fail
  refine HFa.out.mono ?_
  rintro e w00 ⟨rfl, he0⟩
  obtain rfl := he0.symm
  clear HFw HFa
  go_wp2_with fail
  refine HCk.out.mono ?_
  rintro e w1 ⟨rfl, hb1⟩
  have HB1 : Hid (Below w.heap.size w w1) := hb1
  clear hb1 HCk
  go_wp2_with fail
  refine (HCa.out w1 HB1.out).mono ?_
  rintro e w2 ⟨rfl, hb2⟩
  have HB2 : Hid (Below w.heap.size w w2) := HB1.out.trans (hb2.mono HB1.out.size)
  clear hb2
  go_wp2_with fail
  refine (KA.out.tx w2 HB2.out).mono ?_
  rintro e w3 ⟨rfl, hb3⟩
  have HB3 : Hid (Below w.heap.size w w3) := HB2.out.trans (hb3.mono HB2.out.size)
  clear hb3
  go_wp2_with fail
  refine (KA.out.rd w3 HB3.out).mono ?_
  rintro e w4 ⟨ab, cb, rfl, hrow, hb4⟩
  have HB4 : Hid (Below w.heap.size w w4) := HB3.out.trans (hb4.mono HB3.out.size)
  have RB4 : Hid (IsRow w4 4 (.slice ab a.length cb) a.length (aCells a)) := hrow
  clear hb4 hrow
  go_wp2_with fail
  refine (HAw.out w4 HB4.out).mono ?_
  rintro e w5 ⟨rfl, hb5⟩
  have HB5 : Hid (Below w.heap.size w w5) := HB4.out.trans (hb5.mono HB4.out.size)
  have RB5 : Hid (IsRow w5 4 (.slice ab a.length cb) a.length (aCells a)) := RB4.out.below hb5
  clear hb5
  go_wp2_with fail
  refine (KA.out.rf w5 _ HB5.out RB5.out).mono ?_
  rintro e w6 ⟨ax, cx, rfl, hrow, hb6⟩
  have HB6 : Hid (Below w.heap.size w w6) := HB5.out.trans (hb6.mono HB5.out.size)
  have RX6 : Hid (IsRow w6 4 (.slice ax a.length cx) a.length (aCells a)) := hrow
  clear hb6 hrow
  go_wp2_with fail
  refine (KA.out.rf w6 _ HB6.out (HRu.out w6 HB6.out)).mono ?_
  rintro e w7 ⟨ay, cy, rfl, hrow, hb7⟩
  have HB7 : Hid (Below w.heap.size w w7) := HB6.out.trans (hb7.mono HB6.out.size)
  have RX7 : Hid (IsRow w7 4 (.slice ax a.length cx) a.length (aCells a)) := RX6.out.below hb7
  have RY7 : Hid (IsRow w7 4 (.slice ay a.length cy) a.length (aCells a)) := hrow
  clear hb7 hrow
  go_wp2_with fail
  refine (KA.out.sm w7 _ _ HB7.out RX7.out RY7.out).mono ?_
  rintro e w8 ⟨rfl, hb8⟩
  have HB8 : Hid (Below w.heap.size w w8) := HB7.out.trans (hb8.mono HB7.out.size)
  clear hb8
  go_wp2
  go_ret
  exact ⟨rfl, HB8.out⟩
set_option maxRecDepth 100000 in
set_option maxHeartbeats 4000000 in
theorem back_ff (v : Value) (l : List Fd) (u : Value) (a : List At) (b : ByteArray) (w : World) (hr : IsRow w 3 v l.length (fCells l)) (hra : IsRow w 4 u a.length (aCells a)) (hl : l.length ≤ 140737488355328) (hla : a.length ≤ 140737488355328) (h : W5 w) (hf : fewF l = true) (hg : fewA a = true) (hb : b.size ≤ 500) (hc : chkF l = false) (hd : chkA a = false) :
    Calls Tryz.prog 3 #[v, u, .string b] w fun e w' => e = .returned (.bool true) ∧ Below w.heap.size w w' := by
  obtain ⟨hn, h41⟩ := few_names hf
  obtain ⟨hna, h41a⟩ := few_attrs hg
  have HAw : Hid (∀ W, Below w.heap.size w W → Calls Tryz.prog 7 #[] W fun e W' => e = .returned (.bool true) ∧ Below W.heap.size W W') := fun W hW => awake4_any W (h.below hW).w
  have HFw : Hid (Calls Tryz.prog 5 #[v] w fun e w' => e = .returned (.bool true) ∧ w' = w) := by
    have := fewF_any v l w hr hl
    rw [hf] at this
    exact this
  have HFa : Hid (Calls Tryz.prog 6 #[u] w fun e w' => e = .returned (.bool true) ∧ w' = w) := by
    have := fewA_any u a w hra hla
    rw [hg] at this
    exact this
  have HCk : Hid (Calls Tryz.prog 8 #[v] w fun e w' => e = .returned (.bool false) ∧ Below w.heap.size w w') := by
    have := checkF_any v l w hr (by omega) (fun x hx => by have := hn x hx; omega) h.w.t h.w.m
    rw [hc] at this
    exact this
  have HCa : Hid (∀ W, Below w.heap.size w W → Calls Tryz.prog 15 #[u] W fun e w' => e = .returned (.bool false) ∧ Below W.heap.size W w') := fun W hW => by
    have := attrs_any u a W (hra.below hW) (by omega) (fun x hx => by have := hna x hx; omega) (h.below hW).w.t (h.below hW).w.m
    rw [hd] at this
    exact this
  have KA0 : Hid (∀ W, Below w.heap.size w W → Calls Tryz.prog 16 #[u] W fun e W' => e = .returned (.string ⟨#[]⟩) ∧ Below W.heap.size W W') := fun W hW => by
    have := textA_any u a W (hra.below hW) (by omega) (fun x hx => by have := hna x hx; omega) (h.below hW).w (h.below hW).q
    rw [textA_none hd] at this
    exact this
  have HRv : Hid (∀ W, Below w.heap.size w W → IsRow W 3 v l.length (fCells l)) := fun W hW => hr.below hW
  have HRu : Hid (∀ W, Below w.heap.size w W → IsRow W 4 u a.length (aCells a)) := fun W hW => hra.below hW
  have d5 : decide ((500 : Int) < (b.size : Int)) = false := by simp; omega
  obtain ⟨av, cv, rfl⟩ := hr.form
  obtain ⟨au, cu, rfl⟩ := hra.form
  clear hr hra hl hla h hf hg hc hd hn hna hb
  go_enter Tryz.func3, Tryz.ntmps3
  go_wp2_with fail
  refine HFw.out.mono ?_
  rintro e w0 ⟨rfl, he0⟩
  obtain rfl := he0.symm
  go_wp2_with fail
  refine HFa.out.mono ?_
  rintro e w00 ⟨rfl, he0⟩
  obtain rfl := he0.symm
  clear HFw HFa
  go_wp2_with fail
  refine HCk.out.mono ?_
  rintro e w1 ⟨rfl, hb1⟩
  have HB1 : Hid (Below w.heap.size w w1) := hb1
  clear hb1 HCk
  go_wp2_with fail
  refine (HCa.out w1 HB1.out).mono ?_
  rintro e w2 ⟨rfl, hb2⟩
  have HB2 : Hid (Below w.heap.size w w2) := HB1.out.trans (hb2.mono HB1.out.size)
  clear hb2
  go_wp2_with fail
  refine (HAw.out w2 HB2.out).mono ?_
  rintro e w3 ⟨rfl, hb3⟩
  have HB3 : Hid (Below w.heap.size w w3) := HB2.out.trans (hb3.mono HB2.out.size)
  clear hb3
  go_wp2_with fail
  refine (KA0.out w3 HB3.out).mono ?_
  rintro e w4 ⟨rfl, hb4⟩
  have HB4 : Hid (Below w.heap.size w w4) := HB3.out.trans (hb4.mono HB3.out.size)
  clear hb4
  go_wp2
  go_ret
  exact ⟨rfl, HB4.out⟩
set_option maxRecDepth 100000 in
set_option maxHeartbeats 4000000 in
theorem back_long (v : Value) (l : List Fd) (u : Value) (a : List At) (b : ByteArray) (w : World) (hr : IsRow w 3 v l.length (fCells l)) (hra : IsRow w 4 u a.length (aCells a)) (hl : l.length ≤ 140737488355328) (hla : a.length ≤ 140737488355328) (h : W5 w) (hno : fewF l = false ∨ fewA a = false ∨ ¬ b.size ≤ 500) :
    Calls Tryz.prog 3 #[v, u, .string b] w fun e w' => e = .returned (.bool true) ∧ Below w.heap.size w w' := by
  have HAw : Hid (Calls Tryz.prog 7 #[] w fun e W' => e = .returned (.bool true) ∧ Below w.heap.size w W') := awake4_any w h.w
  have HFw := fewF_any v l w hr hl
  have HFa := fewA_any u a w hra hla
  obtain ⟨av, cv, rfl⟩ := hr.form
  obtain ⟨au, cu, rfl⟩ := hra.form
  clear hr hra h hl hla
  cases hf : fewF l
  · rw [hf] at HFw
    clear hno hf
    go_enter Tryz.func3, Tryz.ntmps3
    go_wp2_with fail
    refine HFw.mono ?_
    rintro e w0 ⟨rfl, he0⟩
    obtain rfl := he0.symm
    clear HFw HFa
    go_wp2_with (refine HAw.out.mono ?_; rintro e w1 ⟨rfl, hb1⟩)
    go_ret
    exact ⟨rfl, hb1⟩
  · rw [hf] at HFw
    cases hg : fewA a
    · rw [hg] at HFa
      clear hno hf hg
      go_enter Tryz.func3, Tryz.ntmps3
      go_wp2_with fail
      refine HFw.mono ?_
      rintro e w0 ⟨rfl, he0⟩
      obtain rfl := he0.symm
      go_wp2_with fail
      refine HFa.mono ?_
      rintro e w00 ⟨rfl, he0⟩
      obtain rfl := he0.symm
      clear HFw HFa
      go_wp2_with (refine HAw.out.mono ?_; rintro e w1 ⟨rfl, hb1⟩)
      go_ret
      exact ⟨rfl, hb1⟩
    · rw [hg] at HFa
      have hb : ¬ b.size ≤ 500 := by
        rcases hno with h | h | h
        · rw [hf] at h; cases h
        · rw [hg] at h; cases h
        · exact h
      have d5 : decide ((500 : Int) < (b.size : Int)) = true := by simp; omega
      clear hno hf hg hb
      go_enter Tryz.func3, Tryz.ntmps3
      go_wp2_with fail
      refine HFw.mono ?_
      rintro e w0 ⟨rfl, he0⟩
      obtain rfl := he0.symm
      go_wp2_with fail
      refine HFa.mono ?_
      rintro e w00 ⟨rfl, he0⟩
      obtain rfl := he0.symm
      clear HFw HFa
      go_wp2_with (refine HAw.out.mono ?_; rintro e w1 ⟨rfl, hb1⟩)
      go_ret
      exact ⟨rfl, hb1⟩
theorem schemaBack_walk (v : Value) (l : List Fd) (u : Value) (a : List At) (b : ByteArray) (w : World) (hr : IsRow w 3 v l.length (fCells l)) (hl : l.length ≤ 140737488355328) (hra : IsRow w 4 u a.length (aCells a)) (hla : a.length ≤ 140737488355328) (_hb : b.size ≤ 140737488355328) (h : W5 w) :
    Calls Tryz.prog 3 #[v, u, .string b] w fun e w' => e = .returned (.bool true) ∧ Below w.heap.size w w' := by
  by_cases hno : fewF l = false ∨ fewA a = false ∨ ¬ b.size ≤ 500
  · exact back_long v l u a b w hr hra hl hla h hno
  · have hf : fewF l = true := by cases e : fewF l <;> simp_all
    have hg : fewA a = true := by cases e : fewA a <;> simp_all
    have hb : b.size ≤ 500 := by simp_all
    cases hc : chkF l <;> cases hd : chkA a
    · exact back_ff v l u a b w hr hra hl hla h hf hg hb hc hd
    · exact back_ft v l u a b w hr hra hl hla h hf hg hb hc hd
    · exact back_tf v l u a b w hr hra hl hla h hf hg hb hc hd
    · exact back_tt v l u a b w hr hra hl hla h hf hg hb hc hd
end Go.Proofs.YtfbhalkiilbcoaaGreatDoor
