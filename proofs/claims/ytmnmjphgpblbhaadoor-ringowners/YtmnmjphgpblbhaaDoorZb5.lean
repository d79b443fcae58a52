/- The reference's Heirs, Owner: walks. -/
import Derived.Test.YtmnmjphgpblbhaaDoorZb4
import Derived.Shelf.Small.Strs
import Derived.Shelf.Unicode.ValidAny
import Derived.Shelf.Small.Wraps
import Derived.Test.YtmnmjphgpblbhaaDoorProg
import Derived.Test.YtmnmjphgpblbhaaDoorZb1
namespace Go.Proofs.YtmnmjphgpblbhaaDoor
open Go.RowKit

/-- How many stand below a key. -/
def lowN (key : Nat) (r : List Nat) : Nat := (r.filter (fun n => decide (pt n < key))).length
theorem low_le (key : Nat) (r : List Nat) : lowN key r ≤ r.length := List.length_filter_le _ _
theorem low_at (key : Nat) (r : List Nat) (h : r.Pairwise (fun a b => pt a < pt b)) (k : Nat) (hk : k < r.length) : pt r[k] < key ↔ k < lowN key r := by
  have hsp := ring_split key r h
  unfold lowN
  generalize hA : r.filter (fun n => decide (pt n < key)) = A at *
  generalize hB : r.filter (fun n => decide (key ≤ pt n)) = B at *
  have hl : r.length = A.length + B.length := by rw [hsp, List.length_append]
  have e : r[k]? = (A ++ B)[k]? := by rw [← hsp]
  rw [List.getElem?_eq_getElem hk] at e
  constructor
  · intro hp
    apply Classical.byContradiction
    intro hn
    rw [List.getElem?_append_right (by omega), List.getElem?_eq_getElem (by omega), Option.some.injEq] at e
    have : r[k] ∈ B := by rw [e]; exact List.getElem_mem _
    rw [← hB] at this
    have := (List.mem_filter.1 this).2
    simp at this
    omega
  · intro hk2
    rw [List.getElem?_append_left hk2, List.getElem?_eq_getElem hk2, Option.some.injEq] at e
    have : r[k] ∈ A := by rw [e]; exact List.getElem_mem _
    rw [← hA] at this
    simpa using (List.mem_filter.1 this).2
theorem hs_low (key : Nat) (r : List Nat) (h : r.Pairwise (fun a b => pt a < pt b)) : hsL key r = r.drop (lowN key r) ++ r.take (lowN key r) := by
  have hsp := ring_split key r h
  unfold hsL lowN
  generalize hA : r.filter (fun n => decide (pt n < key)) = A at *
  generalize hB : r.filter (fun n => decide (key ≤ pt n)) = B at *
  rw [hsp, List.drop_left, List.take_left]
theorem nCells_app (r s : List Nat) : nCells (r ++ s) = nCells r ++ nCells s := by simp [nCells]
theorem n_at {w : World} {a : Option Addr} {cap : Nat} {r : List Nat} (h : IsRow w 1 (.slice a r.length cap) r.length (nCells r)) (k : Nat) (hk : k < r.length) : ∃ b off, a = some ⟨b, off, none⟩ ∧ b < w.heap.size ∧ r.length ≤ cap ∧ w.cell? ⟨b, off + k, none⟩ = some (.int .i64 (r[k] : Int)) := by
  obtain ⟨b, off, cap', hv, hlt, q1, q2, hc⟩ := h.open (by omega)
  simp only [Value.slice.injEq] at hv
  exact ⟨b, off, hv.1, hlt, by omega, hc k _ (by simp [nCells, hk])⟩
set_option maxRecDepth 100000 in
set_option maxHeartbeats 4000000 in
theorem refHeirs_any (key : Nat) (v : Value) (l : List Int) (w : World) (hr : IsRow w 1 v l.length (iCells l)) (hl : l.length ≤ 1000) :
    Calls Tryd.prog 10 #[.int .u64 (key : Int), v] w fun e w' => RwPost (hsL key (rgL l)) w e w' := by
  have HS : Hid (Calls Tryd.prog 17 #[v] w fun e w' => RwPost (rgL l) w e w') := refRing_any v l w hr hl
  have hrl := rg_le l
  have hsr := rgL_sorted l
  have HNode : Hid (∀ n ∈ rgL l, 1 ≤ n ∧ n ≤ 15) := fun n hn => rgL_node hn
  generalize rgL l = r at *
  clear hr
  have HLow : Hid (∀ (k : Nat) (hk : k < r.length), pt r[k] < key ↔ k < lowN key r) := fun k hk => low_at key r hsr k hk
  have hal := low_le key r
  rw [hs_low key r hsr]
  generalize lowN key r = a at *
  clear hsr
  obtain ⟨i0, hi0, hz0, hz1, hz2⟩ := info_parts info_in
  go_enter Tryd.func10, Tryd.ntmps10
  go_wp2_with fail
  refine HS.out.mono ?_
  rintro e w1 ⟨v1, rfl, hrow, hb1⟩
  obtain ⟨a1, cap1, rfl⟩ := hrow.form
  have HR : Hid (IsRow w1 1 (.slice a1 r.length cap1) r.length (nCells r)) := hrow
  have HB1 : Hid (Below w.heap.size w w1) := hb1
  clear hrow hb1 HS
  go_wp2_with fail
  go_loopw [6] (fun i wr => ∃ k : Nat, k ≤ a ∧ i = .int .i64 (k : Int) ∧ Below w1.heap.size w1 wr) (fun i _ => a - (intOf i).toNat)
  case atStart => exact ⟨0, Nat.zero_le _, rfl, Below.refl _ _⟩
  case round =>
    obtain ⟨k, hk, rfl, hB⟩ := hrel
    by_cases hka : k < a
    · have hkr : k < r.length := by omega
      have dk : decide ((k : Int) < r.length) = true := by simp; omega
      obtain ⟨b, off, rfl, hlt, hcap, ck⟩ := n_at (HR.out.below hB) k hkr
      have hp := (HLow.out k hkr).2 hka
      obtain ⟨n1, n2⟩ := HNode.out _ (List.getElem_mem hkr)
      have HP : Hid (∀ w, Calls Tryd.prog 23 #[.int .i64 (r[k] : Int)] w fun e w' => e = .returned (.int .u64 (pt r[k] : Int)) ∧ Below w.heap.size w w') := fun w => by
        have := refPoint_any (r[k] : Int) w
        rw [ptI, if_pos (isN_of (by omega) (by omega)), Int.toNat_natCast] at this
        exact this
      generalize pt r[k] = y at *
      generalize r[k]'hkr = x at *
      have dp : decide (y < key) = true := by simpa using hp
      go_wp2_with fail
      refine (HP.out _).mono ?_
      rintro e w2 ⟨rfl, hb2⟩
      have HB2 : Hid (Below w1.heap.size w1 w2) := hB.trans (hb2.mono hB.size)
      clear hb2 hB
      go_wp2
      go_roundw
      case rel => exact ⟨k + 1, by omega, by simp, HB2.out⟩
      case measure => simp [intOf]; omega
    · have hk' : k = a := by omega
      subst hk'
      have key2 : ∀ (W : World), Below w1.heap.size w1 W → True := fun _ _ => trivial
      clear key2
      by_cases hkr : k < r.length
      · have dk : decide ((k : Int) < r.length) = true := by simp; omega
        obtain ⟨b, off, rfl, hlt, hcap, ck⟩ := n_at (HR.out.below hB) k hkr
        have hp : ¬ pt r[k] < key := fun h => absurd ((HLow.out k hkr).1 h) (Nat.lt_irrefl _)
        obtain ⟨n1, n2⟩ := HNode.out _ (List.getElem_mem hkr)
        have HP : Hid (∀ w, Calls Tryd.prog 23 #[.int .i64 (r[k] : Int)] w fun e w' => e = .returned (.int .u64 (pt r[k] : Int)) ∧ Below w.heap.size w w') := fun w => by
          have := refPoint_any (r[k] : Int) w
          rw [ptI, if_pos (isN_of (by omega) (by omega)), Int.toNat_natCast] at this
          exact this
        generalize pt r[k] = y at *
        generalize hx : r[k]'hkr = x at *
        have dp : decide (y < key) = false := by simpa using hp
        clear hx
        go_wp2_with fail
        refine (HP.out _).mono ?_
        rintro e w2 ⟨rfl, hb2⟩
        have HB2 : Hid (Below w1.heap.size w1 w2) := hB.trans (hb2.mono hB.size)
        clear hb2 hB HP ck
        go_wp2_with fail
        go_loopw [7, 8] (fun o i wq => ∃ m : Nat, k ≤ m ∧ m ≤ r.length ∧ i = .int .i64 (m : Int) ∧ wq.ownsRow w1.heap.size 3 1 o (m - k) (nCells ((r.drop k).take (m - k))) ∧ Below w1.heap.size w1 wq) (fun _ i _ => r.length - (intOf i).toNat)
        case atStart => exact ⟨k, Nat.le_refl _, hal, rfl, by rw [Nat.sub_self]; exact World.ownsRow_nil _ _ _ _, HB2.out⟩
        case round =>
          obtain ⟨m, hkm, hmr, rfl, hown, hB⟩ := hrel
          have hsz := hB.size
          by_cases hlm : m < r.length
          · have dm : decide ((m : Int) < r.length) = true := by simp; omega
            obtain ⟨b, off, hbo, hlt, hcap, cm⟩ := n_at (HR.out.below hB) m hlm
            try cases hbo
            try subst hbo
            have hdl : m - k < (r.drop k).length := by rw [List.length_drop]; omega
            have HT : Hid (nCells ((r.drop k).take (m + 1 - k)) = nCells ((r.drop k).take (m - k)) ++ [.int .i64 (r[m] : Int)]) := by
              show _ = _
              rw [show m + 1 - k = (m - k) + 1 by omega, nCells_take _ _ hdl]
              have : (r.drop k)[m - k] = r[m] := by
                rw [List.getElem_drop]
                congr 1
                omega
              rw [this]
            have HO : Hid (wr.ownsRow w1.heap.size 3 1 u7 (m - k) (nCells ((r.drop k).take (m - k)))) := hown
            have HBm : Hid (Below w1.heap.size w1 wr) := hB
            generalize hx : r[m]'hlm = x at *
            clear hown hB hx
            have hmk : m - k ≤ 15 := by omega
            go_wp2_with (at_builtin; go_loud (refine wpl_app1 wr rfl (.tmp 34) (.tmp 39) 23 3 rfl i0 _ 8 Tryd.underlying23 hi0 hz0 hz1 hz2 rfl w1.heap.size u7 (m - k) _ rfl HO.out (.int .i64 (x : Int)) _ rfl rfl rfl (by omega) (by unfold maxLen; omega) hsz ?_; intro v4 w4 hown4 hb4 hne4))
            have HO4 : Hid (w4.ownsRow w1.heap.size 3 1 v4 (m + 1 - k) (nCells ((r.drop k).take (m + 1 - k)))) := by
              show World.ownsRow _ _ _ _ _ _ _
              rw [HT.out, show m + 1 - k = (m - k) + 1 by omega]
              exact hown4
            have HB4 : Hid (Below w1.heap.size w1 w4) := HBm.out.trans hb4
            clear hown4 hb4 HT HO hne4
            go_wp2
            go_roundw
            case rel => exact ⟨m + 1, by omega, by omega, by simp, HO4.out, HB4.out⟩
            case measure => simp [intOf]; omega
          · have dm : decide ((m : Int) < r.length) = false := by simp; omega
            have hm' : m = r.length := by omega
            subst hm'
            rw [List.take_of_length_le (by rw [List.length_drop]; exact Nat.le_refl _)] at hown
            have HO3 : Hid (wr.ownsRow w1.heap.size 3 1 u7 (r.length - k) (nCells (r.drop k))) := hown
            have HB3 : Hid (Below w1.heap.size w1 wr) := hB
            clear hown hB
            go_wp2_with fail
            go_loopw [7, 9] (fun o i wq => ∃ j : Nat, j ≤ k ∧ i = .int .i64 (j : Int) ∧ wq.ownsRow w1.heap.size 3 1 o (r.length - k + j) (nCells (r.drop k ++ r.take j)) ∧ Below w1.heap.size w1 wq) (fun _ i _ => k - (intOf i).toNat)
            case atStart => exact ⟨0, Nat.zero_le _, rfl, by simpa using HO3.out, HB3.out⟩
            case round =>
              obtain ⟨j, hj, rfl, hown, hB⟩ := hrel
              have hsz := hB.size
              by_cases hlj : j < k
              · have dj : decide (j < k) = true := by simpa using hlj
                have hjr : j < r.length := by omega
                obtain ⟨b, off, hbo, hlt, hcap, cj⟩ := n_at (HR.out.below hB) j hjr
                try cases hbo
                try subst hbo
                have HT : Hid (nCells (r.drop k ++ r.take (j + 1)) = nCells (r.drop k ++ r.take j) ++ [.int .i64 (r[j] : Int)]) := by
                  show _ = _
                  rw [nCells_app, nCells_app, nCells_take r j hjr, List.append_assoc]
                have HO : Hid (wr.ownsRow w1.heap.size 3 1 u7 (r.length - k + j) (nCells (r.drop k ++ r.take j))) := hown
                have HBm : Hid (Below w1.heap.size w1 wr) := hB
                generalize hx : r[j]'hjr = x at *
                clear hown hB hx
                go_wp2_with (at_builtin; go_loud (refine wpl_app1 wr rfl (.tmp 46) (.tmp 51) 23 3 rfl i0 _ 8 Tryd.underlying23 hi0 hz0 hz1 hz2 rfl w1.heap.size u7 (r.length - k + j) _ rfl HO.out (.int .i64 (x : Int)) _ rfl rfl rfl (by omega) (by unfold maxLen; omega) hsz ?_; intro v4 w4 hown4 hb4 hne4))
                have HO4 : Hid (w4.ownsRow w1.heap.size 3 1 v4 (r.length - k + (j + 1)) (nCells (r.drop k ++ r.take (j + 1)))) := by show World.ownsRow _ _ _ _ _ _ _; rw [HT.out, ← Nat.add_assoc]; exact hown4
                have HB4 : Hid (Below w1.heap.size w1 w4) := HBm.out.trans hb4
                clear hown4 hb4 HT HO hne4
                go_wp2
                go_roundw
                case rel => exact ⟨j + 1, by omega, by simp, HO4.out, HB4.out⟩
                case measure => simp [intOf]; omega
              · have dj : decide (j < k) = false := by simpa using hlj
                have hj' : j = k := by omega
                subst hj'
                have HO : Hid (IsRow wr 1 u7 (r.drop j ++ r.take j).length (nCells (r.drop j ++ r.take j))) := by
                  show IsRow _ _ _ _ _
                  rw [List.length_append, List.length_drop, List.length_take, Nat.min_eq_left (by omega)]
                  exact IsRow.own hown
                have HB : Hid (Below w.heap.size w wr) := HB1.out.trans (hB.mono HB1.out.size)
                clear hown hB
                go_wp2
                go_ret
                exact ⟨_, rfl, HO.out, HB.out⟩
      · have dk : decide ((k : Int) < r.length) = false := by simp; omega
        have HB2 : Hid (Below w1.heap.size w1 wr) := hB
        clear hB
        go_wp2_with fail
        go_loopw [7, 8] (fun o i wq => ∃ m : Nat, k ≤ m ∧ m ≤ r.length ∧ i = .int .i64 (m : Int) ∧ wq.ownsRow w1.heap.size 3 1 o (m - k) (nCells ((r.drop k).take (m - k))) ∧ Below w1.heap.size w1 wq) (fun _ i _ => r.length - (intOf i).toNat)
        case atStart => exact ⟨k, Nat.le_refl _, hal, rfl, by rw [Nat.sub_self]; exact World.ownsRow_nil _ _ _ _, HB2.out⟩
        case round =>
          obtain ⟨m, hkm, hmr, rfl, hown, hB⟩ := hrel
          have hsz := hB.size
          by_cases hlm : m < r.length
          · exact absurd hlm (by omega)
          · have dm : decide ((m : Int) < r.length) = false := by simp; omega
            have hm' : m = r.length := by omega
            subst hm'
            rw [List.take_of_length_le (by rw [List.length_drop]; exact Nat.le_refl _)] at hown
            have HO3 : Hid (wr.ownsRow w1.heap.size 3 1 u7 (r.length - k) (nCells (r.drop k))) := hown
            have HB3 : Hid (Below w1.heap.size w1 wr) := hB
            clear hown hB
            go_wp2_with fail
            go_loopw [7, 9] (fun o i wq => ∃ j : Nat, j ≤ k ∧ i = .int .i64 (j : Int) ∧ wq.ownsRow w1.heap.size 3 1 o (r.length - k + j) (nCells (r.drop k ++ r.take j)) ∧ Below w1.heap.size w1 wq) (fun _ i _ => k - (intOf i).toNat)
            case atStart => exact ⟨0, Nat.zero_le _, rfl, by simpa using HO3.out, HB3.out⟩
            case round =>
              obtain ⟨j, hj, rfl, hown, hB⟩ := hrel
              have hsz := hB.size
              by_cases hlj : j < k
              · have dj : decide (j < k) = true := by simpa using hlj
                have hjr : j < r.length := by omega
                obtain ⟨b, off, hbo, hlt, hcap, cj⟩ := n_at (HR.out.below hB) j hjr
                try cases hbo
                try subst hbo
                have HT : Hid (nCells (r.drop k ++ r.take (j + 1)) = nCells (r.drop k ++ r.take j) ++ [.int .i64 (r[j] : Int)]) := by
                  show _ = _
                  rw [nCells_app, nCells_app, nCells_take r j hjr, List.append_assoc]
                have HO : Hid (wr.ownsRow w1.heap.size 3 1 u7 (r.length - k + j) (nCells (r.drop k ++ r.take j))) := hown
                have HBm : Hid (Below w1.heap.size w1 wr) := hB
                generalize hx : r[j]'hjr = x at *
                clear hown hB hx
                go_wp2_with (at_builtin; go_loud (refine wpl_app1 wr rfl (.tmp 46) (.tmp 51) 23 3 rfl i0 _ 8 Tryd.underlying23 hi0 hz0 hz1 hz2 rfl w1.heap.size u7 (r.length - k + j) _ rfl HO.out (.int .i64 (x : Int)) _ rfl rfl rfl (by omega) (by unfold maxLen; omega) hsz ?_; intro v4 w4 hown4 hb4 hne4))
                have HO4 : Hid (w4.ownsRow w1.heap.size 3 1 v4 (r.length - k + (j + 1)) (nCells (r.drop k ++ r.take (j + 1)))) := by show World.ownsRow _ _ _ _ _ _ _; rw [HT.out, ← Nat.add_assoc]; exact hown4
                have HB4 : Hid (Below w1.heap.size w1 w4) := HBm.out.trans hb4
                clear hown4 hb4 HT HO hne4
                go_wp2
                go_roundw
                case rel => exact ⟨j + 1, by omega, by simp, HO4.out, HB4.out⟩
                case measure => simp [intOf]; omega
              · have dj : decide (j < k) = false := by simpa using hlj
                have hj' : j = k := by omega
                subst hj'
                have HO : Hid (IsRow wr 1 u7 (r.drop j ++ r.take j).length (nCells (r.drop j ++ r.take j))) := by
                  show IsRow _ _ _ _ _
                  rw [List.length_append, List.length_drop, List.length_take, Nat.min_eq_left (by omega)]
                  exact IsRow.own hown
                have HB : Hid (Below w.heap.size w wr) := HB1.out.trans (hB.mono HB1.out.size)
                clear hown hB
                go_wp2
                go_ret
                exact ⟨_, rfl, HO.out, HB.out⟩
set_option maxRecDepth 100000 in
theorem refOwner_any (key : Nat) (v : Value) (l : List Int) (w : World) (hr : IsRow w 1 v l.length (iCells l)) (hl : l.length ≤ 1000) :
    Calls Tryd.prog 19 #[.int .u64 (key : Int), v] w fun e w' => e = .returned (.int .i64 (ownL key l : Int)) ∧ Below w.heap.size w w' := by
  have HS : Hid (Calls Tryd.prog 10 #[.int .u64 (key : Int), v] w fun e w' => RwPost (hsL key (rgL l)) w e w') := refHeirs_any key v l w hr hl
  unfold ownL
  clear hr
  generalize hsL key (rgL l) = H at *
  cases H with
  | nil =>
    go_enter Tryd.func19, Tryd.ntmps19
    go_wp2_with fail
    refine HS.out.mono ?_
    rintro e w1 ⟨v1, rfl, hrow, hb1⟩
    obtain ⟨a1, cap1, rfl⟩ := hrow.form
    clear hrow
    go_wp2
    go_ret
    exact ⟨rfl, hb1⟩
  | cons x t =>
    go_enter Tryd.func19, Tryd.ntmps19
    go_wp2_with fail
    refine HS.out.mono ?_
    rintro e w1 ⟨v1, rfl, hrow, hb1⟩
    obtain ⟨a1, cap1, rfl⟩ := hrow.form
    obtain ⟨b, off, rfl, hlt, hcap, c0⟩ := n_at hrow 0 (by simp)
    have c0 : w1.cell? ⟨b, off, none⟩ = some (.int .i64 (x : Int)) := c0
    have HB : Hid (Below w.heap.size w w1) := hb1
    generalize hn : (x :: t).length = n at *
    have hn0 : 0 < n := by rw [← hn]; simp
    have d0 : ((n : Int) == 0) = false := by rw [beq_eq_false_iff_ne]; omega
    clear hrow hb1 hn
    go_wp2
    go_ret
    exact ⟨rfl, HB.out⟩
end Go.Proofs.YtmnmjphgpblbhaaDoor
/- RingHeirs: for all keys, numbers and bounds the law returns true. -/
namespace Go.Proofs.YtmnmjphgpblbhaaDoor
open Go.RowKit

theorem row_take {w : World} {b off n cap : Nat} {l : List Int} (h : IsRow w 1 (.slice (some ⟨b, off, none⟩) n cap) l.length (iCells l)) (m : Nat) (hm : m ≤ l.length) (h0 : 0 < l.length) : IsRow w 1 (.slice (some ⟨b, off, none⟩) m cap) (l.take m).length (iCells (l.take m)) := by
  obtain ⟨b', off', cap', hv, hlt, q1, q2, hc⟩ := h.open (by omega)
  simp only [Value.slice.injEq, Option.some.injEq, Addr.mk.injEq, and_true] at hv
  obtain ⟨⟨rfl, rfl⟩, -, rfl⟩ := hv
  have hl : (l.take m).length = m := by rw [List.length_take]; omega
  rw [hl]
  refine ⟨by simp [iCells]; omega, .inr ⟨b, off, cap, rfl, hlt, by omega, q2, fun j u hu => hc j u ?_⟩⟩
  have e : iCells (l.take m) = (iCells l).take m := by simp [iCells, List.map_take]
  rw [e] at hu
  rw [← hu, List.getElem?_take_of_lt]
  have := (List.getElem?_eq_some_iff.1 hu).1
  rw [List.length_take] at this
  omega
set_option maxRecDepth 100000 in
set_option maxHeartbeats 4000000 in
theorem ringHeirs_walk (key : Nat) (v : Value) (l : List Int) (most : Int) (w : World) (hr : IsRow w 1 v l.length (iCells l)) (hl : l.length ≤ 140737488355328) (hm1 : -9223372036854775808 ≤ most) (hm2 : most ≤ 9223372036854775807) :
    Calls Tryd.prog 7 #[.int .u64 (key : Int), v, .int .i64 most] w fun e w' => e = .returned (.bool true) ∧ Below w.heap.size w w' := by
  obtain ⟨a0, cap0, rfl⟩ := hr.form
  have HR : Hid (IsRow w 1 (.slice a0 l.length cap0) l.length (iCells l)) := hr
  have HA : Hid (∀ w, Calls Tryd.prog 9 #[] w fun e w' => e = .returned (.bool true) ∧ Below w.heap.size w w') := awake10_any
  have HFw : Hid (Calls Tryd.prog 8 #[.slice a0 l.length cap0] w fun e w' => e = .returned (.bool (decide (l.length ≤ 40))) ∧ w' = w) := few_any _ l w hr hl
  clear hr
  by_cases h40 : l.length ≤ 40
  rotate_left
  · rw [decide_eq_false h40] at HFw
    go_enter Tryd.func7, Tryd.ntmps7
    go_wp2_with fail
    refine HFw.out.mono ?_
    rintro e w1 ⟨rfl, hw⟩
    subst hw
    go_wp2_with fail
    refine (HA.out _).mono ?_
    rintro e w2 ⟨rfl, hb2⟩
    go_wp2
    go_ret
    exact ⟨rfl, hb2⟩
  rw [decide_eq_true h40] at HFw
  have HNd : Hid (Calls Tryd.prog 14 #[.slice a0 l.length cap0] w fun e w' => e = .returned (.bool (nodesB l)) ∧ Below w.heap.size w w') := refNodes_any _ l w HR.out (by omega)
  by_cases hN : NodesP l
  rotate_left
  · rw [nodesB_false hN] at HNd
    go_enter Tryd.func7, Tryd.ntmps7
    go_wp2_with fail
    refine HFw.out.mono ?_
    rintro e w1 ⟨rfl, hw⟩
    subst hw
    go_wp2_with fail
    refine HNd.out.mono ?_
    rintro e w2 ⟨rfl, hb2⟩
    go_wp2_with fail
    refine (HA.out _).mono ?_
    rintro e w3 ⟨rfl, hb3⟩
    have HB : Hid (Below w1.heap.size w1 w3) := hb2.trans (hb3.mono hb2.size)
    clear hb2 hb3
    go_wp2
    go_ret
    exact ⟨rfl, HB.out⟩
  rw [nodesB_true hN] at HNd
  by_cases h0 : l.length = 0
  · obtain rfl := List.eq_nil_of_length_eq_zero h0
    simp only [List.length_nil] at HFw HNd HR
    clear h0 h40 hl
    go_enter Tryd.func7, Tryd.ntmps7
    go_wp2_with fail
    refine HFw.out.mono ?_
    rintro e w1 ⟨rfl, hw⟩
    subst hw
    go_wp2_with fail
    refine HNd.out.mono ?_
    rintro e w2 ⟨rfl, hb2⟩
    go_wp2_with fail
    refine (HA.out _).mono ?_
    rintro e w3 ⟨rfl, hb3⟩
    have HB : Hid (Below w1.heap.size w1 w3) := hb2.trans (hb3.mono hb2.size)
    clear hb2 hb3
    go_wp2
    go_ret
    exact ⟨rfl, HB.out⟩
  have d0 : ((l.length : Int) == 0) = false := by rw [beq_eq_false_iff_ne]; omega
  have hrl := rgL_len hN
  have hsr := rgL_sorted l
  have hHl : ((hsL key (rgL l)).map fun (n : Nat) => (n : Int)).length = l.length := by rw [List.length_map, hsL_len key _ hsr, hrl]
  have HH1 : Hid (∀ w, IsRow w 1 (.slice a0 l.length cap0) l.length (iCells l) → Calls Tryd.prog 18 #[.int .u64 (key : Int), .slice a0 l.length cap0, .int .i64 (l.length : Int)] w fun e w' => RiPost ((hsL key (rgL l)).map fun (n : Nat) => (n : Int)) w e w') := fun w h => (heirs_any key _ l (l.length : Int) w h (by omega)).mono fun e w' h => by
    have := h.ints
    rw [Int.toNat_natCast, List.take_of_length_le (by rw [hsL_len key _ hsr, hrl]; exact Nat.le_refl _)] at this
    exact this
  have HH2 : Hid (∀ w, IsRow w 1 (.slice a0 l.length cap0) l.length (iCells l) → Calls Tryd.prog 18 #[.int .u64 (key : Int), .slice a0 l.length cap0, .int .i64 most] w fun e w' => RiPost (((hsL key (rgL l)).map fun (n : Nat) => (n : Int)).take most.toNat) w e w') := fun w h => (heirs_any key _ l most w h (by omega)).mono fun e w' h => by
    have := h.ints
    rw [List.map_take] at this
    exact this
  have HOw : Hid (∀ w, IsRow w 1 (.slice a0 l.length cap0) l.length (iCells l) → Calls Tryd.prog 11 #[.int .u64 (key : Int), .slice a0 l.length cap0] w fun e w' => e = .returned (.tuple #[.int .i64 (ownL key l : Int), .bool (hasL l)]) ∧ Below w.heap.size w w') := fun w h => ownerL_any key _ l w h (by omega)
  have hown : ((hsL key (rgL l)).map fun (n : Nat) => (n : Int))[0]? = some (ownL key l : Int) := by
    unfold ownL
    rw [List.getElem?_map, List.head?_eq_getElem?, List.getElem?_eq_getElem (by rw [hsL_len key _ hsr, hrl]; omega)]
    rfl
  have hmem : ∀ x ∈ l, x ∈ (hsL key (rgL l)).map fun (n : Nat) => (n : Int) := fun x hx => by
    have h1 := (rgL_mem hN).2 hx
    obtain ⟨n, hn, e⟩ := List.mem_map.1 h1
    exact List.mem_map.2 ⟨n, (hsL_perm key _ hsr).mem_iff.2 hn, e⟩
  generalize (hsL key (rgL l)).map (fun (n : Nat) => (n : Int)) = H at *
  generalize (ownL key l : Int) = o at *
  generalize hasL l = bb at *
  have HHl : Hid (H.length = l.length) := hHl
  have HOn : Hid (H[0]? = some o) := hown
  have HMem : Hid (∀ x ∈ l, x ∈ H) := hmem
  obtain ⟨K, HKe⟩ : ∃ K, Hid (K = H.take most.toNat) := ⟨_, rfl⟩
  rw [← HKe.out] at HH2
  clear hown hmem hsr hrl hHl hN
  go_enter Tryd.func7, Tryd.ntmps7
  go_wp2_with fail
  refine HFw.out.mono ?_
  rintro e w1 ⟨rfl, hw⟩
  subst hw
  go_wp2_with fail
  refine HNd.out.mono ?_
  rintro e w2 ⟨rfl, hb2⟩
  have HR2 : Hid (IsRow w2 1 (.slice a0 l.length cap0) l.length (iCells l)) := HR.out.below hb2
  have HB2 : Hid (Below w1.heap.size w1 w2) := hb2
  clear hb2 HNd HFw HR
  go_wp2_with fail
  refine (HH1.out _ HR2.out).mono ?_
  rintro e w3 ⟨v3, rfl, hrow3, hb3⟩
  obtain ⟨a3, cap3, rfl⟩ := hrow3.form
  have HR3 : Hid (IsRow w3 1 (.slice a0 l.length cap0) l.length (iCells l)) := HR2.out.below hb3
  have HH3 : Hid (IsRow w3 1 (.slice a3 H.length cap3) H.length (iCells H)) := hrow3
  have HB3 : Hid (Below w1.heap.size w1 w3) := HB2.out.trans (hb3.mono HB2.out.size)
  clear hrow3 hb3 HR2 HB2 HH1
  go_wp2_with fail
  refine (HH2.out _ HR3.out).mono ?_
  rintro e w4 ⟨v4, rfl, hrow4, hb4⟩
  obtain ⟨a4, cap4, rfl⟩ := hrow4.form
  have HR4 : Hid (IsRow w4 1 (.slice a0 l.length cap0) l.length (iCells l)) := HR3.out.below hb4
  have HH4 : Hid (IsRow w4 1 (.slice a3 H.length cap3) H.length (iCells H)) := HH3.out.below hb4
  have HK4 : Hid (IsRow w4 1 (.slice a4 K.length cap4) K.length (iCells K)) := hrow4
  have HB4 : Hid (Below w1.heap.size w1 w4) := HB3.out.trans (hb4.mono HB3.out.size)
  clear hrow4 hb4 HR3 HB3 HH2 HH3
  go_wp2_with fail
  refine (HOw.out _ HR4.out).mono ?_
  rintro e w5 ⟨rfl, hb5⟩
  have HR5 : Hid (IsRow w5 1 (.slice a0 l.length cap0) l.length (iCells l)) := HR4.out.below hb5
  have HH5 : Hid (IsRow w5 1 (.slice a3 H.length cap3) H.length (iCells H)) := HH4.out.below hb5
  have HK5 : Hid (IsRow w5 1 (.slice a4 K.length cap4) K.length (iCells K)) := HK4.out.below hb5
  have HB5 : Hid (Below w1.heap.size w1 w5) := HB4.out.trans (hb5.mono HB4.out.size)
  clear hb5 HR4 HB4 HOw HH4 HK4
  obtain ⟨b5, off5, rfl, -, hlt5, hcap5, hc5⟩ := iCells_at HH5.out (by rw [HHl.out]; omega)
  have c5 : w5.cell? ⟨b5, off5, none⟩ = some (.int .i64 o) := by
    have h1 := hc5 0 (by rw [HHl.out]; omega)
    have h2 := HOn.out
    rw [List.getElem?_eq_getElem (by rw [HHl.out]; omega), Option.some.injEq] at h2
    rw [h2] at h1
    exact h1
  clear hc5
  have hHL : H.length ≤ 40 := by rw [HHl.out]; exact h40
  have HKl : Hid (K.length = min most.toNat l.length) := by show _ = _; rw [HKe.out, List.length_take, HHl.out]
  have hKl : K.length ≤ H.length := by rw [HKe.out, List.length_take]; omega
  have HTm : Hid (H.take K.length = K) := by
    show _ = _
    rw [HKe.out, List.length_take, List.take_eq_take_iff]
    omega
  have HS5 : Hid (Calls Tryd.prog 15 #[.slice a4 K.length cap4, .slice (some ⟨b5, off5, none⟩) K.length cap3] w5 fun e w' => e = .returned (.bool true) ∧ Below w5.heap.size w5 w') := by
    have h2 := row_take HH5.out K.length hKl (by rw [HHl.out]; omega)
    rw [HTm.out] at h2
    exact same_eq _ _ K w5 HK5.out h2 (by omega)
  have hH0 : 0 < H.length := by rw [HHl.out]; omega
  have hKc : K.length ≤ cap3 := by omega
  have dne : ((H.length : Int) != (l.length : Int)) = false := by rw [HHl.out]; simp
  have dgt : decide (H.length < K.length) = false := by simp; omega
  clear HK5 HTm HKe
  go_wp2_with fail
  refine HS5.out.mono ?_
  rintro e w6 ⟨rfl, hb6⟩
  have HR6 : Hid (IsRow w6 1 (.slice a0 l.length cap0) l.length (iCells l)) := HR5.out.below hb6
  have HH6 : Hid (IsRow w6 1 (.slice (some ⟨b5, off5, none⟩) H.length cap3) H.length (iCells H)) := HH5.out.below hb6
  have HB6 : Hid (Below w1.heap.size w1 w6) := HB5.out.trans (hb6.mono HB5.out.size)
  clear hb6 HR5 HB5 HS5 HH5 c5 dne dgt d0
  go_wp2_with fail
  go_loopw [6, 11] (fun r i wr => r = .bool false ∧ ∃ k : Nat, k ≤ l.length ∧ i = .int .i64 (k : Int) ∧ Below w6.heap.size w6 wr) (fun _ i _ => l.length - (intOf i).toNat)
  case atStart => exact ⟨rfl, 0, Nat.zero_le _, rfl, Below.refl _ _⟩
  case round =>
    obtain ⟨rfl, k, hk, rfl, hB⟩ := hrel
    by_cases hlk : k < l.length
    · have dk : decide ((k : Int) < l.length) = true := by simp; omega
      obtain ⟨b, off, rfl, -, hlt, hcap, hc⟩ := iCells_at (HR6.out.below hB) (by omega)
      have ck := hc k hlk
      have HHs : Hid (Calls Tryd.prog 29 #[.slice (some ⟨b5, off5, none⟩) H.length cap3, .int .i64 l[k]] wr fun e w' => e = .returned (.bool true) ∧ w' = wr) := by
        have := has_any _ H l[k] wr (HH6.out.below hB) (by omega)
        rw [decide_eq_true (HMem.out _ (List.getElem_mem hlk))] at this
        exact this
      generalize l[k]'hlk = x at *
      clear hc
      go_wp2_with fail
      refine HHs.out.mono ?_
      rintro e w7 ⟨rfl, hw⟩
      subst hw
      go_wp2
      go_roundw
      case rel => exact ⟨rfl, k + 1, by omega, by simp, hB⟩
      case measure => simp [intOf]; omega
    · have dk : decide ((k : Int) < l.length) = false := by simp; omega
      have HB7 : Hid (Below w1.heap.size w1 wr) := HB6.out.trans (hB.mono HB6.out.size)
      clear hB
      go_wp2_with fail
      refine (HA.out _).mono ?_
      rintro e w8 ⟨rfl, hb8⟩
      have HB8 : Hid (Below w1.heap.size w1 w8) := HB7.out.trans (hb8.mono HB7.out.size)
      clear hb8
      by_cases hms : most < 0
      · have dm : decide (most < 0) = true := by simpa using hms
        have dK : ((K.length : Int) == 0) = true := by rw [beq_iff_eq, HKl.out]; omega
        go_wp2
        go_ret
        exact ⟨rfl, HB8.out⟩
      · have dm : decide (most < 0) = false := by simpa using hms
        have dm2 : decide ((0 : Int) ≤ most) = true := by simp; omega
        have dK : ((K.length : Int) == min most (l.length : Int)) = true := by rw [beq_iff_eq, HKl.out]; omega
        go_wp2
        go_ret
        exact ⟨rfl, HB8.out⟩
end Go.Proofs.YtmnmjphgpblbhaaDoor
/- The shelf's contracts that names need, at this program, laid by the shelf's tool in plain words. -/
namespace Go.Proofs
open Go.Shelf
def Tryd.lays196_ren : Go.Shelf.Ren := ⟨fun | 196 => 61 | 259 => 78 | n => n, fun | 9 => 9 | 4 => 4 | 3 => 3 | 5 => 5 | 12 => 12 | 119 => 94 | 0 => 0 | 46 => 62 | 139 => 97 | 138 => 96 | 53 => 22 | n => n, fun | 3 => 0 | 4 => 1 | n => n⟩
theorem Tryd.lays196 : Go.Proofs.Lays.n196 Tryd.prog Tryd.lays196_ren := {
  mixed := by kernel_rfl
  f196 := Tryd.func61.trans (congrArg some (by kernel_rfl))
  f259 := Tryd.func78.trans (congrArg some (by kernel_rfl))
  t0 := Tryd.underlying0
  a0 := Tryd.isAgg0
  z0 := Tryd.sizeOf0
  v0 := Tryd.zeroValue0
  t3 := Tryd.underlying3
  a3 := Tryd.isAgg3
  z3 := Tryd.sizeOf3
  v3 := Tryd.zeroValue3
  t4 := Tryd.underlying4
  a4 := Tryd.isAgg4
  z4 := Tryd.sizeOf4
  v4 := Tryd.zeroValue4
  t5 := Tryd.underlying5
  a5 := Tryd.isAgg5
  z5 := Tryd.sizeOf5
  v5 := Tryd.zeroValue5
  t9 := Tryd.underlying9
  a9 := Tryd.isAgg9
  z9 := Tryd.sizeOf9
  v9 := Tryd.zeroValue9
  t12 := Tryd.underlying12
  a12 := Tryd.isAgg12
  z12 := Tryd.sizeOf12
  v12 := Tryd.zeroValue12
  t46 := Tryd.underlying62
  a46 := Tryd.isAgg62
  z46 := Tryd.sizeOf62
  v46 := Tryd.zeroValue62
  t53 := Tryd.underlying22
  a53 := Tryd.isAgg22
  z53 := Tryd.sizeOf22
  v53 := Tryd.zeroValue22
  t119 := Tryd.underlying94
  a119 := Tryd.isAgg94
  z119 := Tryd.sizeOf94
  t138 := Tryd.underlying96
  a138 := Tryd.isAgg96
  z138 := Tryd.sizeOf96
  v138 := Tryd.zeroValue96
  t139 := Tryd.underlying97
  a139 := Tryd.isAgg97
  z139 := Tryd.sizeOf97
  v139 := Tryd.zeroValue97
  g3 := by kernel_rfl
  g4 := by kernel_rfl }
open Go.RowKit in
theorem Tryd.utf8_ValidString (s : ByteArray) (w : World) (hs : s.size ≤ 9223372036854775807) (hT : Lib.Utf8Tabs 0 1 w) :
    Calls Tryd.prog 61 #[.string s] w fun e w' => e = .returned (.bool (Lib.validD s.data.toList)) ∧ Below w.heap.size w w' := Any.utf8_ValidString Tryd.lays196 s w hs hT
def Tryd.lays122_ren : Go.Shelf.Ren := ⟨fun | 122 => 60 | 215 => 77 | n => n, fun | 3 => 3 | 4 => 4 | n => n, fun | n => n⟩
theorem Tryd.lays122 : Go.Proofs.Lays.n122 Tryd.prog Tryd.lays122_ren := {
  mixed := by kernel_rfl
  f122 := Tryd.func60.trans (congrArg some (by kernel_rfl))
  f215 := Tryd.func77.trans (congrArg some (by kernel_rfl))
  t3 := Tryd.underlying3
  a3 := Tryd.isAgg3
  z3 := Tryd.sizeOf3
  v3 := Tryd.zeroValue3
  t4 := Tryd.underlying4
  a4 := Tryd.isAgg4
  z4 := Tryd.sizeOf4
  v4 := Tryd.zeroValue4 }
open Go.RowKit in
theorem Tryd.cmp_Compare_int (x y : Int) (w : World) :
    Calls Tryd.prog 60 #[.int .i64 x, .int .i64 y] w fun e w' => e = .returned (.int .i64 (Lib.compareInt x y)) ∧ w' = w := Any.cmp_Compare_int Tryd.lays122 x y w
end Go.Proofs
/- name.smalls, Fold, Key, Compare, Same, Runes: walks. -/
namespace Go.Proofs.YtmnmjphgpblbhaaDoor
open Go.RowKit

abbrev UT (w : World) : Prop := Lib.Utf8Tabs 0 1 w

/-- An append of one element onto a row that the call owns; every other block stays. -/
theorem wpl_apps {P : Program} (wr : World) {ops : Array Oper} {rest : List Oper} {o : Oper} {a : Act} {Q : Exit → Act → World → Prop} (hgd : o.guard = none) (s x : Operand) (t e : TypeId)
    (ho : o.op = .call { callee := .builtin .append, args := #[s, x], argTypes := #[t, t] })
    (i : TypeInfo) (z : Value) (bytes : Nat) (ht : P.underlying t = some (.slice e)) (hi : P.info? e = some i) (hz : i.zero = some z)
    (hsize : i.size = 1) (hby : i.bytes = bytes) (hzs : z.cells.size = 1)
    (base : Nat) (v : Value) (n : Nat) (xs : List Value) (hs : a.eval s = v) (hown : wr.ownsRow base e 1 v n xs)
    (el : Value) (N : Nat) (hN : N = wr.heap.size) (hx : a.eval x = .slice (some ⟨N, 0, none⟩) 1 1) (h1 : el.oneCell' = true)
    (hbytes : (n + 1) * bytes ≤ 140737488355328) (h63 : n + 1 ≤ maxLen) (hbase : base ≤ wr.heap.size)
    (h : ∀ v' w', w'.ownsRow base e 1 v' (n + 1) (xs ++ [el]) → Below base wr w' → (∀ b, b < wr.heap.size → v.ownBlock ≠ some b → w'.heap[b]? = wr.heap[b]?) → wpList P ops Q rest (a.put o.dst v') w') :
    wpList P ops Q (o :: rest) a (wr.alloc (.cells #[el] e)) := by
  subst hN
  refine wpList_append_own _ hgd s x t ho base e i z 1 bytes ht hi hz hsize hby hzs (by omega) v n xs hs (hown.alloc _) ⟨wr.heap.size, 0, none⟩ 1 1 [el] hx rfl ?_ ?_ h63 hbytes ?_ ?_
  · intro j u hj
    match j, hj with
    | 0, hj => simp at hj; subst hj; simp [Addr.add]
  · intro u hu; simp at hu; subst hu; exact h1
  · simp; omega
  · intro v' w' h2 h3 h4
    refine h v' w' h2 ?_ ?_
    · exact ((Below.refl _ _).alloc hbase _).grown h3 (by simp; omega) (fun k hk => (hown.lt k hk).1)
    · intro b hb hne
      rw [h3.block b (by simp; omega) (fun e => hne e.symm)]
      exact Below.heap_alloc _ _ _ hb

theorem own_ne_iter {w : World} {base : Nat} {e : TypeId} {sz : Nat} {v : Value} {n : Nat} {xs : List Value} (h : w.ownsRow base e sz v n xs) {k : Nat} {s : ByteArray} {p : Nat} (hk : w.heap[k]? = some (.stringIter s p)) : v.ownBlock ≠ some k := by
  obtain ⟨_, h2⟩ := h
  rcases h2 with ⟨rfl, _⟩ | ⟨g, cap, cur, rfl, _, hg, _⟩
  · simp [Value.ownBlock]
  · intro e1
    simp [Value.ownBlock] at e1
    subst e1
    rw [hk] at hg
    cases hg
theorem own_iter {w : World} {base : Nat} {e : TypeId} {sz : Nat} {v : Value} {n : Nat} {xs : List Value} (h : w.ownsRow base e sz v n xs) {k : Nat} {s : ByteArray} {p : Nat} (hk : w.heap[k]? = some (.stringIter s p)) (p' : Nat) : (w.iterAt k s p').ownsRow base e sz v n xs :=
  h.kept (row := some k) ⟨rfl, rfl, rfl, by rw [Lib.iterAt_size]; exact Nat.le_refl _, fun j _ hj => Lib.iterAt_other w k j s p' (fun e => hj (by rw [e]))⟩ (.inr (own_ne_iter h hk))

def rcells (l : List Nat) : List Value := l.map fun (c : Nat) => Value.int .i32 (c : Int)
theorem info_rune : (Tryd.prog.info? 21).map (fun i => (i.zero, i.size, i.bytes)) = some (some (.int .i32 0), 1, 4) := by kernel_rfl

/-- What smalls leaves. -/
def SmPost (l : List Nat) (w : World) (e : Ending) (w' : World) : Prop :=
  ∃ v, e = .returned v ∧ IsRow w' 1 v l.length (rcells l) ∧ Below w.heap.size w w'
def SmRel (s : ByteArray) (w w1 : World) (t : Value) (wr : World) : Prop :=
  ∃ (pos : Nat) (acc : List Nat), wr.ownsRow w.heap.size 21 1 t acc.length (rcells acc) ∧ wr.heap[w1.heap.size]? = some (.stringIter s pos) ∧ Below w.heap.size w wr ∧ acc ++ (rns (s.data.toList.drop pos)).map smallN = (rns s.data.toList).map smallN ∧ acc.length ≤ pos

set_option maxRecDepth 100000 in
set_option maxHeartbeats 2000000 in
theorem smalls_any (s : ByteArray) (w : World) (hs : s.size ≤ 1000000) :
    Calls Tryd.prog 62 #[.string s] w fun e w' => SmPost ((rns s.data.toList).map smallN) w e w' := by
  obtain ⟨i0, hi0, hz0, hz1, hz2⟩ := info_parts info_rune
  obtain ⟨w1, hmk, hown, hgr⟩ := run_make_own (P := Tryd.prog) w w.heap.size 77 21 i0 _ 1 Tryd.underlying77 hi0 hz0 hz1 .i64 .i64 s.size (by rw [hz2]; omega) (by unfold maxLen; omega) (Nat.le_refl _)
  have hb1 : Below w.heap.size w w1 := (Below.refl w.heap.size w).grown hgr (Nat.le_refl _) (fun k hk => by cases hk)
  have hs1 := hb1.size
  clear hgr
  go_enter Tryd.func62, Tryd.ntmps62
  go_wp2
  go_loopw [3] (fun t wr => SmRel s w w1 t wr) (fun _ wr => s.size - wr.iterPos w1.heap.size)
  case atStart =>
    exact ⟨0, [], hown.alloc (.stringIter s 0), World.iter_heap w1 s 0, hb1.alloc (by omega) (.stringIter s 0), rfl, Nat.le_refl _⟩
  case round =>
    obtain ⟨pos, acc, hown, hit, hbw, hck, hal⟩ := hrel
    have HC : Hid (acc ++ (rns (s.data.toList.drop pos)).map smallN = (rns s.data.toList).map smallN) := hck
    clear hck
    have hsz : w1.heap.size < wr.heap.size := (Array.getElem?_eq_some_iff.1 hit).1
    by_cases hp : pos < s.size
    · have hnx : ∀ ty, (Instr.next (.pointer (some ⟨w1.heap.size, 0, none⟩)) true ty).run Tryd.prog wr = _ := fun ty => Lib.run_next_any_at wr w1.heap.size s pos ty hit hp
      have hwd := Lib.decode_width_pos s pos hp
      have hit2 := Lib.iterAt_heap wr w1.heap.size s pos (pos + (Utf8.decode s pos).2) hit
      have hbw2 := Lib.below_iterAt hbw (k := w1.heap.size) hs1 s (pos + (Utf8.decode s pos).2)
      have hown2 := own_iter hown hit (pos + (Utf8.decode s pos).2)
      have hrl := Lib.rune_le s pos
      have hrn : Hid (rns (s.data.toList.drop pos) = (Utf8.decode s pos).1 :: rns (s.data.toList.drop (pos + (Utf8.decode s pos).2))) := rns_at s pos hp
      have hmeas : Hid (s.size - (pos + (Utf8.decode s pos).2) < s.size - wr.iterPos w1.heap.size) := by
        show _ < _
        rw [iterPos_of hit]; omega
      generalize (Utf8.decode s pos).1 = c at *
      generalize (Utf8.decode s pos).2 = d at *
      generalize hW : wr.iterAt w1.heap.size s (pos + d) = W at *
      have hszW : w1.heap.size < W.heap.size := (Array.getElem?_eq_some_iff.1 hit2).1
      have hne := own_ne_iter hown2 hit2
      have HC2 : Hid ((acc ++ [smallN c]) ++ (rns (s.data.toList.drop (pos + d))).map smallN = (rns s.data.toList).map smallN) := by
        show _ = _; rw [← HC.out, hrn.out]; simp
      have HX : Hid (rcells acc ++ [Value.int .i32 (smallN c : Nat)] = rcells (acc ++ [smallN c])) := by show _ = _; simp [rcells]
      clear HC hrn hW hown
      go_wp2_with (first | (go_at_call 79; refine (small_any _ _ (by omega) (by omega)).mono ?_; rintro e w' ⟨rfl, rfl⟩; rw [smallZ_nat]) | (at_builtin; refine wpl_apps _ rfl (.tmp 14) (.tmp 17) 77 21 rfl i0 _ 4 Tryd.underlying77 hi0 hz0 hz1 hz2 rfl _ _ _ _ rfl hown2 (.int .i32 (smallN c : Nat)) _ rfl rfl rfl (by omega) (by unfold maxLen; omega) (by omega) ?_; intro v3 w3 hown3 hb3 hst3))
      have hit3 : Hid (w3.heap[w1.heap.size]? = some (.stringIter s (pos + d))) := (hst3 _ hszW hne).trans hit2
      have hmW : Hid (w3.iterPos w1.heap.size = pos + d) := iterPos_of hit3.out
      have HO : Hid (w3.ownsRow w.heap.size 21 1 v3 (acc ++ [smallN c]).length (rcells (acc ++ [smallN c]))) := by
        show World.ownsRow _ _ _ _ _ _ _
        rw [← HX.out, List.length_append]
        exact hown3
      have HB : Hid (Below w.heap.size w w3) := hbw2.trans hb3
      clear hst3 hown3 hb3 hown2 hit2 hbw2
      go_wp2
      go_roundw
      case rel => exact ⟨pos + d, acc ++ [smallN c], HO.out, hit3.out, HB.out, HC2.out, by simp; omega⟩
      case measure => rw [hmW.out]; exact hmeas.out
    · have hnx : ∀ ty, (Instr.next (.pointer (some ⟨w1.heap.size, 0, none⟩)) true ty).run Tryd.prog wr = _ := fun ty => Lib.run_next_end_at wr w1.heap.size s pos ty hit hp
      have HC2 : Hid (acc = (rns s.data.toList).map smallN) := by show _ = _; rw [← HC.out, rns_end s pos hp]; simp
      have HO : Hid (IsRow wr 1 u3 acc.length (rcells acc)) := IsRow.own hown
      clear HC hown
      go_wp2
      go_ret
      refine ⟨_, rfl, ?_, hbw⟩
      rw [← HC2.out]
      exact HO.out
end Go.Proofs.YtmnmjphgpblbhaaDoor
