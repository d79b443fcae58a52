/- The reference's Heirs, Owner: walks. -/
import Derived.Test.YtmnmjphgpblbhaaDoorZb4
namespace Go.Proofs.YtmnmjphgpblbhaaDoor
open Go.RowKit

/-- How many stand below a key. -/
def lowN (key : Nat) (r : List Nat) : Nat := (r.filter (fun n => decide (pt n < key))).length
theorem low_le (key : Nat) (r : List Nat) : lowN key r ≤ r.length := List.length_filter_le _ _
theorem low_at (key : Nat) (r : List Nat) (h : r.Pairwise (fun a b => pt a < pt b)) (k : Nat) (hk : k < r.length) : pt r[k] < key ↔ k < lowN key r := by
  have hsp := ring_split key r h
  unfold lowN
  generalize hA : r.filter (fun n => decide (pt n < key)) = A at *
  generalize hB : r.filter (fun n => decide (key ≤ pt n)) = B at *
  have hl : r.length = A.length + B.length := by rw [hsp, List.length_append]
  have e : r[k]? = (A ++ B)[k]? := by rw [← hsp]
  rw [List.getElem?_eq_getElem hk] at e
  constructor
  · intro hp
    apply Classical.byContradiction
    intro hn
    rw [List.getElem?_append_right (by omega), List.getElem?_eq_getElem (by omega), Option.some.injEq] at e
    have : r[k] ∈ B := by rw [e]; exact List.getElem_mem _
    rw [← hB] at this
    have := (List.mem_filter.1 this).2
    simp at this
    omega
  · intro hk2
    rw [List.getElem?_append_left hk2, List.getElem?_eq_getElem hk2, Option.some.injEq] at e
    have : r[k] ∈ A := by rw [e]; exact List.getElem_mem _
    rw [← hA] at this
    simpa using (List.mem_filter.1 this).2
theorem hs_low (key : Nat) (r : List Nat) (h : r.Pairwise (fun a b => pt a < pt b)) : hsL key r = r.drop (lowN key r) ++ r.take (lowN key r) := by
  have hsp := ring_split key r h
  unfold hsL lowN
  generalize hA : r.filter (fun n => decide (pt n < key)) = A at *
  generalize hB : r.filter (fun n => decide (key ≤ pt n)) = B at *
  rw [hsp, List.drop_left, List.take_left]
theorem nCells_app (r s : List Nat) : nCells (r ++ s) = nCells r ++ nCells s := by simp [nCells]
theorem n_at {w : World} {a : Option Addr} {cap : Nat} {r : List Nat} (h : IsRow w 1 (.slice a r.length cap) r.length (nCells r)) (k : Nat) (hk : k < r.length) : ∃ b off, a = some ⟨b, off, none⟩ ∧ b < w.heap.size ∧ r.length ≤ cap ∧ w.cell? ⟨b, off + k, none⟩ = some (.int .i64 (r[k] : Int)) := by
  obtain ⟨b, off, cap', hv, hlt, q1, q2, hc⟩ := h.open (by omega)
  simp only [Value.slice.injEq] at hv
  exact ⟨b, off, hv.1, hlt, by omega, hc k _ (by simp [nCells, hk])⟩
set_option maxRecDepth 100000 in
set_option maxHeartbeats 4000000 in
theorem refHeirs_any (key : Nat) (v : Value) (l : List Int) (w : World) (hr : IsRow w 1 v l.length (iCells l)) (hl : l.length ≤ 1000) :
    Calls Tryd.prog 10 #[.int .u64 (key : Int), v] w fun e w' => RwPost (hsL key (rgL l)) w e w' := by
  have HS : Hid (Calls Tryd.prog 17 #[v] w fun e w' => RwPost (rgL l) w e w') := refRing_any v l w hr hl
  have hrl := rg_le l
  have hsr := rgL_sorted l
  have HNode : Hid (∀ n ∈ rgL l, 1 ≤ n ∧ n ≤ 15) := fun n hn => rgL_node hn
  generalize rgL l = r at *
  clear hr
  have HLow : Hid (∀ (k : Nat) (hk : k < r.length), pt r[k] < key ↔ k < lowN key r) := fun k hk => low_at key r hsr k hk
  have hal := low_le key r
  rw [hs_low key r hsr]
  generalize lowN key r = a at *
  clear hsr
  obtain ⟨i0, hi0, hz0, hz1, hz2⟩ := info_parts info_in
  go_enter Tryd.func10, Tryd.ntmps10
  go_wp2_with fail
  refine HS.out.mono ?_
  rintro e w1 ⟨v1, rfl, hrow, hb1⟩
  obtain ⟨a1, cap1, rfl⟩ := hrow.form
  have HR : Hid (IsRow w1 1 (.slice a1 r.length cap1) r.length (nCells r)) := hrow
  have HB1 : Hid (Below w.heap.size w w1) := hb1
  clear hrow hb1 HS
  go_wp2_with fail
  go_loopw [6] (fun i wr => ∃ k : Nat, k ≤ a ∧ i = .int .i64 (k : Int) ∧ Below w1.heap.size w1 wr) (fun i _ => a - (intOf i).toNat)
  case atStart => exact ⟨0, Nat.zero_le _, rfl, Below.refl _ _⟩
  case round =>
    obtain ⟨k, hk, rfl, hB⟩ := hrel
    by_cases hka : k < a
    · have hkr : k < r.length := by omega
      have dk : decide ((k : Int) < r.length) = true := by simp; omega
      obtain ⟨b, off, rfl, hlt, hcap, ck⟩ := n_at (HR.out.below hB) k hkr
      have hp := (HLow.out k hkr).2 hka
      obtain ⟨n1, n2⟩ := HNode.out _ (List.getElem_mem hkr)
      have HP : Hid (∀ w, Calls Tryd.prog 23 #[.int .i64 (r[k] : Int)] w fun e w' => e = .returned (.int .u64 (pt r[k] : Int)) ∧ Below w.heap.size w w') := fun w => by
        have := refPoint_any (r[k] : Int) w
        rw [ptI, if_pos (isN_of (by omega) (by omega)), Int.toNat_natCast] at this
        exact this
      generalize pt r[k] = y at *
      generalize r[k]'hkr = x at *
      have dp : decide (y < key) = true := by simpa using hp
      go_wp2_with fail
      refine (HP.out _).mono ?_
      rintro e w2 ⟨rfl, hb2⟩
      have HB2 : Hid (Below w1.heap.size w1 w2) := hB.trans (hb2.mono hB.size)
      clear hb2 hB
      go_wp2
      go_roundw
      case rel => exact ⟨k + 1, by omega, by simp, HB2.out⟩
      case measure => simp [intOf]; omega
    · have hk' : k = a := by omega
      subst hk'
      have key2 : ∀ (W : World), Below w1.heap.size w1 W → True := fun _ _ => trivial
      clear key2
      by_cases hkr : k < r.length
      · have dk : decide ((k : Int) < r.length) = true := by simp; omega
        obtain ⟨b, off, rfl, hlt, hcap, ck⟩ := n_at (HR.out.below hB) k hkr
        have hp : ¬ pt r[k] < key := fun h => absurd ((HLow.out k hkr).1 h) (Nat.lt_irrefl _)
        obtain ⟨n1, n2⟩ := HNode.out _ (List.getElem_mem hkr)
        have HP : Hid (∀ w, Calls Tryd.prog 23 #[.int .i64 (r[k] : Int)] w fun e w' => e = .returned (.int .u64 (pt r[k] : Int)) ∧ Below w.heap.size w w') := fun w => by
          have := refPoint_any (r[k] : Int) w
          rw [ptI, if_pos (isN_of (by omega) (by omega)), Int.toNat_natCast] at this
          exact this
        generalize pt r[k] = y at *
        generalize hx : r[k]'hkr = x at *
        have dp : decide (y < key) = false := by simpa using hp
        clear hx
        go_wp2_with fail
        refine (HP.out _).mono ?_
        rintro e w2 ⟨rfl, hb2⟩
        have HB2 : Hid (Below w1.heap.size w1 w2) := hB.trans (hb2.mono hB.size)
        clear hb2 hB HP ck
        go_wp2_with fail
        go_loopw [7, 8] (fun o i wq => ∃ m : Nat, k ≤ m ∧ m ≤ r.length ∧ i = .int .i64 (m : Int) ∧ wq.ownsRow w1.heap.size 3 1 o (m - k) (nCells ((r.drop k).take (m - k))) ∧ Below w1.heap.size w1 wq) (fun _ i _ => r.length - (intOf i).toNat)
        case atStart => exact ⟨k, Nat.le_refl _, hal, rfl, by rw [Nat.sub_self]; exact World.ownsRow_nil _ _ _ _, HB2.out⟩
        case round =>
          obtain ⟨m, hkm, hmr, rfl, hown, hB⟩ := hrel
          have hsz := hB.size
          by_cases hlm : m < r.length
          · have dm : decide ((m : Int) < r.length) = true := by simp; omega
            obtain ⟨b, off, hbo, hlt, hcap, cm⟩ := n_at (HR.out.below hB) m hlm
            try cases hbo
            try subst hbo
            have hdl : m - k < (r.drop k).length := by rw [List.length_drop]; omega
            have HT : Hid (nCells ((r.drop k).take (m + 1 - k)) = nCells ((r.drop k).take (m - k)) ++ [.int .i64 (r[m] : Int)]) := by
              show _ = _
              rw [show m + 1 - k = (m - k) + 1 by omega, nCells_take _ _ hdl]
              have : (r.drop k)[m - k] = r[m] := by
                rw [List.getElem_drop]
                congr 1
                omega
              rw [this]
            have HO : Hid (wr.ownsRow w1.heap.size 3 1 u7 (m - k) (nCells ((r.drop k).take (m - k)))) := hown
            have HBm : Hid (Below w1.heap.size w1 wr) := hB
            generalize hx : r[m]'hlm = x at *
            clear hown hB hx
            have hmk : m - k ≤ 15 := by omega
            go_wp2_with (at_builtin; go_loud (refine wpl_app1 wr rfl (.tmp 34) (.tmp 39) 23 3 rfl i0 _ 8 Tryd.underlying23 hi0 hz0 hz1 hz2 rfl w1.heap.size u7 (m - k) _ rfl HO.out (.int .i64 (x : Int)) _ rfl rfl rfl (by omega) (by unfold maxLen; omega) hsz ?_; intro v4 w4 hown4 hb4 hne4))
            have HO4 : Hid (w4.ownsRow w1.heap.size 3 1 v4 (m + 1 - k) (nCells ((r.drop k).take (m + 1 - k)))) := by
              show World.ownsRow _ _ _ _ _ _ _
              rw [HT.out, show m + 1 - k = (m - k) + 1 by omega]
              exact hown4
            have HB4 : Hid (Below w1.heap.size w1 w4) := HBm.out.trans hb4
            clear hown4 hb4 HT HO hne4
            go_wp2
            go_roundw
            case rel => exact ⟨m + 1, by omega, by omega, by simp, HO4.out, HB4.out⟩
            case measure => simp [intOf]; omega
          · have dm : decide ((m : Int) < r.length) = false := by simp; omega
            have hm' : m = r.length := by omega
            subst hm'
            rw [List.take_of_length_le (by rw [List.length_drop]; exact Nat.le_refl _)] at hown
            have HO3 : Hid (wr.ownsRow w1.heap.size 3 1 u7 (r.length - k) (nCells (r.drop k))) := hown
            have HB3 : Hid (Below w1.heap.size w1 wr) := hB
            clear hown hB
            go_wp2_with fail
            go_loopw [7, 9] (fun o i wq => ∃ j : Nat, j ≤ k ∧ i = .int .i64 (j : Int) ∧ wq.ownsRow w1.heap.size 3 1 o (r.length - k + j) (nCells (r.drop k ++ r.take j)) ∧ Below w1.heap.size w1 wq) (fun _ i _ => k - (intOf i).toNat)
            case atStart => exact ⟨0, Nat.zero_le _, rfl, by simpa using HO3.out, HB3.out⟩
            case round =>
              obtain ⟨j, hj, rfl, hown, hB⟩ := hrel
              have hsz := hB.size
              by_cases hlj : j < k
              · have dj : decide (j < k) = true := by simpa using hlj
                have hjr : j < r.length := by omega
                obtain ⟨b, off, hbo, hlt, hcap, cj⟩ := n_at (HR.out.below hB) j hjr
                try cases hbo
                try subst hbo
                have HT : Hid (nCells (r.drop k ++ r.take (j + 1)) = nCells (r.drop k ++ r.take j) ++ [.int .i64 (r[j] : Int)]) := by
                  show _ = _
                  rw [nCells_app, nCells_app, nCells_take r j hjr, List.append_assoc]
                have HO : Hid (wr.ownsRow w1.heap.size 3 1 u7 (r.length - k + j) (nCells (r.drop k ++ r.take j))) := hown
                have HBm : Hid (Below w1.heap.size w1 wr) := hB
                generalize hx : r[j]'hjr = x at *
                clear hown hB hx
                go_wp2_with (at_builtin; go_loud (refine wpl_app1 wr rfl (.tmp 46) (.tmp 51) 23 3 rfl i0 _ 8 Tryd.underlying23 hi0 hz0 hz1 hz2 rfl w1.heap.size u7 (r.length - k + j) _ rfl HO.out (.int .i64 (x : Int)) _ rfl rfl rfl (by omega) (by unfold maxLen; omega) hsz ?_; intro v4 w4 hown4 hb4 hne4))
                have HO4 : Hid (w4.ownsRow w1.heap.size 3 1 v4 (r.length - k + (j + 1)) (nCells (r.drop k ++ r.take (j + 1)))) := by show World.ownsRow _ _ _ _ _ _ _; rw [HT.out, ← Nat.add_assoc]; exact hown4
                have HB4 : Hid (Below w1.heap.size w1 w4) := HBm.out.trans hb4
                clear hown4 hb4 HT HO hne4
                go_wp2
                go_roundw
                case rel => exact ⟨j + 1, by omega, by simp, HO4.out, HB4.out⟩
                case measure => simp [intOf]; omega
              · have dj : decide (j < k) = false := by simpa using hlj
                have hj' : j = k := by omega
                subst hj'
                have HO : Hid (IsRow wr 1 u7 (r.drop j ++ r.take j).length (nCells (r.drop j ++ r.take j))) := by
                  show IsRow _ _ _ _ _
                  rw [List.length_append, List.length_drop, List.length_take, Nat.min_eq_left (by omega)]
                  exact IsRow.own hown
                have HB : Hid (Below w.heap.size w wr) := HB1.out.trans (hB.mono HB1.out.size)
                clear hown hB
                go_wp2
                go_ret
                exact ⟨_, rfl, HO.out, HB.out⟩
      · have dk : decide ((k : Int) < r.length) = false := by simp; omega
        have HB2 : Hid (Below w1.heap.size w1 wr) := hB
        clear hB
        go_wp2_with fail
        go_loopw [7, 8] (fun o i wq => ∃ m : Nat, k ≤ m ∧ m ≤ r.length ∧ i = .int .i64 (m : Int) ∧ wq.ownsRow w1.heap.size 3 1 o (m - k) (nCells ((r.drop k).take (m - k))) ∧ Below w1.heap.size w1 wq) (fun _ i _ => r.length - (intOf i).toNat)
        case atStart => exact ⟨k, Nat.le_refl _, hal, rfl, by rw [Nat.sub_self]; exact World.ownsRow_nil _ _ _ _, HB2.out⟩
        case round =>
          obtain ⟨m, hkm, hmr, rfl, hown, hB⟩ := hrel
          have hsz := hB.size
          by_cases hlm : m < r.length
          · exact absurd hlm (by omega)
          · have dm : decide ((m : Int) < r.length) = false := by simp; omega
            have hm' : m = r.length := by omega
            subst hm'
            rw [List.take_of_length_le (by rw [List.length_drop]; exact Nat.le_refl _)] at hown
            have HO3 : Hid (wr.ownsRow w1.heap.size 3 1 u7 (r.length - k) (nCells (r.drop k))) := hown
            have HB3 : Hid (Below w1.heap.size w1 wr) := hB
            clear hown hB
            go_wp2_with fail
            go_loopw [7, 9] (fun o i wq => ∃ j : Nat, j ≤ k ∧ i = .int .i64 (j : Int) ∧ wq.ownsRow w1.heap.size 3 1 o (r.length - k + j) (nCells (r.drop k ++ r.take j)) ∧ Below w1.heap.size w1 wq) (fun _ i _ => k - (intOf i).toNat)
            case atStart => exact ⟨0, Nat.zero_le _, rfl, by simpa using HO3.out, HB3.out⟩
            case round =>
              obtain ⟨j, hj, rfl, hown, hB⟩ := hrel
              have hsz := hB.size
              by_cases hlj : j < k
              · have dj : decide (j < k) = true := by simpa using hlj
                have hjr : j < r.length := by omega
                obtain ⟨b, off, hbo, hlt, hcap, cj⟩ := n_at (HR.out.below hB) j hjr
                try cases hbo
                try subst hbo
                have HT : Hid (nCells (r.drop k ++ r.take (j + 1)) = nCells (r.drop k ++ r.take j) ++ [.int .i64 (r[j] : Int)]) := by
                  show _ = _
                  rw [nCells_app, nCells_app, nCells_take r j hjr, List.append_assoc]
                have HO : Hid (wr.ownsRow w1.heap.size 3 1 u7 (r.length - k + j) (nCells (r.drop k ++ r.take j))) := hown
                have HBm : Hid (Below w1.heap.size w1 wr) := hB
                generalize hx : r[j]'hjr = x at *
                clear hown hB hx
                go_wp2_with (at_builtin; go_loud (refine wpl_app1 wr rfl (.tmp 46) (.tmp 51) 23 3 rfl i0 _ 8 Tryd.underlying23 hi0 hz0 hz1 hz2 rfl w1.heap.size u7 (r.length - k + j) _ rfl HO.out (.int .i64 (x : Int)) _ rfl rfl rfl (by omega) (by unfold maxLen; omega) hsz ?_; intro v4 w4 hown4 hb4 hne4))
                have HO4 : Hid (w4.ownsRow w1.heap.size 3 1 v4 (r.length - k + (j + 1)) (nCells (r.drop k ++ r.take (j + 1)))) := by show World.ownsRow _ _ _ _ _ _ _; rw [HT.out, ← Nat.add_assoc]; exact hown4
                have HB4 : Hid (Below w1.heap.size w1 w4) := HBm.out.trans hb4
                clear hown4 hb4 HT HO hne4
                go_wp2
                go_roundw
                case rel => exact ⟨j + 1, by omega, by simp, HO4.out, HB4.out⟩
                case measure => simp [intOf]; omega
              · have dj : decide (j < k) = false := by simpa using hlj
                have hj' : j = k := by omega
                subst hj'
                have HO : Hid (IsRow wr 1 u7 (r.drop j ++ r.take j).length (nCells (r.drop j ++ r.take j))) := by
                  show IsRow _ _ _ _ _
                  rw [List.length_append, List.length_drop, List.length_take, Nat.min_eq_left (by omega)]
                  exact IsRow.own hown
                have HB : Hid (Below w.heap.size w wr) := HB1.out.trans (hB.mono HB1.out.size)
                clear hown hB
                go_wp2
                go_ret
                exact ⟨_, rfl, HO.out, HB.out⟩
set_option maxRecDepth 100000 in
theorem refOwner_any (key : Nat) (v : Value) (l : List Int) (w : World) (hr : IsRow w 1 v l.length (iCells l)) (hl : l.length ≤ 1000) :
    Calls Tryd.prog 19 #[.int .u64 (key : Int), v] w fun e w' => e = .returned (.int .i64 (ownL key l : Int)) ∧ Below w.heap.size w w' := by
  have HS : Hid (Calls Tryd.prog 10 #[.int .u64 (key : Int), v] w fun e w' => RwPost (hsL key (rgL l)) w e w') := refHeirs_any key v l w hr hl
  unfold ownL
  clear hr
  generalize hsL key (rgL l) = H at *
  cases H with
  | nil =>
    go_enter Tryd.func19, Tryd.ntmps19
    go_wp2_with fail
    refine HS.out.mono ?_
    rintro e w1 ⟨v1, rfl, hrow, hb1⟩
    obtain ⟨a1, cap1, rfl⟩ := hrow.form
    clear hrow
    go_wp2
    go_ret
    exact ⟨rfl, hb1⟩
  | cons x t =>
    go_enter Tryd.func19, Tryd.ntmps19
    go_wp2_with fail
    refine HS.out.mono ?_
    rintro e w1 ⟨v1, rfl, hrow, hb1⟩
    obtain ⟨a1, cap1, rfl⟩ := hrow.form
    obtain ⟨b, off, rfl, hlt, hcap, c0⟩ := n_at hrow 0 (by simp)
    have c0 : w1.cell? ⟨b, off, none⟩ = some (.int .i64 (x : Int)) := c0
    have HB : Hid (Below w.heap.size w w1) := hb1
    generalize hn : (x :: t).length = n at *
    have hn0 : 0 < n := by rw [← hn]; simp
    have d0 : ((n : Int) == 0) = false := by rw [beq_eq_false_iff_ne]; omega
    clear hrow hb1 hn
    go_wp2
    go_ret
    exact ⟨rfl, HB.out⟩
end Go.Proofs.YtmnmjphgpblbhaaDoor
/- The reference's Fingers: its walk. -/
namespace Go.Proofs.YtmnmjphgpblbhaaDoor
open Go.RowKit

theorem get_inj {r : List Nat} (hd : r.Nodup) {i j : Nat} (hi : i < r.length) (hj : j < r.length) (e : r[i] = r[j]) : i = j := by
  apply Classical.byContradiction
  intro hn
  rw [List.nodup_iff_pairwise_ne, List.pairwise_iff_getElem] at hd
  rcases Nat.lt_or_ge i j with h | h
  · exact hd i j hi hj h e
  · exact hd j i hj hi (by omega) e.symm
theorem own_at (key : Nat) (l : List Int) (h0 : 0 < (rgL l).length) : ∃ hq : owI key (rgL l) < (rgL l).length, ownL key l = (rgL l)[owI key (rgL l)] := by
  have hq := owI_lt key _ (rgL_sorted l) h0
  refine ⟨hq, ?_⟩
  have := owner_at key _ (rgL_sorted l) h0
  unfold ownL
  rw [List.head?_eq_getElem?, ← this, List.getElem?_eq_getElem hq]
  rfl
/-- Fingers as nodes. -/
def gnL (a : Nat) (r : List Nat) (p k : Nat) : List Nat := (fgL a r p k).map (fun i => r[i]!)
theorem gn_mem {a : Nat} {r : List Nat} {p k q : Nat} (hd : r.Nodup) (hs : r.Pairwise (fun a b => pt a < pt b)) (hq : q < r.length) : r[q] ∈ gnL a r p k ↔ q ∈ fgL a r p k := by
  unfold gnL
  rw [List.mem_map]
  constructor
  · rintro ⟨i, hi, e⟩
    have hir := fgL_lt hs (by omega) k i hi
    rw [getElem!_pos r i hir] at e
    rw [← get_inj hd hir hq e]
    exact hi
  · intro h
    exact ⟨q, h, getElem!_pos r q hq⟩
theorem gn_step {a : Nat} {r : List Nat} {p k : Nat} (hd : r.Nodup) (hs : r.Pairwise (fun a b => pt a < pt b)) (ha : a < r.length) (hq : owI (fkey p k) r < r.length) :
    gnL a r p (k + 1) = if r[owI (fkey p k) r] ≠ r[a] ∧ r[owI (fkey p k) r] ∉ gnL a r p k then gnL a r p k ++ [r[owI (fkey p k) r]] else gnL a r p k := by
  by_cases h : owI (fkey p k) r ≠ a ∧ owI (fkey p k) r ∉ fgL a r p k
  · rw [if_pos ⟨fun e => h.1 (get_inj hd hq ha e), fun e => h.2 ((gn_mem hd hs hq).1 e)⟩]
    unfold gnL
    rw [show fgL a r p (k + 1) = fgL a r p k ++ [owI (fkey p k) r] from if_pos h, List.map_append, List.map_cons, getElem!_pos r _ hq]
    rfl
  · rw [if_neg (fun e => h ⟨fun c => e.1 (by simp only [c]), fun c => e.2 ((gn_mem hd hs hq).2 c)⟩)]
    unfold gnL
    rw [show fgL a r p (k + 1) = fgL a r p k from if_neg h]
theorem gn_len (a : Nat) (r : List Nat) (p k : Nat) : (gnL a r p k).length ≤ k := by unfold gnL; rw [List.length_map]; exact fgL_len a r p k
theorem has_iff {l : List Int} (h : NodesP l) (n : Int) : n ∈ l ↔ ∃ (a : Nat) (ha : a < (rgL l).length), ((rgL l)[a] : Int) = n := by
  rw [← rgL_mem h, List.mem_map]
  constructor
  · rintro ⟨m, hm, e⟩
    obtain ⟨a, ha, rfl⟩ := List.mem_iff_getElem.1 hm
    exact ⟨a, ha, e⟩
  · rintro ⟨a, ha, e⟩
    exact ⟨_, List.getElem_mem ha, e⟩
set_option maxRecDepth 100000 in
set_option maxHeartbeats 4000000 in
theorem refFingers_any (n : Int) (v : Value) (l : List Int) (w : World) (hr : IsRow w 1 v l.length (iCells l)) (hl : l.length ≤ 1000) :
    Calls Tryd.prog 27 #[.int .i64 n, v] w fun e w' => RwPost (FgL n (rgL l)) w e w' := by
  obtain ⟨a0, cap0, rfl⟩ := hr.form
  have HR : Hid (IsRow w 1 (.slice a0 l.length cap0) l.length (iCells l)) := hr
  have HNd : Hid (Calls Tryd.prog 14 #[.slice a0 l.length cap0] w fun e w' => e = .returned (.bool (nodesB l)) ∧ Below w.heap.size w w') := refNodes_any _ l w hr (by omega)
  clear hr
  by_cases hN : NodesP l
  rotate_left
  · rw [nodesB_false hN] at HNd
    have HG : Hid (FgL n (rgL l) = []) := by show _ = _; rw [rgL_not hN]; rfl
    go_enter Tryd.func27, Tryd.ntmps27
    go_wp2_with fail
    refine HNd.out.mono ?_
    rintro e w1 ⟨rfl, hb1⟩
    have HB : Hid (Below w.heap.size w w1) := hb1
    clear hb1
    go_wp2
    go_ret
    exact ⟨_, rfl, by rw [HG.out]; exact IsRow.nil _ _, HB.out⟩
  rw [nodesB_true hN] at HNd
  have HHs : Hid (∀ w, IsRow w 1 (.slice a0 l.length cap0) l.length (iCells l) → Calls Tryd.prog 29 #[.slice a0 l.length cap0, .int .i64 n] w fun e w' => e = .returned (.bool (decide (n ∈ l))) ∧ w' = w) := fun w h => has_any _ l n w h (by omega)
  rcases pl_cases n (rgL l) with ⟨hp, hno⟩ | ⟨a, ha, hp, hna⟩
  · have hnl : ¬ n ∈ l := fun h => by
      obtain ⟨a, ha, e⟩ := (has_iff hN n).1 h
      exact hno _ (List.getElem_mem ha) e
    rw [decide_eq_false hnl] at HHs
    have HG : Hid (FgL n (rgL l) = []) := FgL_not hp
    go_enter Tryd.func27, Tryd.ntmps27
    go_wp2_with fail
    refine HNd.out.mono ?_
    rintro e w1 ⟨rfl, hb1⟩
    have HR1 : Hid (IsRow w1 1 (.slice a0 l.length cap0) l.length (iCells l)) := HR.out.below hb1
    have HB : Hid (Below w.heap.size w w1) := hb1
    clear hb1
    go_wp2_with fail
    refine (HHs.out _ HR1.out).mono ?_
    rintro e w2 ⟨rfl, hw⟩
    subst hw
    go_wp2
    go_ret
    exact ⟨_, rfl, by rw [HG.out]; exact IsRow.nil _ _, HB.out⟩
  have hnl : n ∈ l := (has_iff hN n).2 ⟨a, ha, hna⟩
  rw [decide_eq_true hnl] at HHs
  have HG : Hid (FgL n (rgL l) = gnL a (rgL l) (pt (rgL l)[a]) 64) := FgL_at ha hp
  rw [HG.out]
  have HSt : Hid (∀ k, ∃ q, gnL a (rgL l) (pt (rgL l)[a]) (k + 1) = (if q ≠ (rgL l)[a] ∧ q ∉ gnL a (rgL l) (pt (rgL l)[a]) k then gnL a (rgL l) (pt (rgL l)[a]) k ++ [q] else gnL a (rgL l) (pt (rgL l)[a]) k) ∧ ownL (fkey (pt (rgL l)[a]) k) l = q) := fun k => by
    obtain ⟨hq, e⟩ := own_at (fkey (pt (rgL l)[a]) k) l (by omega)
    exact ⟨_, gn_step (rgL_nodup l) (rgL_sorted l) ha hq, e⟩
  have HLn : Hid (∀ k, (gnL a (rgL l) (pt (rgL l)[a]) k).length ≤ k) := fun k => gn_len _ _ _ k
  have h0 : gnL a (rgL l) (pt (rgL l)[a]) 0 = [] := rfl
  obtain ⟨n1, n2⟩ := rgL_node (List.getElem_mem ha)
  have HP : Hid (∀ w, Calls Tryd.prog 23 #[.int .i64 n] w fun e w' => e = .returned (.int .u64 (pt (rgL l)[a] : Int)) ∧ Below w.heap.size w w') := fun w => by
    have := refPoint_any n w
    rw [← hna] at this ⊢
    rw [ptI, if_pos (isN_of (by omega) (by omega)), Int.toNat_natCast] at this
    exact this
  have HOw : Hid (∀ (key : Nat) w, IsRow w 1 (.slice a0 l.length cap0) l.length (iCells l) → Calls Tryd.prog 19 #[.int .u64 (key : Int), .slice a0 l.length cap0] w fun e w' => e = .returned (.int .i64 (ownL key l : Int)) ∧ Below w.heap.size w w') := fun key w h => refOwner_any key _ l w h hl
  have HNa : Hid (((rgL l)[a] : Int) = n) := hna
  generalize (rgL l)[a] = N at *
  generalize pt N = p at *
  generalize hGG : gnL a (rgL l) p = G at *
  clear hp ha HG hN hnl hna hGG n1 n2
  obtain ⟨i0, hi0, hz0, hz1, hz2⟩ := info_parts info_in
  go_enter Tryd.func27, Tryd.ntmps27
  go_wp2_with fail
  refine HNd.out.mono ?_
  rintro e w1 ⟨rfl, hb1⟩
  have HR1 : Hid (IsRow w1 1 (.slice a0 l.length cap0) l.length (iCells l)) := HR.out.below hb1
  have HB1 : Hid (Below w.heap.size w w1) := hb1
  clear hb1 HR HNd
  go_wp2_with fail
  refine (HHs.out _ HR1.out).mono ?_
  rintro e w2 ⟨rfl, hw⟩
  subst hw
  clear HHs
  go_wp2_with fail
  go_loopw [5, 6] (fun o i wr => ∃ k : Nat, k ≤ 64 ∧ i = .int .i64 (k : Int) ∧ wr.ownsRow w2.heap.size 3 1 o (G k).length (nCells (G k)) ∧ Below w2.heap.size w2 wr) (fun _ i _ => 64 - (intOf i).toNat)
  case atStart => exact ⟨0, Nat.zero_le _, rfl, by rw [h0]; exact World.ownsRow_nil _ _ _ _, Below.refl _ _⟩
  case round =>
    obtain ⟨k, hk, rfl, hown, hB⟩ := hrel
    have hsz := hB.size
    by_cases hlk : k < 64
    · have dk : decide ((k : Int) < 64) = true := by simp; omega
      have HRr : Hid (IsRow wr 1 (.slice a0 l.length cap0) l.length (iCells l)) := HR1.out.below hB
      have HO : Hid (wr.ownsRow w2.heap.size 3 1 u5 (G k).length (nCells (G k))) := hown
      have HBk : Hid (Below w2.heap.size w2 wr) := hB
      obtain ⟨q, hst, hoq⟩ := HSt.out k
      have hll := HLn.out k
      have hwk := wrap_key p k
      have HOq : Hid (∀ w, IsRow w 1 (.slice a0 l.length cap0) l.length (iCells l) → Calls Tryd.prog 19 #[.int .u64 (IntKind.u64.wrap ((p : Int) + IntKind.u64.wrap (2 ^ k))), .slice a0 l.length cap0] w fun e w' => e = .returned (.int .i64 (q : Int)) ∧ Below w.heap.size w w') := fun w h => by
        have := HOw.out (fkey p k) w h
        rw [hoq] at this
        rw [hwk]
        exact this
      have HF : Hid (G (k + 1) = if q ≠ N ∧ q ∉ G k then G k ++ [q] else G k) := hst
      generalize hGk : G k = L at *
      clear hown hB hst hoq hwk hGk
      go_wp2_with fail
      refine (HP.out _).mono ?_
      rintro e w3 ⟨rfl, hb3⟩
      have HR3 : Hid (IsRow w3 1 (.slice a0 l.length cap0) l.length (iCells l)) := HRr.out.below hb3
      have HO3 : Hid (w3.ownsRow w2.heap.size 3 1 u5 L.length (nCells L)) := own_belowJ HO.out hb3
      have HB3 : Hid (Below w2.heap.size w2 w3) := HBk.out.trans (hb3.mono hsz)
      clear hb3 HRr HO HBk
      go_wp2_with fail
      refine (HOq.out _ HR3.out).mono ?_
      rintro e w4 ⟨rfl, hb4⟩
      have HO4 : Hid (w4.ownsRow w2.heap.size 3 1 u5 L.length (nCells L)) := own_belowJ HO3.out hb4
      have HB4 : Hid (Below w2.heap.size w2 w4) := HB3.out.trans (hb4.mono HB3.out.size)
      have hs4 := HB4.out.size
      clear hb4 HR3 HO3 HB3 HOq
      by_cases hqa : q = N
      · rw [if_neg (by rw [hqa]; simp)] at HF
        have dq : ((q : Int) != n) = false := by rw [hqa, HNa.out]; simp
        have HFF : Hid (G (k + 1) = L) := HF.out
        clear HF hqa
        go_wp2
        go_roundw
        case rel => exact ⟨k + 1, by omega, by simp, by rw [HFF.out]; exact HO4.out, HB4.out⟩
        case measure => simp [intOf]; omega
      · have dq : ((q : Int) != n) = true := by rw [bne_iff_ne, ← HNa.out]; omega
        have hm := mem_cast q L
        have HC : Hid (Calls Tryd.prog 29 #[u5, .int .i64 (q : Int)] w4 fun e w' => e = .returned (.bool (decide (q ∈ L))) ∧ w' = w4) := by
          have := has_any u5 (L.map fun (n : Nat) => (n : Int)) (q : Int) w4 (by rw [List.length_map, ← nCells_is]; exact IsRow.own HO4.out) (by rw [List.length_map]; omega)
          rw [hm] at this
          exact this
        clear hm
        by_cases hqL : q ∈ L
        · rw [decide_eq_true hqL] at HC
          rw [if_neg (by simp [hqL])] at HF
          have HFF : Hid (G (k + 1) = L) := HF.out
          clear HF
          go_wp2_with fail
          refine HC.out.mono ?_
          rintro e w5 ⟨rfl, hw⟩
          subst hw
          go_wp2
          go_roundw
          case rel => exact ⟨k + 1, by omega, by simp, by rw [HFF.out]; exact HO4.out, HB4.out⟩
          case measure => simp [intOf]; omega
        · rw [decide_eq_false hqL] at HC
          rw [if_pos ⟨hqa, hqL⟩] at HF
          have HFF : Hid (G (k + 1) = L ++ [q]) := HF.out
          clear HF
          go_wp2_with fail
          refine HC.out.mono ?_
          rintro e w5 ⟨rfl, hw⟩
          subst hw
          go_wp2_with (at_builtin; go_loud (refine wpl_app1 w5 rfl (.tmp 38) (.tmp 40) 23 3 rfl i0 _ 8 Tryd.underlying23 hi0 hz0 hz1 hz2 rfl w2.heap.size u5 L.length _ rfl HO4.out (.int .i64 (q : Int)) _ rfl rfl rfl (by omega) (by unfold maxLen; omega) hs4 ?_; intro v6 w6 hown6 hb6 hne6))
          have HO6 : Hid (w6.ownsRow w2.heap.size 3 1 v6 (G (k + 1)).length (nCells (G (k + 1)))) := by show World.ownsRow _ _ _ _ _ _ _; rw [HFF.out, nCells_snoc, List.length_append]; exact hown6
          have HB6 : Hid (Below w2.heap.size w2 w6) := HB4.out.trans hb6
          clear hown6 hb6 hne6 HO4 HB4
          go_wp2
          go_roundw
          case rel => exact ⟨k + 1, by omega, by simp, HO6.out, HB6.out⟩
          case measure => simp [intOf]; omega
    · have dk : decide ((k : Int) < 64) = false := by simp; omega
      have hk' : k = 64 := by omega
      subst hk'
      have HO : Hid (IsRow wr 1 u5 (G 64).length (nCells (G 64))) := IsRow.own hown
      have HB : Hid (Below w.heap.size w wr) := HB1.out.trans (hB.mono HB1.out.size)
      clear hown hB
      go_wp2
      go_ret
      exact ⟨_, rfl, HO.out, HB.out⟩
end Go.Proofs.YtmnmjphgpblbhaaDoor
/- Where a way goes: plain; ring.far, ring.hop: walks. -/
namespace Go.Proofs.YtmnmjphgpblbhaaDoor
open Go.RowKit

/-- How far it is to a key. -/
def dK (key p : Nat) : Nat := (((key : Int) - p) % 18446744073709551616).toNat
theorem dK_wrap (key p : Nat) : IntKind.u64.wrap ((key : Int) - p) = (dK key p : Int) := by
  rw [IntKind.wrap_u64]
  unfold dK
  omega
/-- The least of the first so many, if one is less than a bound. -/
def lst (ds : List Nat) (d0 : Nat) : Option Nat → Nat
  | none => d0
  | some b => ds[b]!
def bst (ds : List Nat) (d0 : Nat) : Nat → Option Nat
  | 0 => none
  | k + 1 => if ds[k]! < lst ds d0 (bst ds d0 k) then some k else bst ds d0 k
theorem bst_lt (ds : List Nat) (d0 : Nat) : ∀ (k b : Nat), bst ds d0 k = some b → b < k ∧ ds[b]! < d0
  | 0, b, h => by cases h
  | k + 1, b, h => by
    unfold bst at h
    split at h
    · rename_i hl
      cases h
      refine ⟨Nat.lt_succ_self _, ?_⟩
      cases hb : bst ds d0 k with
      | none => rw [hb] at hl; exact hl
      | some c =>
        rw [hb] at hl
        exact Nat.lt_trans hl (bst_lt ds d0 k c hb).2
    · have := bst_lt ds d0 k b h
      exact ⟨by omega, this.2⟩
/-- The first finger is not the node itself, where there are two. -/
theorem succ_ne (r : List Nat) (hs : r.Pairwise (fun a b => pt a < pt b)) (a : Nat) (ha : a < r.length) (h2 : 2 ≤ r.length) : owI (fkey (pt r[a]) 0) r ≠ a := by
  have hpl := pt_lt r[a]
  have hat := low_at (fkey (pt r[a]) 0) r hs a ha
  have next : a = 0 → pt r[a] < pt (r[1]'(by omega)) := fun e => by
    subst e
    exact List.pairwise_iff_getElem.1 hs 0 1 (by omega) (by omega) (by omega)
  have hpl1 := pt_lt (r[1]'(by omega))
  unfold owI
  unfold fkey at *
  by_cases hw : pt r[a] + 2 ^ 0 < 18446744073709551616
  · rw [Nat.mod_eq_of_lt hw] at hat ⊢
    split
    · have := hat.1 (by omega)
      unfold lowN at this
      omega
    · rename_i hno
      intro e
      have h1 := next e.symm
      apply hno
      rw [List.any_eq_true]
      exact ⟨r[1]'(by omega), List.getElem_mem _, by simp; omega⟩
  · have e0 : (pt r[a] + 2 ^ 0) % 18446744073709551616 = 0 := by
      have : pt r[a] + 2 ^ 0 = 18446744073709551616 := by omega
      rw [this]
    rw [e0]
    intro e
    have ea : a = 0 := by
      rw [← e]
      split
      · rw [List.filter_eq_nil_iff.2 (by simp)]
        rfl
      · rfl
    have h1 := next ea
    omega
theorem fg_mono (a : Nat) (r : List Nat) (p : Nat) : ∀ k, (fgL a r p k).length ≤ (fgL a r p (k + 1)).length := fun k => by
  rw [show fgL a r p (k + 1) = if owI (fkey p k) r ≠ a ∧ owI (fkey p k) r ∉ fgL a r p k then fgL a r p k ++ [owI (fkey p k) r] else fgL a r p k from rfl]
  split
  · rw [List.length_append]; omega
  · exact Nat.le_refl _
theorem fg_some (r : List Nat) (hs : r.Pairwise (fun a b => pt a < pt b)) (a : Nat) (ha : a < r.length) (h2 : 2 ≤ r.length) : ∀ k, 1 ≤ (fgL a r (pt r[a]) (k + 1)).length
  | 0 => by
    rw [show fgL a r (pt r[a]) (0 + 1) = if owI (fkey (pt r[a]) 0) r ≠ a ∧ owI (fkey (pt r[a]) 0) r ∉ [] then [] ++ [owI (fkey (pt r[a]) 0) r] else [] from rfl, if_pos ⟨succ_ne r hs a ha h2, by simp⟩]
    simp
  | k + 1 => Nat.le_trans (fg_some r hs a ha h2 k) (fg_mono _ _ _ _)
/-- The distances of fingers. -/
def dsL (key : Nat) (r K : List Nat) : List Nat := K.map fun i => dK key (pt r[i]!)
/-- The finger that is taken. -/
def hopK (key : Nat) (r K : List Nat) (d0 : Nat) : Nat := K[(bst (dsL key r K) d0 K.length).getD 0]!
/-- The place to which the way goes. -/
def hopP (key : Nat) (r : List Nat) (a p : Nat) : Nat := if owI key r ∈ fgL a r p 64 then owI key r else hopK key r (fgL a r p 64) (dK key p)
set_option maxRecDepth 100000 in
theorem far_any (key i : Nat) (v : Value) (r : List Nat) (w : World) (hi : i < r.length) (hr : IsRow w 2 v r.length (stCells r)) :
    Calls Tryd.prog 55 #[.int .i64 (i : Int), .int .u64 (key : Int), v] w fun e w' => e = .returned (.int .u64 (dK key (pt r[i]) : Int)) ∧ w' = w := by
  obtain ⟨a1, cap1, rfl⟩ := hr.form
  obtain ⟨b, off, rfl, hlt, hcap, c0, c1⟩ := st_at hr i hi
  have hw := dK_wrap key (pt r[i])
  generalize pt r[i] = y at *
  rw [← hw]
  clear hr c0 hw
  go_enter Tryd.func55, Tryd.ntmps55
  go_wp2
  go_ret
  exact ⟨rfl, rfl⟩
end Go.Proofs.YtmnmjphgpblbhaaDoor
/- ring.hop, ring.Hop: walks. -/
namespace Go.Proofs.YtmnmjphgpblbhaaDoor
open Go.RowKit

abbrev SH (b o : Nat) (x : Int) (wr w : World) : Prop := w.cell? ⟨b, o, none⟩ = some (.int .i64 x) ∧ b < w.heap.size ∧ Below wr.heap.size wr w
theorem SH_drew {b o : Nat} {x : Int} {wr W : World} (h : SH b o x wr W) : SH b o x wr W.drew := ⟨h.1, h.2.1, h.2.2.drew⟩
theorem ds_at {key : Nat} {r K : List Nat} {k : Nat} (hk : k < K.length) (hr : K[k] < r.length) : (dsL key r K)[k]! = dK key (pt (r[K[k]]'hr)) := by
  unfold dsL
  rw [getElem!_pos _ k (by rw [List.length_map]; exact hk), List.getElem_map, getElem!_pos r _ hr]
set_option maxRecDepth 100000 in
set_option maxHeartbeats 4000000 in
theorem hop_any (key a : Nat) (v : Value) (r : List Nat) (w : World) (ha : a < r.length) (hne : owI key r ≠ a) (hr : IsRow w 2 v r.length (stCells r)) (hs : r.Pairwise (fun a b => pt a < pt b)) (hn : r.length ≤ 15) :
    Calls Tryd.prog 44 #[.int .i64 (a : Int), .int .u64 (key : Int), v] w fun e w' => e = .returned (.int .i64 (hopP key r a (pt r[a]) : Int)) ∧ Below w.heap.size w w' := by
  obtain ⟨a1, cap1, rfl⟩ := hr.form
  have HR : Hid (IsRow w 2 (.slice a1 r.length cap1) r.length (stCells r)) := hr
  have h2 : 2 ≤ r.length := by have := owI_lt key r hs (by omega); omega
  have HFg : Hid (Calls Tryd.prog 45 #[.int .i64 (a : Int), .slice a1 r.length cap1] w fun e w' => RwPost (fgL a r (pt r[a]) 64) w e w') := fingers_any a _ r w ha hr hs hn
  have HOw : Hid (∀ w, IsRow w 2 (.slice a1 r.length cap1) r.length (stCells r) → Calls Tryd.prog 32 #[.int .u64 (key : Int), .slice a1 r.length cap1] w fun e w' => e = .returned (.int .i64 (owI key r : Int)) ∧ Below w.heap.size w w') := fun w h => owner_any key _ r w h hs (by omega)
  have HFar : Hid (∀ (i : Nat) (hi : i < r.length) w, IsRow w 2 (.slice a1 r.length cap1) r.length (stCells r) → Calls Tryd.prog 55 #[.int .i64 (i : Int), .int .u64 (key : Int), .slice a1 r.length cap1] w fun e w' => e = .returned (.int .u64 (dK key (pt r[i]) : Int)) ∧ w' = w) := fun i hi w h => far_any key i _ r w hi h
  have HK1 := fg_some r hs a ha h2 63
  have HKl := fgL_len a r (pt r[a]) 64
  have HKr : Hid (∀ i ∈ fgL a r (pt r[a]) 64, i < r.length) := fgL_lt hs (by omega) 64
  have HFa := HFar.out a ha
  unfold hopP
  generalize fgL a r (pt r[a]) 64 = K at *
  generalize dK key (pt r[a]) = d0 at *
  generalize owI key r = q at *
  have HFA : Hid (∀ w, IsRow w 2 (.slice a1 r.length cap1) r.length (stCells r) → Calls Tryd.prog 55 #[.int .i64 (a : Int), .int .u64 (key : Int), .slice a1 r.length cap1] w fun e w' => e = .returned (.int .u64 (d0 : Int)) ∧ w' = w) := HFa
  clear hr hs hne HFa
  have hK0 : 0 < K.length := HK1
  by_cases hqK : q ∈ K
  · rw [if_pos hqK]
    go_enter Tryd.func44, Tryd.ntmps44
    go_wp2_with fail
    refine HFg.out.mono ?_
    rintro e w1 ⟨v1, rfl, hrow1, hb1⟩
    have HR1 : Hid (IsRow w1 2 (.slice a1 r.length cap1) r.length (stCells r)) := HR.out.below hb1
    have HL1 : Hid (IsRow w1 1 v1 K.length (nCells K)) := hrow1
    have HB1 : Hid (Below w.heap.size w w1) := hb1
    clear hrow1 hb1 HFg
    go_wp2_with fail
    refine (HOw.out _ HR1.out).mono ?_
    rintro e w2 ⟨rfl, hb2⟩
    have HB2 : Hid (Below w.heap.size w w2) := HB1.out.trans (hb2.mono HB1.out.size)
    have HC : Hid (Calls Tryd.prog 54 #[v1, .int .i64 (q : Int)] w2 fun e w' => e = .returned (.bool true) ∧ w' = w2) := by
      have := contains_int v1 (K.map fun (n : Nat) => (n : Int)) (q : Int) w2 (by rw [List.length_map, ← nCells_is]; exact HL1.out.below hb2) (by rw [List.length_map]; omega)
      rw [mem_cast, decide_eq_true hqK] at this
      exact this
    clear hb2 HR1 HL1
    go_wp2_with fail
    refine HC.out.mono ?_
    rintro e w3 ⟨rfl, hw⟩
    subst hw
    go_wp2
    go_ret
    exact ⟨rfl, HB2.out⟩
  rw [if_neg hqK]
  unfold hopK
  have HSt : Hid (∀ k, bst (dsL key r K) d0 (k + 1) = if (dsL key r K)[k]! < lst (dsL key r K) d0 (bst (dsL key r K) d0 k) then some k else bst (dsL key r K) d0 k) := fun k => rfl
  have HDs : Hid (∀ (k : Nat) (hk : k < K.length), (dsL key r K)[k]! = dK key (pt (r[K[k]]'(HKr.out _ (List.getElem_mem hk))))) := fun k hk => ds_at hk _
  have HBl : Hid (∀ k b, bst (dsL key r K) d0 k = some b → b < k) := fun k b h => (bst_lt _ _ k b h).1
  have hb0 : bst (dsL key r K) d0 0 = none := rfl
  generalize dsL key r K = ds at *
  go_enter Tryd.func44, Tryd.ntmps44
  go_wp2_with fail
  refine HFg.out.mono ?_
  rintro e w1 ⟨v1, rfl, hrow1, hb1⟩
  obtain ⟨a3, cap3, rfl⟩ := hrow1.form
  have HR1 : Hid (IsRow w1 2 (.slice a1 r.length cap1) r.length (stCells r)) := HR.out.below hb1
  have HL1 : Hid (IsRow w1 1 (.slice a3 K.length cap3) K.length (nCells K)) := hrow1
  have HB1 : Hid (Below w.heap.size w w1) := hb1
  clear hrow1 hb1 HFg HR
  go_wp2_with fail
  refine (HOw.out _ HR1.out).mono ?_
  rintro e w2 ⟨rfl, hb2⟩
  have HR2 : Hid (IsRow w2 2 (.slice a1 r.length cap1) r.length (stCells r)) := HR1.out.below hb2
  have HL2 : Hid (IsRow w2 1 (.slice a3 K.length cap3) K.length (nCells K)) := HL1.out.below hb2
  have HB2 : Hid (Below w.heap.size w w2) := HB1.out.trans (hb2.mono HB1.out.size)
  have HC : Hid (Calls Tryd.prog 54 #[.slice a3 K.length cap3, .int .i64 (q : Int)] w2 fun e w' => e = .returned (.bool false) ∧ w' = w2) := by
    have := contains_int (.slice a3 K.length cap3) (K.map fun (n : Nat) => (n : Int)) (q : Int) w2 (by rw [List.length_map, ← nCells_is]; exact HL2.out) (by rw [List.length_map]; omega)
    rw [mem_cast, decide_eq_false hqK] at this
    exact this
  clear hb2 HR1 HL1 HB1 HOw
  go_wp2_with fail
  refine HC.out.mono ?_
  rintro e w3 ⟨rfl, hw⟩
  subst hw
  obtain ⟨b3, off3, hbo, hlt3, hcap3, c30⟩ := n_at HL2.out 0 hK0
  subst hbo
  have c30 : w3.cell? ⟨b3, off3, none⟩ = some (.int .i64 (K[0] : Int)) := c30
  have hS : SH b3 off3 (K[0] : Int) w3 w3 := ⟨c30, hlt3, Below.refl _ _⟩
  have HRz : Hid (∀ w', Below w3.heap.size w3 w' → IsRow w' 2 (.slice a1 r.length cap1) r.length (stCells r)) := fun w' h => HR2.out.below h
  have HLz : Hid (∀ w', Below w3.heap.size w3 w' → IsRow w' 1 (.slice (some ⟨b3, off3, none⟩) K.length cap3) K.length (nCells K)) := fun w' h => HL2.out.below h
  obtain ⟨k0, hk0⟩ : ∃ k0, k0 = K[0] := ⟨_, rfl⟩
  rw [← hk0] at c30 hS
  have HK0 : Hid (k0 = K[0]) := hk0
  clear HC c30 hk0 HR2 HL2
  go_wp2_with fail
  go_region_held3 (fun w' => SH b3 off3 (k0 : Int) w3 w') (first | assumption | exact SH_drew (by assumption))
    (first | (go_at_call 55; refine (HFA.out _ (HRz.out _ (Below.drew (And.right (And.right (show SH b3 off3 (k0 : Int) w3 _ by assumption)))))).mono ?_; rintro e w' ⟨rfl, rfl⟩))
  rename_i hS2
  clear hS hS2 HFA
  go_wp2_with fail
  go_loopw [6, 9, 32] (fun nx ls i wr => ∃ k x y : Nat, k ≤ K.length ∧ i = .int .i64 (k : Int) ∧ nx = .int .i64 (x : Int) ∧ ls = .int .u64 (y : Int) ∧ Hid (x = K[(bst ds d0 k).getD 0]!) ∧ Hid (y = lst ds d0 (bst ds d0 k)) ∧ w3.drew = wr) (fun _ _ i _ => K.length - (intOf i).toNat)
  case atStart =>
    refine ⟨0, k0, d0, Nat.zero_le _, rfl, rfl, rfl, ?_, ?_, rfl⟩
    · show _ = _
      rw [hb0, HK0.out]
      exact (getElem!_pos K 0 hK0).symm
    · show _ = _
      rw [hb0]
      rfl
  case round =>
    obtain ⟨k, x, y, hk, rfl, rfl, rfl, HX, HYy, hwr⟩ := hrel
    subst hwr
    have hBw : Below w3.heap.size w3 w3.drew := (Below.refl _ _).drew
    by_cases hlk : k < K.length
    · have dk : decide ((k : Int) < K.length) = true := by simp; omega
      obtain ⟨b4, off4, hbo4, -, -, ck⟩ := n_at (HLz.out _ hBw) k hlk
      cases hbo4
      have hKk := HKr.out _ (List.getElem_mem hlk)
      have HFk : Hid (Calls Tryd.prog 55 #[.int .i64 (K[k] : Int), .int .u64 (key : Int), .slice a1 r.length cap1] w3.drew fun e w' => e = .returned (.int .u64 (ds[k]! : Int)) ∧ w' = w3.drew) := by
        rw [HDs.out k hlk]
        exact HFar.out K[k] hKk w3.drew (HRz.out _ hBw)
      have hst := HSt.out k
      rw [← HYy.out] at hst
      have HXk : Hid (K[k]! = K[k]) := getElem!_pos K k hlk
      have HDk : Hid (∀ z, z = ds[k]! → z = ds[k]!) := fun z h => h
      generalize hdk : ds[k]! = d at *
      generalize hkk : K[k]'hlk = m at *
      clear HDk
      by_cases hlt : d < y
      · have dl : decide (d < y) = true := by simpa using hlt
        rw [if_pos hlt] at hst
        have HB2 : Hid (bst ds d0 (k + 1) = some k) := hst
        have HX2 : Hid (m = K[(bst ds d0 (k + 1)).getD 0]!) := by show _ = _; rw [HB2.out]; exact HXk.out.symm
        have HY2 : Hid (d = lst ds d0 (bst ds d0 (k + 1))) := by show _ = _; rw [HB2.out]; exact hdk.symm
        clear hst hdk hkk HX HYy hlt HXk HB2
        go_wp2_with fail
        refine HFk.out.mono ?_
        rintro e w5 ⟨rfl, hw⟩
        subst hw
        go_wp2
        go_roundw
        case rel => exact ⟨k + 1, m, d, by omega, by simp, rfl, rfl, HX2, HY2, trivial⟩
        case measure => simp [intOf]; omega
      · have dl : decide (d < y) = false := by simpa using hlt
        rw [if_neg hlt] at hst
        have HX2 : Hid (x = K[(bst ds d0 (k + 1)).getD 0]!) := by show _ = _; rw [hst]; exact HX.out
        have HY2 : Hid (y = lst ds d0 (bst ds d0 (k + 1))) := by show _ = _; rw [hst]; exact HYy.out
        clear hst hdk hkk HX HYy hlt HXk
        go_wp2_with fail
        refine HFk.out.mono ?_
        rintro e w5 ⟨rfl, hw⟩
        subst hw
        go_wp2
        go_roundw
        case rel => exact ⟨k + 1, x, y, by omega, by simp, rfl, rfl, HX2, HY2, trivial⟩
        case measure => simp [intOf]; omega
    · have dk : decide ((k : Int) < K.length) = false := by simp; omega
      have hk' : k = K.length := by omega
      subst hk'
      have HB : Hid (Below w.heap.size w w3.drew) := HB2.out.drew
      clear hBw
      go_wp2
      go_ret
      exact ⟨by rw [← HX.out]; rfl, HB.out⟩
end Go.Proofs.YtmnmjphgpblbhaaDoor
