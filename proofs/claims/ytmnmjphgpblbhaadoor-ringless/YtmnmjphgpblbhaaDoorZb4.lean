/- The reference's Nodes, Same, Has, Hash; the law's few, without, awake: walks. -/
import Derived.Test.YtmnmjphgpblbhaaDoorZb3
namespace Go.Proofs.YtmnmjphgpblbhaaDoor
open Go.RowKit

set_option maxRecDepth 100000 in
set_option maxHeartbeats 2000000 in
theorem refHashJ (s : ByteArray) (w : World) (hs : s.size ≤ 140737488355328) :
    Calls Tryd.prog 20 #[.string s] w fun e w' => e = .returned (.int .u64 (hashL s.data.toList)) ∧ w' = w := by
  go_enter Tryd.func20, Tryd.ntmps20
  go_wp2
  go_loopw [3, 4] (fun h i wr => ∃ (k H : Nat), k ≤ s.size ∧ h = .int .u64 H ∧ i = .int .i64 k ∧ Hid (H = (s.data.toList.take k).foldl hstep 14695981039346656037) ∧ wr = w) (fun _ i _ => s.size - (RowKit.intOf i).toNat)
  case atStart => exact ⟨0, 14695981039346656037, Nat.zero_le _, by simp, rfl, by show _ = _; simp, rfl⟩
  case round =>
    obtain ⟨k, H, hk, rfl, rfl, hH, rfl⟩ := hrel
    by_cases hlt : k < s.size
    · have hi : (k : Int) < s.size := by omega
      have hst := hash_step H s[k] (hfold_lt' hH)
      have HN : Hid (hstep H s[k] = (s.data.toList.take (k + 1)).foldl hstep 14695981039346656037) := by
        show _ = _
        rw [take_byte s k hlt, List.foldl_append, ← hH.out, List.foldl_cons, List.foldl_nil]
      go_wp2
      go_roundw
      case rel => exact ⟨k + 1, hstep H s[k], by omega, rfl, by go_num, HN, trivial⟩
      case measure => simp [RowKit.intOf]; omega
    · have hk' : k = s.size := by omega
      subst hk'
      go_wp2
      go_ret
      refine ⟨?_, rfl⟩
      have e := hH.out
      rw [take_bytes] at e
      rw [hashL_eq, ← e]
      rfl
theorem few_any (v : Value) (l : List Int) (w : World) (hr : IsRow w 1 v l.length (iCells l)) (hl : l.length ≤ 140737488355328) :
    Calls Tryd.prog 8 #[v] w fun e w' => e = .returned (.bool (decide (l.length ≤ 40))) ∧ w' = w := by
  obtain ⟨a0, cap0, rfl⟩ := hr.form
  clear hr
  by_cases h : l.length ≤ 40
  · have d : decide ((l.length : Int) ≤ 40) = true := by simp; omega
    rw [decide_eq_true h]
    go_enter Tryd.func8, Tryd.ntmps8
    go_wp2
    go_ret
    exact ⟨rfl, rfl⟩
  · have d : decide ((l.length : Int) ≤ 40) = false := by simp; omega
    rw [decide_eq_false h]
    go_enter Tryd.func8, Tryd.ntmps8
    go_wp2
    go_ret
    exact ⟨rfl, rfl⟩
set_option maxRecDepth 100000 in
set_option maxHeartbeats 2000000 in
theorem refNodes_any (v : Value) (l : List Int) (w : World) (hr : IsRow w 1 v l.length (iCells l)) (hl : l.length ≤ 1000000) :
    Calls Tryd.prog 14 #[v] w fun e w' => e = .returned (.bool (nodesB l)) ∧ Below w.heap.size w w' := by
  obtain ⟨a0, cap0, rfl⟩ := hr.form
  have HR : Hid (IsRow w 1 (.slice a0 l.length cap0) l.length (iCells l)) := hr
  clear hr
  go_enter Tryd.func14, Tryd.ntmps14
  go_wp2_with fail
  go_loopw [2, 3] (fun r i wr => r = .bool false ∧ ∃ k : Nat, k ≤ l.length ∧ i = .int .i64 (k : Int) ∧ Hid (∀ (j : Nat) (h : j < l.length), j < k → okAt l j h) ∧ Below w.heap.size w wr) (fun _ i _ => l.length - (intOf i).toNat)
  case atStart => exact ⟨rfl, 0, Nat.zero_le _, rfl, fun j h hj => absurd hj (Nat.not_lt_zero _), Below.refl _ _⟩
  case round =>
    obtain ⟨rfl, k, hk, rfl, HO, hB⟩ := hrel
    by_cases hlk : k < l.length
    · have dk : decide ((k : Int) < l.length) = true := by simp; omega
      obtain ⟨b, off, rfl, -, hlt, hcap, hc⟩ := iCells_at (HR.out.below hB) (by omega)
      have ck := hc k hlk
      by_cases hok : okAt l k hlk
      · have HO2 : Hid (∀ (j : Nat) (h : j < l.length), j < k + 1 → okAt l j h) := fun j h hj => by
          by_cases e : j = k
          · subst e; exact hok
          · exact HO.out j h (by omega)
        obtain ⟨o1, o2, o3⟩ := hok
        cases k with
        | zero =>
          simp only [Nat.add_zero] at ck
          generalize l[0]'hlk = x at *
          have d1 : decide (x < 1) = false := by simp; omega
          have d2 : decide (15 < x) = false := by simp; omega
          clear hc HO o3
          go_wp2_with fail
          go_region
          go_wp2
          go_roundw
          case rel => exact ⟨rfl, 0 + 1, by omega, by simp, HO2, hB.drew⟩
          case measure => simp [intOf]; omega
        | succ j =>
          have cj := hc j (by omega)
          have hlt2 := o3 j rfl
          generalize l[j + 1]'hlk = x at *
          generalize l[j]'(by omega) = y at *
          have d1 : decide (x < 1) = false := by simp; omega
          have d2 : decide (15 < x) = false := by simp; omega
          have d3 : decide (x ≤ y) = false := by simp; omega
          clear hc HO o3
          go_wp2_with fail
          go_region
          go_wp2
          go_roundw
          case rel => exact ⟨rfl, j + 1 + 1, by omega, by simp, HO2, hB.drew⟩
          case measure => simp [intOf]; omega
      · have HN : Hid (nodesB l = false) := nodesB_false fun h => hok (h k hlk)
        by_cases h1 : l[k] < 1
        · generalize l[k]'hlk = x at *
          have d1 : decide (x < 1) = true := by simp; omega
          clear hc HO hok
          go_wp2_with fail
          go_region
          go_wp2
          go_ret
          exact ⟨by rw [HN.out]; rfl, hB.drew⟩
        by_cases h2 : 15 < l[k]
        · generalize l[k]'hlk = x at *
          have d1 : decide (x < 1) = false := by simp; omega
          have d2 : decide (15 < x) = true := by simp; omega
          clear hc HO hok
          go_wp2_with fail
          go_region
          go_wp2
          go_ret
          exact ⟨by rw [HN.out]; rfl, hB.drew⟩
        cases k with
        | zero => exact absurd ⟨by omega, by omega, fun j e => absurd e (by omega)⟩ hok
        | succ j =>
          have cj := hc j (by omega)
          have hle : ¬ l[j]'(by omega) < l[j + 1]'hlk := fun hh => hok ⟨by omega, by omega, fun j' e => by
            have : j' = j := by omega
            subst this
            exact hh⟩
          generalize l[j + 1]'hlk = x at *
          generalize l[j]'(by omega) = y at *
          have d1 : decide (x < 1) = false := by simp; omega
          have d2 : decide (15 < x) = false := by simp; omega
          have d3 : decide (x ≤ y) = true := by simp; omega
          clear hok hc HO
          go_wp2_with fail
          go_region
          go_wp2
          go_ret
          exact ⟨by rw [HN.out]; rfl, hB.drew⟩
    · have dk : decide ((k : Int) < l.length) = false := by simp; omega
      have HY : Hid (nodesB l = true) := nodesB_true fun j h => HO.out j h (by omega)
      clear HO
      go_wp2
      go_ret
      exact ⟨by rw [HY.out]; rfl, hB⟩
set_option maxRecDepth 100000 in
theorem same_eq (v1 v2 : Value) (l : List Int) (w : World) (h1 : IsRow w 1 v1 l.length (iCells l)) (h2 : IsRow w 1 v2 l.length (iCells l)) (hl : l.length ≤ 1000000) :
    Calls Tryd.prog 15 #[v1, v2] w fun e w' => e = .returned (.bool true) ∧ Below w.heap.size w w' := by
  obtain ⟨a1, cap1, rfl⟩ := h1.form
  obtain ⟨a2, cap2, rfl⟩ := h2.form
  have H1 : Hid (IsRow w 1 (.slice a1 l.length cap1) l.length (iCells l)) := h1
  have H2 : Hid (IsRow w 1 (.slice a2 l.length cap2) l.length (iCells l)) := h2
  clear h1 h2
  go_enter Tryd.func15, Tryd.ntmps15
  go_wp2_with fail
  go_loopw [5] (fun i wr => ∃ k : Nat, k ≤ l.length ∧ i = .int .i64 (k : Int) ∧ Below w.heap.size w wr) (fun i _ => l.length - (intOf i).toNat)
  case atStart => exact ⟨0, Nat.zero_le _, rfl, Below.refl _ _⟩
  case round =>
    obtain ⟨k, hk, rfl, hB⟩ := hrel
    by_cases hlk : k < l.length
    · have dk : decide ((k : Int) < l.length) = true := by simp; omega
      obtain ⟨b1, off1, rfl, -, hlt1, hcap1, hc1⟩ := iCells_at (H1.out.below hB) (by omega)
      obtain ⟨b2, off2, rfl, -, hlt2, hcap2, hc2⟩ := iCells_at (H2.out.below hB) (by omega)
      have c1 := hc1 k hlk
      have c2 := hc2 k hlk
      generalize l[k]'hlk = x at *
      clear hc1 hc2
      go_wp2_with fail
      go_region
      go_wp2
      go_roundw
      case rel => exact ⟨k + 1, by omega, by simp, hB.drew⟩
      case measure => simp [intOf]; omega
    · have dk : decide ((k : Int) < l.length) = false := by simp; omega
      go_wp2
      go_ret
      exact ⟨rfl, hB⟩
set_option maxRecDepth 100000 in
theorem has_any (v : Value) (l : List Int) (x : Int) (w : World) (hr : IsRow w 1 v l.length (iCells l)) (hl : l.length ≤ 1000000) :
    Calls Tryd.prog 29 #[v, .int .i64 x] w fun e w' => e = .returned (.bool (decide (x ∈ l))) ∧ w' = w := by
  obtain ⟨a0, cap0, rfl⟩ := hr.form
  have HR : Hid (IsRow w 1 (.slice a0 l.length cap0) l.length (iCells l)) := hr
  clear hr
  go_enter Tryd.func29, Tryd.ntmps29
  go_wp2_with fail
  go_loopw [4, 5] (fun r i wr => r = .bool false ∧ ∃ k : Nat, k ≤ l.length ∧ i = .int .i64 (k : Int) ∧ Hid (∀ (j : Nat) (h : j < l.length), j < k → l[j] ≠ x) ∧ w = wr) (fun _ i _ => l.length - (intOf i).toNat)
  case atStart => exact ⟨rfl, 0, Nat.zero_le _, rfl, fun j h hj => absurd hj (Nat.not_lt_zero _), rfl⟩
  case round =>
    obtain ⟨rfl, k, hk, rfl, HO, rfl⟩ := hrel
    by_cases hlk : k < l.length
    · have dk : decide ((k : Int) < l.length) = true := by simp; omega
      obtain ⟨b, off, rfl, -, hlt, hcap, hc⟩ := iCells_at HR.out (by omega)
      have ck := hc k hlk
      by_cases he : l[k] = x
      · have HX : Hid (decide (x ∈ l) = true) := decide_eq_true (by rw [← he]; exact List.getElem_mem hlk)
        rw [he] at ck
        clear hc HO he
        go_wp2
        go_ret
        exact ⟨by rw [HX.out]; rfl, rfl⟩
      · have de : (l[k] == x) = false := by rw [beq_eq_false_iff_ne]; exact he
        have HO2 : Hid (∀ (j : Nat) (h : j < l.length), j < k + 1 → l[j] ≠ x) := fun j h hj => by
          by_cases e : j = k
          · subst e; exact he
          · exact HO.out j h (by omega)
        generalize l[k]'hlk = y at *
        clear hc HO he
        go_wp2
        go_roundw
        case rel => exact ⟨rfl, k + 1, by omega, by simp, HO2, trivial⟩
        case measure => simp [intOf]; omega
    · have dk : decide ((k : Int) < l.length) = false := by simp; omega
      have HX : Hid (decide (x ∈ l) = false) := decide_eq_false fun hm => by
        obtain ⟨j, hj, e⟩ := List.mem_iff_getElem.1 hm
        exact HO.out j hj (by omega) e
      clear HO
      go_wp2
      go_ret
      exact ⟨by rw [HX.out]; rfl, rfl⟩
end Go.Proofs.YtmnmjphgpblbhaaDoor
/- The law's without and awake: walks. -/
namespace Go.Proofs.YtmnmjphgpblbhaaDoor
open Go.RowKit

/-- What hands back ints leaves. -/
def RiPost (l : List Int) (w : World) (e : Ending) (w' : World) : Prop :=
  ∃ v', e = .returned v' ∧ IsRow w' 1 v' l.length (iCells l) ∧ Below w.heap.size w w'
theorem RwPost.ints {r : List Nat} {w : World} {e : Ending} {w' : World} (h : RwPost r w e w') : RiPost (r.map fun (n : Nat) => (n : Int)) w e w' := by
  obtain ⟨v', he, hr, hb⟩ := h
  exact ⟨v', he, by rw [List.length_map, ← nCells_is]; exact hr, hb⟩
/-- Numbers without one. -/
def woL (l : List Int) (n : Int) : List Int := l.filter fun x => decide (x ≠ n)
theorem woL_take (l : List Int) (n : Int) (k : Nat) (hk : k < l.length) : woL (l.take (k + 1)) n = if l[k] = n then woL (l.take k) n else woL (l.take k) n ++ [l[k]] := by
  unfold woL
  rw [List.take_succ_eq_append_getElem hk, List.filter_append]
  by_cases h : l[k] = n
  · rw [if_pos h, List.filter_cons_of_neg (by simpa using h)]
    simp
  · rw [if_neg h, List.filter_cons_of_pos (by simpa using h)]
    simp
theorem iCells_snoc (l : List Int) (x : Int) : iCells (l ++ [x]) = iCells l ++ [.int .i64 x] := by simp [iCells]
set_option maxRecDepth 100000 in
set_option maxHeartbeats 1000000 in
theorem without_any (v : Value) (l : List Int) (n : Int) (w : World) (hr : IsRow w 1 v l.length (iCells l)) (hl : l.length ≤ 1000000) :
    Calls Tryd.prog 30 #[v, .int .i64 n] w fun e w' => RiPost (woL l n) w e w' := by
  obtain ⟨a0, cap0, rfl⟩ := hr.form
  have HR : Hid (IsRow w 1 (.slice a0 l.length cap0) l.length (iCells l)) := hr
  clear hr
  obtain ⟨i0, hi0, hz0, hz1, hz2⟩ := info_parts info_in
  go_enter Tryd.func30, Tryd.ntmps30
  go_wp2_with fail
  go_loopw [5, 6] (fun o i wr => ∃ k : Nat, k ≤ l.length ∧ i = .int .i64 (k : Int) ∧ (woL (l.take k) n).length ≤ k ∧ wr.ownsRow w.heap.size 3 1 o (woL (l.take k) n).length (iCells (woL (l.take k) n)) ∧ Below w.heap.size w wr) (fun _ i _ => l.length - (intOf i).toNat)
  case atStart => exact ⟨0, Nat.zero_le _, rfl, Nat.le_refl _, World.ownsRow_nil _ _ _ _, Below.refl _ _⟩
  case round =>
    obtain ⟨k, hk, rfl, hwk, hown, hB⟩ := hrel
    have hsz := hB.size
    by_cases hlk : k < l.length
    · have dk : decide ((k : Int) < l.length) = true := by simp; omega
      obtain ⟨b, off, rfl, -, hlt, hcap, hc⟩ := iCells_at (HR.out.below hB) (by omega)
      have ck := hc k hlk
      have ht := woL_take l n k hlk
      have HO : Hid (wr.ownsRow w.heap.size 3 1 u5 (woL (l.take k) n).length (iCells (woL (l.take k) n))) := hown
      by_cases he : l[k] = n
      · rw [if_pos he] at ht
        have HT : Hid (woL (l.take (k + 1)) n = woL (l.take k) n) := ht
        rw [he] at ck
        generalize woL (l.take k) n = L at *
        clear hc ht hown he
        go_wp2
        go_roundw
        case rel => exact ⟨k + 1, by omega, by simp, by rw [HT.out]; omega, by rw [HT.out]; exact HO.out, hB⟩
        case measure => simp [intOf]; omega
      · rw [if_neg he] at ht
        have HT : Hid (woL (l.take (k + 1)) n = woL (l.take k) n ++ [l[k]]) := ht
        have de : (l[k] != n) = true := by rw [bne_iff_ne]; exact he
        generalize woL (l.take k) n = L at *
        generalize l[k]'hlk = x at *
        clear hc ht hown he
        go_wp2_with (at_builtin; go_loud (refine wpl_app1 wr rfl (.tmp 19) (.tmp 24) 23 3 rfl i0 _ 8 Tryd.underlying23 hi0 hz0 hz1 hz2 rfl w.heap.size u5 L.length _ rfl HO.out (.int .i64 x) _ rfl rfl rfl (by omega) (by unfold maxLen; omega) hsz ?_; intro v4 w4 hown4 hb4 hne4))
        have HO4 : Hid (w4.ownsRow w.heap.size 3 1 v4 (woL (l.take (k + 1)) n).length (iCells (woL (l.take (k + 1)) n))) := by show World.ownsRow _ _ _ _ _ _ _; rw [HT.out, iCells_snoc, List.length_append]; exact hown4
        have HL4 : Hid ((woL (l.take (k + 1)) n).length ≤ k + 1) := by show _ ≤ _; rw [HT.out, List.length_append, List.length_singleton]; omega
        have HB4 : Hid (Below w.heap.size w w4) := hB.trans hb4
        clear hown4 hb4 hne4 HO hB HT
        go_wp2
        go_roundw
        case rel => exact ⟨k + 1, by omega, by simp, HL4.out, HO4.out, HB4.out⟩
        case measure => simp [intOf]; omega
    · have dk : decide ((k : Int) < l.length) = false := by simp; omega
      rw [List.take_of_length_le (by omega)] at hown
      have HO : Hid (IsRow wr 1 u5 (woL l n).length (iCells (woL l n))) := IsRow.own hown
      have HB : Hid (Below w.heap.size w wr) := hB
      clear hown hB
      go_wp2
      go_ret
      exact ⟨_, rfl, HO.out, HB.out⟩
theorem row_lit (l : List Int) (T : TypeId) (w : World) (hl : l.length ≤ 1000) : IsRow (w.alloc (.cells (iCells l).toArray T)) 1 (.slice (some ⟨w.heap.size, 0, none⟩) l.length l.length) l.length (iCells l) := by
  have hlen : (iCells l).length = l.length := by simp [iCells]
  refine ⟨by rw [hlen]; omega, .inr ⟨w.heap.size, 0, l.length, rfl, by simp, Nat.le_refl _, by unfold maxLen; omega, ?_⟩⟩
  intro j u hu
  simp
  exact hu
theorem nodes4 : NodesP [4] := by
  intro k hk
  have : k = 0 := by simp at hk; omega
  subst this
  exact ⟨by simp, by simp, fun j e => absurd e (by omega)⟩
theorem nodes5 : NodesP [1, 2, 3, 4, 5] := by
  intro k hk
  have : k = 0 ∨ k = 1 ∨ k = 2 ∨ k = 3 ∨ k = 4 := by simp at hk; omega
  rcases this with rfl | rfl | rfl | rfl | rfl
  · exact ⟨by simp, by simp, fun j e => absurd e (by omega)⟩
  all_goals
    refine ⟨by simp, by simp, fun j e => ?_⟩
    cases e
    simp
theorem nodes0 : NodesP [] := fun _ hk => absurd hk (Nat.not_lt_zero _)
theorem rg4 : rgL [4] = [4] := by rw [rgL_of nodes4]; decide
theorem rg0 : rgL [] = [] := by rw [rgL_of nodes0]; decide
theorem own4 : ownL 77 [4] = 4 := by unfold ownL; rw [rg4]; decide +kernel
theorem has4 : hasL [4] = true := by unfold hasL; rw [rg4]; rfl
theorem has0 : hasL [] = false := by unfold hasL; rw [rg0]; rfl
theorem pl4 : plI 4 [4] = 0 := by decide +kernel
theorem own_one (key n : Nat) : owI key [n] = 0 := by
  unfold owI
  split
  · rename_i h
    simp at h
    rw [List.filter_cons_of_neg (by simp; omega)]
    rfl
  · rfl
theorem fg_one (n p : Nat) : ∀ k, fgL 0 [n] p k = []
  | 0 => rfl
  | k + 1 => by
    unfold fgL
    rw [own_one, if_neg (by simp), fg_one n p k]
theorem fing4 : FgL 4 (rgL [4]) = [] := by
  rw [rg4, FgL_at (k := 0) (by decide) pl4, fg_one]
  rfl
theorem pt1 : ptI 1 = pt 1 := by decide +kernel
theorem hash1 : hashL [110, 111, 100, 101, 32, 49] = pt 1 := by decide +kernel
set_option maxRecDepth 100000 in
set_option maxHeartbeats 2000000 in
theorem awake10_any (w : World) : Calls Tryd.prog 9 #[] w fun e w' => e = .returned (.bool true) ∧ Below w.heap.size w w' := by
  have HO4 : Hid (∀ v w, IsRow w 1 v 1 (iCells [4]) → Calls Tryd.prog 11 #[.int .u64 77, v] w fun e w' => e = .returned (.tuple #[.int .i64 4, .bool true]) ∧ Below w.heap.size w w') := fun v w h => by
    have := ownerL_any 77 v [4] w h (by decide)
    rw [own4, has4] at this
    exact this
  have HO0 : Hid (∀ w, Calls Tryd.prog 11 #[.int .u64 77, .slice none 0 0] w fun e w' => ∃ x, e = .returned (.tuple #[.int .i64 x, .bool false]) ∧ Below w.heap.size w w') := fun w => by
    have := ownerL_any 77 (.slice none 0 0) [] w (IsRow.nil _ _) (by decide)
    rw [has0] at this
    exact this.mono fun e w' h => ⟨_, h.1, h.2⟩
  have HRg : Hid (∀ v w, IsRow w 1 v 5 (iCells [1, 2, 3, 4, 5]) → Calls Tryd.prog 16 #[v] w fun e w' => ∃ a cap, e = .returned (.slice a 5 cap) ∧ Below w.heap.size w w') := fun v w h => (ring_any v [1, 2, 3, 4, 5] w h (by decide)).mono fun e w' ⟨v', he, hr, hb⟩ => by
    obtain ⟨a, cap, rfl⟩ := hr.form
    rw [rgL_len nodes5] at he
    exact ⟨a, cap, he, hb⟩
  have HFg : Hid (∀ v w, IsRow w 1 v 1 (iCells [4]) → Calls Tryd.prog 26 #[.int .i64 4, v] w fun e w' => ∃ a cap, e = .returned (.slice a 0 cap) ∧ Below w.heap.size w w') := fun v w h => (fingersL_any 4 v [4] w h (by decide)).mono fun e w' ⟨v', he, hr, hb⟩ => by
    obtain ⟨a, cap, rfl⟩ := hr.form
    rw [fing4] at he
    exact ⟨a, cap, he, hb⟩
  have HPt : Hid (∀ w, Calls Tryd.prog 22 #[.int .i64 1] w fun e w' => e = .returned (.int .u64 (pt 1 : Int)) ∧ w' = w) := fun w => by
    have := point_any 1 w
    rw [pt1] at this
    exact this
  have HHs : Hid (∀ w, Calls Tryd.prog 20 #[.string ⟨#[110, 111, 100, 101, 32, 49]⟩] w fun e w' => e = .returned (.int .u64 (pt 1 : Int)) ∧ w' = w) := fun w => by
    have := refHashJ ⟨#[110, 111, 100, 101, 32, 49]⟩ w (by decide)
    rw [show (⟨#[110, 111, 100, 101, 32, 49]⟩ : ByteArray).data.toList = [110, 111, 100, 101, 32, 49] from rfl, hash1] at this
    exact this
  generalize (pt 1 : Int) = y at *
  have r4 := fun w : World => row_lit [4] 3 w (by decide)
  have r5 := fun w : World => row_lit [1, 2, 3, 4, 5] 3 w (by decide)
  have HR4 : Hid (∀ w : World, IsRow (w.alloc (.cells #[.int .i64 4] 3)) 1 (.slice (some ⟨w.heap.size, 0, none⟩) 1 1) 1 (iCells [4])) := r4
  have HR5 : Hid (∀ w : World, IsRow (w.alloc (.cells #[.int .i64 1, .int .i64 2, .int .i64 3, .int .i64 4, .int .i64 5] 3)) 1 (.slice (some ⟨w.heap.size, 0, none⟩) 5 5) 5 (iCells [1, 2, 3, 4, 5])) := r5
  clear r4 r5
  go_enter Tryd.func9, Tryd.ntmps9
  go_wp2_with fail
  refine (HO4.out _ _ (HR4.out _)).mono ?_
  rintro e w1 ⟨rfl, hb1⟩
  have HB1 : Hid (Below w.heap.size w w1) := (al_belowJ w _).trans (hb1.mono (by simp))
  clear hb1
  go_wp2_with fail
  refine (HRg.out _ _ (HR5.out _)).mono ?_
  rintro e w2 ⟨a2, cap2, rfl, hb2⟩
  have HB2 : Hid (Below w.heap.size w w2) := HB1.out.trans (((al_belowJ w1 _).trans (hb2.mono (by simp))).mono HB1.out.size)
  clear hb2 HB1
  go_wp2_with fail
  refine (HO0.out _).mono ?_
  rintro e w3 ⟨x3, rfl, hb3⟩
  have HB3 : Hid (Below w.heap.size w w3) := HB2.out.trans (hb3.mono HB2.out.size)
  clear hb3 HB2
  go_wp2_with fail
  refine (HFg.out _ _ (HR4.out _)).mono ?_
  rintro e w4 ⟨a4, cap4, rfl, hb4⟩
  have HB4 : Hid (Below w.heap.size w w4) := HB3.out.trans (((al_belowJ w3 _).trans (hb4.mono (by simp))).mono HB3.out.size)
  clear hb4 HB3
  go_wp2_with fail
  refine (HPt.out _).mono ?_
  rintro e w5 ⟨rfl, hw⟩
  subst hw
  go_wp2_with fail
  refine (HHs.out _).mono ?_
  rintro e w6 ⟨rfl, hw⟩
  subst hw
  go_wp2
  go_ret
  exact ⟨rfl, HB4.out⟩
end Go.Proofs.YtmnmjphgpblbhaaDoor
/- RingHeirs: for all keys, numbers and bounds the law returns true. -/
namespace Go.Proofs.YtmnmjphgpblbhaaDoor
open Go.RowKit

theorem row_take {w : World} {b off n cap : Nat} {l : List Int} (h : IsRow w 1 (.slice (some ⟨b, off, none⟩) n cap) l.length (iCells l)) (m : Nat) (hm : m ≤ l.length) (h0 : 0 < l.length) : IsRow w 1 (.slice (some ⟨b, off, none⟩) m cap) (l.take m).length (iCells (l.take m)) := by
  obtain ⟨b', off', cap', hv, hlt, q1, q2, hc⟩ := h.open (by omega)
  simp only [Value.slice.injEq, Option.some.injEq, Addr.mk.injEq, and_true] at hv
  obtain ⟨⟨rfl, rfl⟩, -, rfl⟩ := hv
  have hl : (l.take m).length = m := by rw [List.length_take]; omega
  rw [hl]
  refine ⟨by simp [iCells]; omega, .inr ⟨b, off, cap, rfl, hlt, by omega, q2, fun j u hu => hc j u ?_⟩⟩
  have e : iCells (l.take m) = (iCells l).take m := by simp [iCells, List.map_take]
  rw [e] at hu
  rw [← hu, List.getElem?_take_of_lt]
  have := (List.getElem?_eq_some_iff.1 hu).1
  rw [List.length_take] at this
  omega
set_option maxRecDepth 100000 in
set_option maxHeartbeats 4000000 in
theorem ringHeirs_walk (key : Nat) (v : Value) (l : List Int) (most : Int) (w : World) (hr : IsRow w 1 v l.length (iCells l)) (hl : l.length ≤ 140737488355328) (hm1 : -9223372036854775808 ≤ most) (hm2 : most ≤ 9223372036854775807) :
    Calls Tryd.prog 7 #[.int .u64 (key : Int), v, .int .i64 most] w fun e w' => e = .returned (.bool true) ∧ Below w.heap.size w w' := by
  obtain ⟨a0, cap0, rfl⟩ := hr.form
  have HR : Hid (IsRow w 1 (.slice a0 l.length cap0) l.length (iCells l)) := hr
  have HA : Hid (∀ w, Calls Tryd.prog 9 #[] w fun e w' => e = .returned (.bool true) ∧ Below w.heap.size w w') := awake10_any
  have HFw : Hid (Calls Tryd.prog 8 #[.slice a0 l.length cap0] w fun e w' => e = .returned (.bool (decide (l.length ≤ 40))) ∧ w' = w) := few_any _ l w hr hl
  clear hr
  by_cases h40 : l.length ≤ 40
  rotate_left
  · rw [decide_eq_false h40] at HFw
    go_enter Tryd.func7, Tryd.ntmps7
    go_wp2_with fail
    refine HFw.out.mono ?_
    rintro e w1 ⟨rfl, hw⟩
    subst hw
    go_wp2_with fail
    refine (HA.out _).mono ?_
    rintro e w2 ⟨rfl, hb2⟩
    go_wp2
    go_ret
    exact ⟨rfl, hb2⟩
  rw [decide_eq_true h40] at HFw
  have HNd : Hid (Calls Tryd.prog 14 #[.slice a0 l.length cap0] w fun e w' => e = .returned (.bool (nodesB l)) ∧ Below w.heap.size w w') := refNodes_any _ l w HR.out (by omega)
  by_cases hN : NodesP l
  rotate_left
  · rw [nodesB_false hN] at HNd
    go_enter Tryd.func7, Tryd.ntmps7
    go_wp2_with fail
    refine HFw.out.mono ?_
    rintro e w1 ⟨rfl, hw⟩
    subst hw
    go_wp2_with fail
    refine HNd.out.mono ?_
    rintro e w2 ⟨rfl, hb2⟩
    go_wp2_with fail
    refine (HA.out _).mono ?_
    rintro e w3 ⟨rfl, hb3⟩
    have HB : Hid (Below w1.heap.size w1 w3) := hb2.trans (hb3.mono hb2.size)
    clear hb2 hb3
    go_wp2
    go_ret
    exact ⟨rfl, HB.out⟩
  rw [nodesB_true hN] at HNd
  by_cases h0 : l.length = 0
  · obtain rfl := List.eq_nil_of_length_eq_zero h0
    simp only [List.length_nil] at HFw HNd HR
    clear h0 h40 hl
    go_enter Tryd.func7, Tryd.ntmps7
    go_wp2_with fail
    refine HFw.out.mono ?_
    rintro e w1 ⟨rfl, hw⟩
    subst hw
    go_wp2_with fail
    refine HNd.out.mono ?_
    rintro e w2 ⟨rfl, hb2⟩
    go_wp2_with fail
    refine (HA.out _).mono ?_
    rintro e w3 ⟨rfl, hb3⟩
    have HB : Hid (Below w1.heap.size w1 w3) := hb2.trans (hb3.mono hb2.size)
    clear hb2 hb3
    go_wp2
    go_ret
    exact ⟨rfl, HB.out⟩
  have d0 : ((l.length : Int) == 0) = false := by rw [beq_eq_false_iff_ne]; omega
  have hrl := rgL_len hN
  have hsr := rgL_sorted l
  have hHl : ((hsL key (rgL l)).map fun (n : Nat) => (n : Int)).length = l.length := by rw [List.length_map, hsL_len key _ hsr, hrl]
  have HH1 : Hid (∀ w, IsRow w 1 (.slice a0 l.length cap0) l.length (iCells l) → Calls Tryd.prog 18 #[.int .u64 (key : Int), .slice a0 l.length cap0, .int .i64 (l.length : Int)] w fun e w' => RiPost ((hsL key (rgL l)).map fun (n : Nat) => (n : Int)) w e w') := fun w h => (heirs_any key _ l (l.length : Int) w h (by omega)).mono fun e w' h => by
    have := h.ints
    rw [Int.toNat_natCast, List.take_of_length_le (by rw [hsL_len key _ hsr, hrl]; exact Nat.le_refl _)] at this
    exact this
  have HH2 : Hid (∀ w, IsRow w 1 (.slice a0 l.length cap0) l.length (iCells l) → Calls Tryd.prog 18 #[.int .u64 (key : Int), .slice a0 l.length cap0, .int .i64 most] w fun e w' => RiPost (((hsL key (rgL l)).map fun (n : Nat) => (n : Int)).take most.toNat) w e w') := fun w h => (heirs_any key _ l most w h (by omega)).mono fun e w' h => by
    have := h.ints
    rw [List.map_take] at this
    exact this
  have HOw : Hid (∀ w, IsRow w 1 (.slice a0 l.length cap0) l.length (iCells l) → Calls Tryd.prog 11 #[.int .u64 (key : Int), .slice a0 l.length cap0] w fun e w' => e = .returned (.tuple #[.int .i64 (ownL key l : Int), .bool (hasL l)]) ∧ Below w.heap.size w w') := fun w h => ownerL_any key _ l w h (by omega)
  have hown : ((hsL key (rgL l)).map fun (n : Nat) => (n : Int))[0]? = some (ownL key l : Int) := by
    unfold ownL
    rw [List.getElem?_map, List.head?_eq_getElem?, List.getElem?_eq_getElem (by rw [hsL_len key _ hsr, hrl]; omega)]
    rfl
  have hmem : ∀ x ∈ l, x ∈ (hsL key (rgL l)).map fun (n : Nat) => (n : Int) := fun x hx => by
    have h1 := (rgL_mem hN).2 hx
    obtain ⟨n, hn, e⟩ := List.mem_map.1 h1
    exact List.mem_map.2 ⟨n, (hsL_perm key _ hsr).mem_iff.2 hn, e⟩
  generalize (hsL key (rgL l)).map (fun (n : Nat) => (n : Int)) = H at *
  generalize (ownL key l : Int) = o at *
  generalize hasL l = bb at *
  have HHl : Hid (H.length = l.length) := hHl
  have HOn : Hid (H[0]? = some o) := hown
  have HMem : Hid (∀ x ∈ l, x ∈ H) := hmem
  obtain ⟨K, HKe⟩ : ∃ K, Hid (K = H.take most.toNat) := ⟨_, rfl⟩
  rw [← HKe.out] at HH2
  clear hown hmem hsr hrl hHl hN
  go_enter Tryd.func7, Tryd.ntmps7
  go_wp2_with fail
  refine HFw.out.mono ?_
  rintro e w1 ⟨rfl, hw⟩
  subst hw
  go_wp2_with fail
  refine HNd.out.mono ?_
  rintro e w2 ⟨rfl, hb2⟩
  have HR2 : Hid (IsRow w2 1 (.slice a0 l.length cap0) l.length (iCells l)) := HR.out.below hb2
  have HB2 : Hid (Below w1.heap.size w1 w2) := hb2
  clear hb2 HNd HFw HR
  go_wp2_with fail
  refine (HH1.out _ HR2.out).mono ?_
  rintro e w3 ⟨v3, rfl, hrow3, hb3⟩
  obtain ⟨a3, cap3, rfl⟩ := hrow3.form
  have HR3 : Hid (IsRow w3 1 (.slice a0 l.length cap0) l.length (iCells l)) := HR2.out.below hb3
  have HH3 : Hid (IsRow w3 1 (.slice a3 H.length cap3) H.length (iCells H)) := hrow3
  have HB3 : Hid (Below w1.heap.size w1 w3) := HB2.out.trans (hb3.mono HB2.out.size)
  clear hrow3 hb3 HR2 HB2 HH1
  go_wp2_with fail
  refine (HH2.out _ HR3.out).mono ?_
  rintro e w4 ⟨v4, rfl, hrow4, hb4⟩
  obtain ⟨a4, cap4, rfl⟩ := hrow4.form
  have HR4 : Hid (IsRow w4 1 (.slice a0 l.length cap0) l.length (iCells l)) := HR3.out.below hb4
  have HH4 : Hid (IsRow w4 1 (.slice a3 H.length cap3) H.length (iCells H)) := HH3.out.below hb4
  have HK4 : Hid (IsRow w4 1 (.slice a4 K.length cap4) K.length (iCells K)) := hrow4
  have HB4 : Hid (Below w1.heap.size w1 w4) := HB3.out.trans (hb4.mono HB3.out.size)
  clear hrow4 hb4 HR3 HB3 HH2 HH3
  go_wp2_with fail
  refine (HOw.out _ HR4.out).mono ?_
  rintro e w5 ⟨rfl, hb5⟩
  have HR5 : Hid (IsRow w5 1 (.slice a0 l.length cap0) l.length (iCells l)) := HR4.out.below hb5
  have HH5 : Hid (IsRow w5 1 (.slice a3 H.length cap3) H.length (iCells H)) := HH4.out.below hb5
  have HK5 : Hid (IsRow w5 1 (.slice a4 K.length cap4) K.length (iCells K)) := HK4.out.below hb5
  have HB5 : Hid (Below w1.heap.size w1 w5) := HB4.out.trans (hb5.mono HB4.out.size)
  clear hb5 HR4 HB4 HOw HH4 HK4
  obtain ⟨b5, off5, rfl, -, hlt5, hcap5, hc5⟩ := iCells_at HH5.out (by rw [HHl.out]; omega)
  have c5 : w5.cell? ⟨b5, off5, none⟩ = some (.int .i64 o) := by
    have h1 := hc5 0 (by rw [HHl.out]; omega)
    have h2 := HOn.out
    rw [List.getElem?_eq_getElem (by rw [HHl.out]; omega), Option.some.injEq] at h2
    rw [h2] at h1
    exact h1
  clear hc5
  have hHL : H.length ≤ 40 := by rw [HHl.out]; exact h40
  have HKl : Hid (K.length = min most.toNat l.length) := by show _ = _; rw [HKe.out, List.length_take, HHl.out]
  have hKl : K.length ≤ H.length := by rw [HKe.out, List.length_take]; omega
  have HTm : Hid (H.take K.length = K) := by
    show _ = _
    rw [HKe.out, List.length_take, List.take_eq_take_iff]
    omega
  have HS5 : Hid (Calls Tryd.prog 15 #[.slice a4 K.length cap4, .slice (some ⟨b5, off5, none⟩) K.length cap3] w5 fun e w' => e = .returned (.bool true) ∧ Below w5.heap.size w5 w') := by
    have h2 := row_take HH5.out K.length hKl (by rw [HHl.out]; omega)
    rw [HTm.out] at h2
    exact same_eq _ _ K w5 HK5.out h2 (by omega)
  have hH0 : 0 < H.length := by rw [HHl.out]; omega
  have hKc : K.length ≤ cap3 := by omega
  have dne : ((H.length : Int) != (l.length : Int)) = false := by rw [HHl.out]; simp
  have dgt : decide (H.length < K.length) = false := by simp; omega
  clear HK5 HTm HKe
  go_wp2_with fail
  refine HS5.out.mono ?_
  rintro e w6 ⟨rfl, hb6⟩
  have HR6 : Hid (IsRow w6 1 (.slice a0 l.length cap0) l.length (iCells l)) := HR5.out.below hb6
  have HH6 : Hid (IsRow w6 1 (.slice (some ⟨b5, off5, none⟩) H.length cap3) H.length (iCells H)) := HH5.out.below hb6
  have HB6 : Hid (Below w1.heap.size w1 w6) := HB5.out.trans (hb6.mono HB5.out.size)
  clear hb6 HR5 HB5 HS5 HH5 c5 dne dgt d0
  go_wp2_with fail
  go_loopw [6, 11] (fun r i wr => r = .bool false ∧ ∃ k : Nat, k ≤ l.length ∧ i = .int .i64 (k : Int) ∧ Below w6.heap.size w6 wr) (fun _ i _ => l.length - (intOf i).toNat)
  case atStart => exact ⟨rfl, 0, Nat.zero_le _, rfl, Below.refl _ _⟩
  case round =>
    obtain ⟨rfl, k, hk, rfl, hB⟩ := hrel
    by_cases hlk : k < l.length
    · have dk : decide ((k : Int) < l.length) = true := by simp; omega
      obtain ⟨b, off, rfl, -, hlt, hcap, hc⟩ := iCells_at (HR6.out.below hB) (by omega)
      have ck := hc k hlk
      have HHs : Hid (Calls Tryd.prog 29 #[.slice (some ⟨b5, off5, none⟩) H.length cap3, .int .i64 l[k]] wr fun e w' => e = .returned (.bool true) ∧ w' = wr) := by
        have := has_any _ H l[k] wr (HH6.out.below hB) (by omega)
        rw [decide_eq_true (HMem.out _ (List.getElem_mem hlk))] at this
        exact this
      generalize l[k]'hlk = x at *
      clear hc
      go_wp2_with fail
      refine HHs.out.mono ?_
      rintro e w7 ⟨rfl, hw⟩
      subst hw
      go_wp2
      go_roundw
      case rel => exact ⟨rfl, k + 1, by omega, by simp, hB⟩
      case measure => simp [intOf]; omega
    · have dk : decide ((k : Int) < l.length) = false := by simp; omega
      have HB7 : Hid (Below w1.heap.size w1 wr) := HB6.out.trans (hB.mono HB6.out.size)
      clear hB
      go_wp2_with fail
      refine (HA.out _).mono ?_
      rintro e w8 ⟨rfl, hb8⟩
      have HB8 : Hid (Below w1.heap.size w1 w8) := HB7.out.trans (hb8.mono HB7.out.size)
      clear hb8
      by_cases hms : most < 0
      · have dm : decide (most < 0) = true := by simpa using hms
        have dK : ((K.length : Int) == 0) = true := by rw [beq_iff_eq, HKl.out]; omega
        go_wp2
        go_ret
        exact ⟨rfl, HB8.out⟩
      · have dm : decide (most < 0) = false := by simpa using hms
        have dm2 : decide ((0 : Int) ≤ most) = true := by simp; omega
        have dK : ((K.length : Int) == min most (l.length : Int)) = true := by rw [beq_iff_eq, HKl.out]; omega
        go_wp2
        go_ret
        exact ⟨rfl, HB8.out⟩
end Go.Proofs.YtmnmjphgpblbhaaDoor
