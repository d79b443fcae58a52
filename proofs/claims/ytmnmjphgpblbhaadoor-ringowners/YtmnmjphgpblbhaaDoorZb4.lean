/- The reference's Nodes, Same, Has, Hash; the law's few, without, awake: walks. -/
import Derived.Test.YtmnmjphgpblbhaaDoorZb3
namespace Go.Proofs.YtmnmjphgpblbhaaDoor
open Go.RowKit

set_option maxRecDepth 100000 in
set_option maxHeartbeats 2000000 in
theorem refHashJ (s : ByteArray) (w : World) (hs : s.size ≤ 140737488355328) :
    Calls Tryd.prog 20 #[.string s] w fun e w' => e = .returned (.int .u64 (hashL s.data.toList)) ∧ w' = w := by
  go_enter Tryd.func20, Tryd.ntmps20
  go_wp2
  go_loopw [3, 4] (fun h i wr => ∃ (k H : Nat), k ≤ s.size ∧ h = .int .u64 H ∧ i = .int .i64 k ∧ Hid (H = (s.data.toList.take k).foldl hstep 14695981039346656037) ∧ wr = w) (fun _ i _ => s.size - (RowKit.intOf i).toNat)
  case atStart => exact ⟨0, 14695981039346656037, Nat.zero_le _, by simp, rfl, by show _ = _; simp, rfl⟩
  case round =>
    obtain ⟨k, H, hk, rfl, rfl, hH, rfl⟩ := hrel
    by_cases hlt : k < s.size
    · have hi : (k : Int) < s.size := by omega
      have hst := hash_step H s[k] (hfold_lt' hH)
      have HN : Hid (hstep H s[k] = (s.data.toList.take (k + 1)).foldl hstep 14695981039346656037) := by
        show _ = _
        rw [take_byte s k hlt, List.foldl_append, ← hH.out, List.foldl_cons, List.foldl_nil]
      go_wp2
      go_roundw
      case rel => exact ⟨k + 1, hstep H s[k], by omega, rfl, by go_num, HN, trivial⟩
      case measure => simp [RowKit.intOf]; omega
    · have hk' : k = s.size := by omega
      subst hk'
      go_wp2
      go_ret
      refine ⟨?_, rfl⟩
      have e := hH.out
      rw [take_bytes] at e
      rw [hashL_eq, ← e]
      rfl
theorem few_any (v : Value) (l : List Int) (w : World) (hr : IsRow w 1 v l.length (iCells l)) (hl : l.length ≤ 140737488355328) :
    Calls Tryd.prog 8 #[v] w fun e w' => e = .returned (.bool (decide (l.length ≤ 40))) ∧ w' = w := by
  obtain ⟨a0, cap0, rfl⟩ := hr.form
  clear hr
  by_cases h : l.length ≤ 40
  · have d : decide ((l.length : Int) ≤ 40) = true := by simp; omega
    rw [decide_eq_true h]
    go_enter Tryd.func8, Tryd.ntmps8
    go_wp2
    go_ret
    exact ⟨rfl, rfl⟩
  · have d : decide ((l.length : Int) ≤ 40) = false := by simp; omega
    rw [decide_eq_false h]
    go_enter Tryd.func8, Tryd.ntmps8
    go_wp2
    go_ret
    exact ⟨rfl, rfl⟩
set_option maxRecDepth 100000 in
set_option maxHeartbeats 2000000 in
theorem refNodes_any (v : Value) (l : List Int) (w : World) (hr : IsRow w 1 v l.length (iCells l)) (hl : l.length ≤ 1000000) :
    Calls Tryd.prog 14 #[v] w fun e w' => e = .returned (.bool (nodesB l)) ∧ Below w.heap.size w w' := by
  obtain ⟨a0, cap0, rfl⟩ := hr.form
  have HR : Hid (IsRow w 1 (.slice a0 l.length cap0) l.length (iCells l)) := hr
  clear hr
  go_enter Tryd.func14, Tryd.ntmps14
  go_wp2_with fail
  go_loopw [2, 3] (fun r i wr => r = .bool false ∧ ∃ k : Nat, k ≤ l.length ∧ i = .int .i64 (k : Int) ∧ Hid (∀ (j : Nat) (h : j < l.length), j < k → okAt l j h) ∧ Below w.heap.size w wr) (fun _ i _ => l.length - (intOf i).toNat)
  case atStart => exact ⟨rfl, 0, Nat.zero_le _, rfl, fun j h hj => absurd hj (Nat.not_lt_zero _), Below.refl _ _⟩
  case round =>
    obtain ⟨rfl, k, hk, rfl, HO, hB⟩ := hrel
    by_cases hlk : k < l.length
    · have dk : decide ((k : Int) < l.length) = true := by simp; omega
      obtain ⟨b, off, rfl, -, hlt, hcap, hc⟩ := iCells_at (HR.out.below hB) (by omega)
      have ck := hc k hlk
      by_cases hok : okAt l k hlk
      · have HO2 : Hid (∀ (j : Nat) (h : j < l.length), j < k + 1 → okAt l j h) := fun j h hj => by
          by_cases e : j = k
          · subst e; exact hok
          · exact HO.out j h (by omega)
        obtain ⟨o1, o2, o3⟩ := hok
        cases k with
        | zero =>
          simp only [Nat.add_zero] at ck
          generalize l[0]'hlk = x at *
          have d1 : decide (x < 1) = false := by simp; omega
          have d2 : decide (15 < x) = false := by simp; omega
          clear hc HO o3
          go_wp2_with fail
          go_region
          go_wp2
          go_roundw
          case rel => exact ⟨rfl, 0 + 1, by omega, by simp, HO2, hB.drew⟩
          case measure => simp [intOf]; omega
        | succ j =>
          have cj := hc j (by omega)
          have hlt2 := o3 j rfl
          generalize l[j + 1]'hlk = x at *
          generalize l[j]'(by omega) = y at *
          have d1 : decide (x < 1) = false := by simp; omega
          have d2 : decide (15 < x) = false := by simp; omega
          have d3 : decide (x ≤ y) = false := by simp; omega
          clear hc HO o3
          go_wp2_with fail
          go_region
          go_wp2
          go_roundw
          case rel => exact ⟨rfl, j + 1 + 1, by omega, by simp, HO2, hB.drew⟩
          case measure => simp [intOf]; omega
      · have HN : Hid (nodesB l = false) := nodesB_false fun h => hok (h k hlk)
        by_cases h1 : l[k] < 1
        · generalize l[k]'hlk = x at *
          have d1 : decide (x < 1) = true := by simp; omega
          clear hc HO hok
          go_wp2_with fail
          go_region
          go_wp2
          go_ret
          exact ⟨by rw [HN.out]; rfl, hB.drew⟩
        by_cases h2 : 15 < l[k]
        · generalize l[k]'hlk = x at *
          have d1 : decide (x < 1) = false := by simp; omega
          have d2 : decide (15 < x) = true := by simp; omega
          clear hc HO hok
          go_wp2_with fail
          go_region
          go_wp2
          go_ret
          exact ⟨by rw [HN.out]; rfl, hB.drew⟩
        cases k with
        | zero => exact absurd ⟨by omega, by omega, fun j e => absurd e (by omega)⟩ hok
        | succ j =>
          have cj := hc j (by omega)
          have hle : ¬ l[j]'(by omega) < l[j + 1]'hlk := fun hh => hok ⟨by omega, by omega, fun j' e => by
            have : j' = j := by omega
            subst this
            exact hh⟩
          generalize l[j + 1]'hlk = x at *
          generalize l[j]'(by omega) = y at *
          have d1 : decide (x < 1) = false := by simp; omega
          have d2 : decide (15 < x) = false := by simp; omega
          have d3 : decide (x ≤ y) = true := by simp; omega
          clear hok hc HO
          go_wp2_with fail
          go_region
          go_wp2
          go_ret
          exact ⟨by rw [HN.out]; rfl, hB.drew⟩
    · have dk : decide ((k : Int) < l.length) = false := by simp; omega
      have HY : Hid (nodesB l = true) := nodesB_true fun j h => HO.out j h (by omega)
      clear HO
      go_wp2
      go_ret
      exact ⟨by rw [HY.out]; rfl, hB⟩
set_option maxRecDepth 100000 in
theorem same_eq (v1 v2 : Value) (l : List Int) (w : World) (h1 : IsRow w 1 v1 l.length (iCells l)) (h2 : IsRow w 1 v2 l.length (iCells l)) (hl : l.length ≤ 1000000) :
    Calls Tryd.prog 15 #[v1, v2] w fun e w' => e = .returned (.bool true) ∧ Below w.heap.size w w' := by
  obtain ⟨a1, cap1, rfl⟩ := h1.form
  obtain ⟨a2, cap2, rfl⟩ := h2.form
  have H1 : Hid (IsRow w 1 (.slice a1 l.length cap1) l.length (iCells l)) := h1
  have H2 : Hid (IsRow w 1 (.slice a2 l.length cap2) l.length (iCells l)) := h2
  clear h1 h2
  go_enter Tryd.func15, Tryd.ntmps15
  go_wp2_with fail
  go_loopw [5] (fun i wr => ∃ k : Nat, k ≤ l.length ∧ i = .int .i64 (k : Int) ∧ Below w.heap.size w wr) (fun i _ => l.length - (intOf i).toNat)
  case atStart => exact ⟨0, Nat.zero_le _, rfl, Below.refl _ _⟩
  case round =>
    obtain ⟨k, hk, rfl, hB⟩ := hrel
    by_cases hlk : k < l.length
    · have dk : decide ((k : Int) < l.length) = true := by simp; omega
      obtain ⟨b1, off1, rfl, -, hlt1, hcap1, hc1⟩ := iCells_at (H1.out.below hB) (by omega)
      obtain ⟨b2, off2, rfl, -, hlt2, hcap2, hc2⟩ := iCells_at (H2.out.below hB) (by omega)
      have c1 := hc1 k hlk
      have c2 := hc2 k hlk
      generalize l[k]'hlk = x at *
      clear hc1 hc2
      go_wp2_with fail
      go_region
      go_wp2
      go_roundw
      case rel => exact ⟨k + 1, by omega, by simp, hB.drew⟩
      case measure => simp [intOf]; omega
    · have dk : decide ((k : Int) < l.length) = false := by simp; omega
      go_wp2
      go_ret
      exact ⟨rfl, hB⟩
set_option maxRecDepth 100000 in
theorem has_any (v : Value) (l : List Int) (x : Int) (w : World) (hr : IsRow w 1 v l.length (iCells l)) (hl : l.length ≤ 1000000) :
    Calls Tryd.prog 29 #[v, .int .i64 x] w fun e w' => e = .returned (.bool (decide (x ∈ l))) ∧ w' = w := by
  obtain ⟨a0, cap0, rfl⟩ := hr.form
  have HR : Hid (IsRow w 1 (.slice a0 l.length cap0) l.length (iCells l)) := hr
  clear hr
  go_enter Tryd.func29, Tryd.ntmps29
  go_wp2_with fail
  go_loopw [4, 5] (fun r i wr => r = .bool false ∧ ∃ k : Nat, k ≤ l.length ∧ i = .int .i64 (k : Int) ∧ Hid (∀ (j : Nat) (h : j < l.length), j < k → l[j] ≠ x) ∧ w = wr) (fun _ i _ => l.length - (intOf i).toNat)
  case atStart => exact ⟨rfl, 0, Nat.zero_le _, rfl, fun j h hj => absurd hj (Nat.not_lt_zero _), rfl⟩
  case round =>
    obtain ⟨rfl, k, hk, rfl, HO, rfl⟩ := hrel
    by_cases hlk : k < l.length
    · have dk : decide ((k : Int) < l.length) = true := by simp; omega
      obtain ⟨b, off, rfl, -, hlt, hcap, hc⟩ := iCells_at HR.out (by omega)
      have ck := hc k hlk
      by_cases he : l[k] = x
      · have HX : Hid (decide (x ∈ l) = true) := decide_eq_true (by rw [← he]; exact List.getElem_mem hlk)
        rw [he] at ck
        clear hc HO he
        go_wp2
        go_ret
        exact ⟨by rw [HX.out]; rfl, rfl⟩
      · have de : (l[k] == x) = false := by rw [beq_eq_false_iff_ne]; exact he
        have HO2 : Hid (∀ (j : Nat) (h : j < l.length), j < k + 1 → l[j] ≠ x) := fun j h hj => by
          by_cases e : j = k
          · subst e; exact he
          · exact HO.out j h (by omega)
        generalize l[k]'hlk = y at *
        clear hc HO he
        go_wp2
        go_roundw
        case rel => exact ⟨rfl, k + 1, by omega, by simp, HO2, trivial⟩
        case measure => simp [intOf]; omega
    · have dk : decide ((k : Int) < l.length) = false := by simp; omega
      have HX : Hid (decide (x ∈ l) = false) := decide_eq_false fun hm => by
        obtain ⟨j, hj, e⟩ := List.mem_iff_getElem.1 hm
        exact HO.out j hj (by omega) e
      clear HO
      go_wp2
      go_ret
      exact ⟨by rw [HX.out]; rfl, rfl⟩
end Go.Proofs.YtmnmjphgpblbhaaDoor
/- The reference's Digits, Point, ahead: walks. -/
namespace Go.Proofs.YtmnmjphgpblbhaaDoor
open Go.RowKit

theorem cvJ (w : World) (x : Int) : (convert 70 9 (.slice (some ⟨w.heap.size, 0, none⟩) 1 1)).run Tryd.prog (w.alloc (.cells #[.int .u8 x] 5)) = .ok (.string (strOfNums [x])) (w.alloc (.cells #[.int .u8 x] 5)) := by
  refine run_convert_bytes_arg _ 70 5 Tryd.underlying70 Tryd.underlying5 w.heap.size 0 1 1 [x] rfl ?_ 9 Tryd.underlying9
  intro i hi
  have : i = 0 := by omega
  subst this
  simp
set_option maxRecDepth 100000 in
theorem digits_1 (n : Nat) (h : n < 10) (w : World) : Calls Tryd.prog 42 #[.int .i64 (n : Int)] w fun e w' => e = .returned (.string ⟨(nt n).toArray⟩) ∧ Below w.heap.size w w' := by
  have hcv := cvJ
  have : n = 0 ∨ n = 1 ∨ n = 2 ∨ n = 3 ∨ n = 4 ∨ n = 5 ∨ n = 6 ∨ n = 7 ∨ n = 8 ∨ n = 9 := by omega
  rcases this with rfl | rfl | rfl | rfl | rfl | rfl | rfl | rfl | rfl | rfl
  all_goals
    clear h
    go_enter Tryd.func42, Tryd.ntmps42
    go_wp2
    go_ret
    exact ⟨rfl, al_belowJ w _⟩
set_option maxRecDepth 100000 in
theorem digits_2 (n : Nat) (h : 10 ≤ n) (h2 : n ≤ 15) (w : World) : Calls Tryd.prog 42 #[.int .i64 (n : Int)] w fun e w' => e = .returned (.string ⟨(nt n).toArray⟩) ∧ Below w.heap.size w w' := by
  have hcv := cvJ
  have H1 : Hid (∀ w, Calls Tryd.prog 42 #[.int .i64 1] w fun e w' => e = .returned (.string ⟨#[49]⟩) ∧ Below w.heap.size w w') := fun w => digits_1 1 (by decide) w
  have : n = 10 ∨ n = 11 ∨ n = 12 ∨ n = 13 ∨ n = 14 ∨ n = 15 := by omega
  rcases this with rfl | rfl | rfl | rfl | rfl | rfl
  all_goals
    clear h h2
    go_enter Tryd.func42, Tryd.ntmps42
    go_wp2_with fail
    refine (H1.out _).mono ?_
    rintro e w1 ⟨rfl, hb1⟩
    have HB : Hid (Below w.heap.size w w1) := (al_belowJ w _).trans (hb1.mono (by simp))
    clear hb1
    go_wp2
    go_ret
    exact ⟨rfl, HB.out⟩
theorem refPoint_any (x : Int) (w : World) : Calls Tryd.prog 23 #[.int .i64 x] w fun e w' => e = .returned (.int .u64 (ptI x : Int)) ∧ Below w.heap.size w w' := by
  cases hi : isN x
  · have e : ptI x = 0 := if_neg (by rw [hi]; decide)
    rw [e]
    by_cases h1 : x < 1
    · have d1 : decide (x < 1) = true := by simpa using h1
      go_enter Tryd.func23, Tryd.ntmps23
      go_wp2
      go_ret
      exact ⟨rfl, Below.refl _ _⟩
    · have d1 : decide (x < 1) = false := by simpa using h1
      have d2 : decide (15 < x) = true := by
        have : ¬ x ≤ 15 := fun h => by rw [isN_of (by omega) h] at hi; cases hi
        simp; omega
      clear hi
      go_enter Tryd.func23, Tryd.ntmps23
      go_wp2
      go_ret
      exact ⟨rfl, Below.refl _ _⟩
  · have e : ptI x = pt x.toNat := if_pos hi
    obtain ⟨i1, i2⟩ := isN_get hi
    obtain ⟨n, rfl⟩ : ∃ n : Nat, x = (n : Int) := ⟨x.toNat, by omega⟩
    rw [e, Int.toNat_natCast]
    have HT : Hid (∀ w, Calls Tryd.prog 42 #[.int .i64 (n : Int)] w fun e w' => e = .returned (.string ⟨(nt n).toArray⟩) ∧ Below w.heap.size w w') := fun w => by
      by_cases h : n < 10
      · exact digits_1 n h w
      · exact digits_2 n (by omega) (by omega) w
    have hz : (⟨(nt n).toArray⟩ : ByteArray).size ≤ 2 := by
      show (nt n).toArray.size ≤ 2
      unfold nt
      split <;> simp
    have HZ : Hid (((⟨#[110, 111, 100, 101, 32]⟩ : ByteArray) ++ ⟨(nt n).toArray⟩).data.toList = 110 :: 111 :: 100 :: 101 :: 32 :: nt n) := by
      show _ = _
      rw [ByteArray.data_append]
      simp
    have HH : Hid (∀ w, Calls Tryd.prog 20 #[.string ((⟨#[110, 111, 100, 101, 32]⟩ : ByteArray) ++ ⟨(nt n).toArray⟩)] w fun e w' => e = .returned (.int .u64 (pt n : Int)) ∧ w' = w) := fun w => by
      have := refHashJ ((⟨#[110, 111, 100, 101, 32]⟩ : ByteArray) ++ ⟨(nt n).toArray⟩) w (by rw [ByteArray.size_append]; show 5 + _ ≤ _; omega)
      rw [HZ.out] at this
      exact this
    have d1 : decide ((n : Int) < 1) = false := by simp; omega
    have d2 : decide ((15 : Int) < n) = false := by simp; omega
    generalize (⟨(nt n).toArray⟩ : ByteArray) = z at *
    clear hi e HZ
    go_enter Tryd.func23, Tryd.ntmps23
    go_wp2_with fail
    refine (HT.out _).mono ?_
    rintro e w1 ⟨rfl, hb1⟩
    have HB : Hid (Below w.heap.size w w1) := hb1
    clear hb1
    go_wp2_with fail
    refine (HH.out _).mono ?_
    rintro e w2 ⟨rfl, hw⟩
    subst hw
    go_wp2
    go_ret
    exact ⟨rfl, HB.out⟩
theorem pt_inj : ∀ a b : Fin 16, 1 ≤ a.val → 1 ≤ b.val → pt a.val = pt b.val → a.val = b.val := by decide +kernel
/-- Nodes stand ahead of one another by their points. -/
theorem ahead_any (a b : Nat) (w : World) (ha : 1 ≤ a ∧ a ≤ 15) (hb : 1 ≤ b ∧ b ≤ 15) : Calls Tryd.prog 35 #[.int .i64 (a : Int), .int .i64 (b : Int)] w fun e w' => e = .returned (.bool (decide (pt a < pt b))) ∧ Below w.heap.size w w' := by
  have pa : ptI (a : Int) = pt a := if_pos (isN_of (by omega) (by omega))
  have pb : ptI (b : Int) = pt b := if_pos (isN_of (by omega) (by omega))
  have HPa : Hid (∀ w, Calls Tryd.prog 23 #[.int .i64 (a : Int)] w fun e w' => e = .returned (.int .u64 (pt a : Int)) ∧ Below w.heap.size w w') := fun w => by have := refPoint_any (a : Int) w; rw [pa] at this; exact this
  have HPb : Hid (∀ w, Calls Tryd.prog 23 #[.int .i64 (b : Int)] w fun e w' => e = .returned (.int .u64 (pt b : Int)) ∧ Below w.heap.size w w') := fun w => by have := refPoint_any (b : Int) w; rw [pb] at this; exact this
  have hinj : pt a = pt b → a = b := fun h => pt_inj ⟨a, by omega⟩ ⟨b, by omega⟩ ha.1 hb.1 h
  clear pa pb
  generalize pt a = x at *
  generalize pt b = y at *
  by_cases h1 : x < y
  · have d1 : decide (x < y) = true := by simpa using h1
    rw [d1]
    clear hinj
    go_enter Tryd.func35, Tryd.ntmps35
    go_wp2_with fail
    refine (HPa.out _).mono ?_
    rintro e w1 ⟨rfl, hb1⟩
    go_wp2_with fail
    refine (HPb.out _).mono ?_
    rintro e w2 ⟨rfl, hb2⟩
    have HB : Hid (Below w.heap.size w w2) := hb1.trans (hb2.mono hb1.size)
    clear hb1 hb2
    go_wp2
    go_ret
    exact ⟨rfl, HB.out⟩
  · have d1 : decide (x < y) = false := by simpa using h1
    rw [d1]
    have d3 : (x == y) = true → decide (a < b) = false := fun h => by
      have := hinj (by simpa using h)
      simp; omega
    cases d2 : (x == y)
    · clear hinj d3
      have d2' : ((x : Int) == (y : Int)) = false := by rw [beq_eq_false_iff_ne] at d2 ⊢; omega
      go_enter Tryd.func35, Tryd.ntmps35
      go_wp2_with fail
      refine (HPa.out _).mono ?_
      rintro e w1 ⟨rfl, hb1⟩
      go_wp2_with fail
      refine (HPb.out _).mono ?_
      rintro e w2 ⟨rfl, hb2⟩
      have HB2 : Hid (Below w.heap.size w w2) := hb1.trans (hb2.mono hb1.size)
      clear hb1 hb2
      go_wp2_with fail
      refine (HPa.out _).mono ?_
      rintro e w3 ⟨rfl, hb3⟩
      have HB3 : Hid (Below w.heap.size w w3) := HB2.out.trans (hb3.mono HB2.out.size)
      clear hb3
      go_wp2_with fail
      refine (HPb.out _).mono ?_
      rintro e w4 ⟨rfl, hb4⟩
      have HB4 : Hid (Below w.heap.size w w4) := HB3.out.trans (hb4.mono HB3.out.size)
      clear hb4
      go_wp2
      go_ret
      exact ⟨rfl, HB4.out⟩
    · have d4 := d3 d2
      have exy : x = y := by simpa using d2
      subst exy
      clear hinj d3 d2 d1 h1
      go_enter Tryd.func35, Tryd.ntmps35
      go_wp2_with fail
      refine (HPa.out _).mono ?_
      rintro e w1 ⟨rfl, hb1⟩
      go_wp2_with fail
      refine (HPb.out _).mono ?_
      rintro e w2 ⟨rfl, hb2⟩
      have HB2 : Hid (Below w.heap.size w w2) := hb1.trans (hb2.mono hb1.size)
      clear hb1 hb2
      go_wp2_with fail
      refine (HPa.out _).mono ?_
      rintro e w3 ⟨rfl, hb3⟩
      have HB3 : Hid (Below w.heap.size w w3) := HB2.out.trans (hb3.mono HB2.out.size)
      clear hb3
      go_wp2_with fail
      refine (HPb.out _).mono ?_
      rintro e w4 ⟨rfl, hb4⟩
      have HB4 : Hid (Below w.heap.size w w4) := HB3.out.trans (hb4.mono HB3.out.size)
      clear hb4
      go_wp2
      go_ret
      exact ⟨rfl, HB4.out⟩
end Go.Proofs.YtmnmjphgpblbhaaDoor
/- The law's without and awake: walks. -/
namespace Go.Proofs.YtmnmjphgpblbhaaDoor
open Go.RowKit

/-- What hands back ints leaves. -/
def RiPost (l : List Int) (w : World) (e : Ending) (w' : World) : Prop :=
  ∃ v', e = .returned v' ∧ IsRow w' 1 v' l.length (iCells l) ∧ Below w.heap.size w w'
theorem RwPost.ints {r : List Nat} {w : World} {e : Ending} {w' : World} (h : RwPost r w e w') : RiPost (r.map fun (n : Nat) => (n : Int)) w e w' := by
  obtain ⟨v', he, hr, hb⟩ := h
  exact ⟨v', he, by rw [List.length_map, ← nCells_is]; exact hr, hb⟩
/-- Numbers without one. -/
def woL (l : List Int) (n : Int) : List Int := l.filter fun x => decide (x ≠ n)
theorem woL_take (l : List Int) (n : Int) (k : Nat) (hk : k < l.length) : woL (l.take (k + 1)) n = if l[k] = n then woL (l.take k) n else woL (l.take k) n ++ [l[k]] := by
  unfold woL
  rw [List.take_succ_eq_append_getElem hk, List.filter_append]
  by_cases h : l[k] = n
  · rw [if_pos h, List.filter_cons_of_neg (by simpa using h)]
    simp
  · rw [if_neg h, List.filter_cons_of_pos (by simpa using h)]
    simp
theorem iCells_snoc (l : List Int) (x : Int) : iCells (l ++ [x]) = iCells l ++ [.int .i64 x] := by simp [iCells]
set_option maxRecDepth 100000 in
set_option maxHeartbeats 1000000 in
theorem without_any (v : Value) (l : List Int) (n : Int) (w : World) (hr : IsRow w 1 v l.length (iCells l)) (hl : l.length ≤ 1000000) :
    Calls Tryd.prog 30 #[v, .int .i64 n] w fun e w' => RiPost (woL l n) w e w' := by
  obtain ⟨a0, cap0, rfl⟩ := hr.form
  have HR : Hid (IsRow w 1 (.slice a0 l.length cap0) l.length (iCells l)) := hr
  clear hr
  obtain ⟨i0, hi0, hz0, hz1, hz2⟩ := info_parts info_in
  go_enter Tryd.func30, Tryd.ntmps30
  go_wp2_with fail
  go_loopw [5, 6] (fun o i wr => ∃ k : Nat, k ≤ l.length ∧ i = .int .i64 (k : Int) ∧ (woL (l.take k) n).length ≤ k ∧ wr.ownsRow w.heap.size 3 1 o (woL (l.take k) n).length (iCells (woL (l.take k) n)) ∧ Below w.heap.size w wr) (fun _ i _ => l.length - (intOf i).toNat)
  case atStart => exact ⟨0, Nat.zero_le _, rfl, Nat.le_refl _, World.ownsRow_nil _ _ _ _, Below.refl _ _⟩
  case round =>
    obtain ⟨k, hk, rfl, hwk, hown, hB⟩ := hrel
    have hsz := hB.size
    by_cases hlk : k < l.length
    · have dk : decide ((k : Int) < l.length) = true := by simp; omega
      obtain ⟨b, off, rfl, -, hlt, hcap, hc⟩ := iCells_at (HR.out.below hB) (by omega)
      have ck := hc k hlk
      have ht := woL_take l n k hlk
      have HO : Hid (wr.ownsRow w.heap.size 3 1 u5 (woL (l.take k) n).length (iCells (woL (l.take k) n))) := hown
      by_cases he : l[k] = n
      · rw [if_pos he] at ht
        have HT : Hid (woL (l.take (k + 1)) n = woL (l.take k) n) := ht
        rw [he] at ck
        generalize woL (l.take k) n = L at *
        clear hc ht hown he
        go_wp2
        go_roundw
        case rel => exact ⟨k + 1, by omega, by simp, by rw [HT.out]; omega, by rw [HT.out]; exact HO.out, hB⟩
        case measure => simp [intOf]; omega
      · rw [if_neg he] at ht
        have HT : Hid (woL (l.take (k + 1)) n = woL (l.take k) n ++ [l[k]]) := ht
        have de : (l[k] != n) = true := by rw [bne_iff_ne]; exact he
        generalize woL (l.take k) n = L at *
        generalize l[k]'hlk = x at *
        clear hc ht hown he
        go_wp2_with (at_builtin; go_loud (refine wpl_app1 wr rfl (.tmp 19) (.tmp 24) 23 3 rfl i0 _ 8 Tryd.underlying23 hi0 hz0 hz1 hz2 rfl w.heap.size u5 L.length _ rfl HO.out (.int .i64 x) _ rfl rfl rfl (by omega) (by unfold maxLen; omega) hsz ?_; intro v4 w4 hown4 hb4 hne4))
        have HO4 : Hid (w4.ownsRow w.heap.size 3 1 v4 (woL (l.take (k + 1)) n).length (iCells (woL (l.take (k + 1)) n))) := by show World.ownsRow _ _ _ _ _ _ _; rw [HT.out, iCells_snoc, List.length_append]; exact hown4
        have HL4 : Hid ((woL (l.take (k + 1)) n).length ≤ k + 1) := by show _ ≤ _; rw [HT.out, List.length_append, List.length_singleton]; omega
        have HB4 : Hid (Below w.heap.size w w4) := hB.trans hb4
        clear hown4 hb4 hne4 HO hB HT
        go_wp2
        go_roundw
        case rel => exact ⟨k + 1, by omega, by simp, HL4.out, HO4.out, HB4.out⟩
        case measure => simp [intOf]; omega
    · have dk : decide ((k : Int) < l.length) = false := by simp; omega
      rw [List.take_of_length_le (by omega)] at hown
      have HO : Hid (IsRow wr 1 u5 (woL l n).length (iCells (woL l n))) := IsRow.own hown
      have HB : Hid (Below w.heap.size w wr) := hB
      clear hown hB
      go_wp2
      go_ret
      exact ⟨_, rfl, HO.out, HB.out⟩
theorem row_lit (l : List Int) (T : TypeId) (w : World) (hl : l.length ≤ 1000) : IsRow (w.alloc (.cells (iCells l).toArray T)) 1 (.slice (some ⟨w.heap.size, 0, none⟩) l.length l.length) l.length (iCells l) := by
  have hlen : (iCells l).length = l.length := by simp [iCells]
  refine ⟨by rw [hlen]; omega, .inr ⟨w.heap.size, 0, l.length, rfl, by simp, Nat.le_refl _, by unfold maxLen; omega, ?_⟩⟩
  intro j u hu
  simp
  exact hu
theorem nodes4 : NodesP [4] := by
  intro k hk
  have : k = 0 := by simp at hk; omega
  subst this
  exact ⟨by simp, by simp, fun j e => absurd e (by omega)⟩
theorem nodes5 : NodesP [1, 2, 3, 4, 5] := by
  intro k hk
  have : k = 0 ∨ k = 1 ∨ k = 2 ∨ k = 3 ∨ k = 4 := by simp at hk; omega
  rcases this with rfl | rfl | rfl | rfl | rfl
  · exact ⟨by simp, by simp, fun j e => absurd e (by omega)⟩
  all_goals
    refine ⟨by simp, by simp, fun j e => ?_⟩
    cases e
    simp
theorem nodes0 : NodesP [] := fun _ hk => absurd hk (Nat.not_lt_zero _)
theorem rg4 : rgL [4] = [4] := by rw [rgL_of nodes4]; decide
theorem rg0 : rgL [] = [] := by rw [rgL_of nodes0]; decide
theorem own4 : ownL 77 [4] = 4 := by unfold ownL; rw [rg4]; decide +kernel
theorem has4 : hasL [4] = true := by unfold hasL; rw [rg4]; rfl
theorem has0 : hasL [] = false := by unfold hasL; rw [rg0]; rfl
theorem pl4 : plI 4 [4] = 0 := by decide +kernel
theorem own_one (key n : Nat) : owI key [n] = 0 := by
  unfold owI
  split
  · rename_i h
    simp at h
    rw [List.filter_cons_of_neg (by simp; omega)]
    rfl
  · rfl
theorem fg_one (n p : Nat) : ∀ k, fgL 0 [n] p k = []
  | 0 => rfl
  | k + 1 => by
    unfold fgL
    rw [own_one, if_neg (by simp), fg_one n p k]
theorem fing4 : FgL 4 (rgL [4]) = [] := by
  rw [rg4, FgL_at (k := 0) (by decide) pl4, fg_one]
  rfl
theorem pt1 : ptI 1 = pt 1 := by decide +kernel
theorem hash1 : hashL [110, 111, 100, 101, 32, 49] = pt 1 := by decide +kernel
set_option maxRecDepth 100000 in
set_option maxHeartbeats 2000000 in
theorem awake10_any (w : World) : Calls Tryd.prog 9 #[] w fun e w' => e = .returned (.bool true) ∧ Below w.heap.size w w' := by
  have HO4 : Hid (∀ v w, IsRow w 1 v 1 (iCells [4]) → Calls Tryd.prog 11 #[.int .u64 77, v] w fun e w' => e = .returned (.tuple #[.int .i64 4, .bool true]) ∧ Below w.heap.size w w') := fun v w h => by
    have := ownerL_any 77 v [4] w h (by decide)
    rw [own4, has4] at this
    exact this
  have HO0 : Hid (∀ w, Calls Tryd.prog 11 #[.int .u64 77, .slice none 0 0] w fun e w' => ∃ x, e = .returned (.tuple #[.int .i64 x, .bool false]) ∧ Below w.heap.size w w') := fun w => by
    have := ownerL_any 77 (.slice none 0 0) [] w (IsRow.nil _ _) (by decide)
    rw [has0] at this
    exact this.mono fun e w' h => ⟨_, h.1, h.2⟩
  have HRg : Hid (∀ v w, IsRow w 1 v 5 (iCells [1, 2, 3, 4, 5]) → Calls Tryd.prog 16 #[v] w fun e w' => ∃ a cap, e = .returned (.slice a 5 cap) ∧ Below w.heap.size w w') := fun v w h => (ring_any v [1, 2, 3, 4, 5] w h (by decide)).mono fun e w' ⟨v', he, hr, hb⟩ => by
    obtain ⟨a, cap, rfl⟩ := hr.form
    rw [rgL_len nodes5] at he
    exact ⟨a, cap, he, hb⟩
  have HFg : Hid (∀ v w, IsRow w 1 v 1 (iCells [4]) → Calls Tryd.prog 26 #[.int .i64 4, v] w fun e w' => ∃ a cap, e = .returned (.slice a 0 cap) ∧ Below w.heap.size w w') := fun v w h => (fingersL_any 4 v [4] w h (by decide)).mono fun e w' ⟨v', he, hr, hb⟩ => by
    obtain ⟨a, cap, rfl⟩ := hr.form
    rw [fing4] at he
    exact ⟨a, cap, he, hb⟩
  have HPt : Hid (∀ w, Calls Tryd.prog 22 #[.int .i64 1] w fun e w' => e = .returned (.int .u64 (pt 1 : Int)) ∧ w' = w) := fun w => by
    have := point_any 1 w
    rw [pt1] at this
    exact this
  have HHs : Hid (∀ w, Calls Tryd.prog 20 #[.string ⟨#[110, 111, 100, 101, 32, 49]⟩] w fun e w' => e = .returned (.int .u64 (pt 1 : Int)) ∧ w' = w) := fun w => by
    have := refHashJ ⟨#[110, 111, 100, 101, 32, 49]⟩ w (by decide)
    rw [show (⟨#[110, 111, 100, 101, 32, 49]⟩ : ByteArray).data.toList = [110, 111, 100, 101, 32, 49] from rfl, hash1] at this
    exact this
  generalize (pt 1 : Int) = y at *
  have r4 := fun w : World => row_lit [4] 3 w (by decide)
  have r5 := fun w : World => row_lit [1, 2, 3, 4, 5] 3 w (by decide)
  have HR4 : Hid (∀ w : World, IsRow (w.alloc (.cells #[.int .i64 4] 3)) 1 (.slice (some ⟨w.heap.size, 0, none⟩) 1 1) 1 (iCells [4])) := r4
  have HR5 : Hid (∀ w : World, IsRow (w.alloc (.cells #[.int .i64 1, .int .i64 2, .int .i64 3, .int .i64 4, .int .i64 5] 3)) 1 (.slice (some ⟨w.heap.size, 0, none⟩) 5 5) 5 (iCells [1, 2, 3, 4, 5])) := r5
  clear r4 r5
  go_enter Tryd.func9, Tryd.ntmps9
  go_wp2_with fail
  refine (HO4.out _ _ (HR4.out _)).mono ?_
  rintro e w1 ⟨rfl, hb1⟩
  have HB1 : Hid (Below w.heap.size w w1) := (al_belowJ w _).trans (hb1.mono (by simp))
  clear hb1
  go_wp2_with fail
  refine (HRg.out _ _ (HR5.out _)).mono ?_
  rintro e w2 ⟨a2, cap2, rfl, hb2⟩
  have HB2 : Hid (Below w.heap.size w w2) := HB1.out.trans (((al_belowJ w1 _).trans (hb2.mono (by simp))).mono HB1.out.size)
  clear hb2 HB1
  go_wp2_with fail
  refine (HO0.out _).mono ?_
  rintro e w3 ⟨x3, rfl, hb3⟩
  have HB3 : Hid (Below w.heap.size w w3) := HB2.out.trans (hb3.mono HB2.out.size)
  clear hb3 HB2
  go_wp2_with fail
  refine (HFg.out _ _ (HR4.out _)).mono ?_
  rintro e w4 ⟨a4, cap4, rfl, hb4⟩
  have HB4 : Hid (Below w.heap.size w w4) := HB3.out.trans (((al_belowJ w3 _).trans (hb4.mono (by simp))).mono HB3.out.size)
  clear hb4 HB3
  go_wp2_with fail
  refine (HPt.out _).mono ?_
  rintro e w5 ⟨rfl, hw⟩
  subst hw
  go_wp2_with fail
  refine (HHs.out _).mono ?_
  rintro e w6 ⟨rfl, hw⟩
  subst hw
  go_wp2
  go_ret
  exact ⟨rfl, HB4.out⟩
end Go.Proofs.YtmnmjphgpblbhaaDoor
/- The reference's Ring: its walk. -/
namespace Go.Proofs.YtmnmjphgpblbhaaDoor
open Go.RowKit

/-- How many stand ahead. -/
def rk (l : List Int) (x : Nat) : Nat := (l.filter (fun (y : Int) => decide (pt y.toNat < pt x))).length
theorem sorted_rank : ∀ (r : List Nat), r.Pairwise (fun a b => pt a < pt b) → ∀ (q : Nat) (hq : q < r.length), (r.filter (fun y => decide (pt y < pt r[q]))).length = q
  | [], _, q, hq => absurd hq (Nat.not_lt_zero _)
  | a :: t, h, 0, _ => by
    have ha : ∀ b ∈ t, pt a < pt b := fun b hb => List.rel_of_pairwise_cons h hb
    have : (a :: t).filter (fun y => decide (pt y < pt (a :: t)[0])) = [] := by
      rw [List.filter_eq_nil_iff]
      intro b hb
      rcases List.mem_cons.1 hb with rfl | hb
      · simp
      · have := ha b hb; simp; omega
    rw [this]
    rfl
  | a :: t, h, q + 1, hq => by
    have ha : ∀ b ∈ t, pt a < pt b := fun b hb => List.rel_of_pairwise_cons h hb
    have hq' : q < t.length := by simpa using hq
    have ih := sorted_rank t (List.Pairwise.of_cons h) q hq'
    have e : (a :: t)[q + 1] = t[q] := rfl
    rw [e, List.filter_cons_of_pos (by simpa using ha _ (List.getElem_mem hq')), List.length_cons, ih]
theorem rk_at {l : List Int} (h : NodesP l) (q : Nat) (hq : q < (rgL l).length) : rk l (rgL l)[q] = q := by
  have hp := ((rgL_perm h).filter (fun (y : Int) => decide (pt y.toNat < pt (rgL l)[q]))).length_eq
  unfold rk
  rw [← hp, List.filter_map, List.length_map]
  exact sorted_rank _ (rgL_sorted l) q hq
theorem one_of {l : List Int} {a : Int} (hn : l.Nodup) (h1 : a ∈ l) (h2 : ∀ x ∈ l, x = a) : l = [a] := by
  match l, hn, h1, h2 with
  | [x], _, _, h2 => rw [h2 x (by simp)]
  | x :: y :: t, hn, _, h2 =>
    have e1 := h2 x (by simp)
    have e2 := h2 y (by simp)
    exact absurd (List.nodup_cons.1 hn).1 (by rw [e1, e2]; simp)
/-- Those of the first so many that have a rank. -/
def selL (l : List Int) (p k : Nat) : List Int := (l.take k).filter (fun (x : Int) => decide (rk l x.toNat = p))
theorem sel_all {l : List Int} (h : NodesP l) (p : Nat) (hp : p < (rgL l).length) : selL l p l.length = [((rgL l)[p] : Int)] := by
  unfold selL
  rw [List.take_length]
  have hmem : ((rgL l)[p] : Int) ∈ l := (rgL_mem h).1 (List.mem_map.2 ⟨_, List.getElem_mem hp, rfl⟩)
  refine one_of ((nodes_nodup h).filter _) (List.mem_filter.2 ⟨hmem, ?_⟩) ?_
  · rw [Int.toNat_natCast, rk_at h p hp]; simp
  · intro x hx
    obtain ⟨hx1, hx2⟩ := List.mem_filter.1 hx
    obtain ⟨n, hn, rfl⟩ := List.mem_map.1 ((rgL_mem h).2 hx1)
    obtain ⟨q, hq, rfl⟩ := List.mem_iff_getElem.1 hn
    rw [Int.toNat_natCast, rk_at h q hq] at hx2
    have : q = p := by simpa using hx2
    subst this
    rfl
theorem sel_step (l : List Int) (p k : Nat) (hk : k < l.length) : selL l p (k + 1) = if rk l l[k].toNat = p then selL l p k ++ [l[k]] else selL l p k := by
  unfold selL
  rw [List.take_succ_eq_append_getElem hk, List.filter_append]
  by_cases h : rk l l[k].toNat = p
  · rw [if_pos h, List.filter_cons_of_pos (by simpa using h)]; simp
  · rw [if_neg h, List.filter_cons_of_neg (by simpa using h)]; simp
theorem rk_step (l : List Int) (x m : Nat) (hm : m < l.length) : ((l.take (m + 1)).filter (fun (y : Int) => decide (pt y.toNat < pt x))).length = ((l.take m).filter (fun (y : Int) => decide (pt y.toNat < pt x))).length + if pt l[m].toNat < pt x then 1 else 0 := by
  rw [List.take_succ_eq_append_getElem hm, List.filter_append, List.length_append]
  by_cases h : pt l[m].toNat < pt x
  · rw [if_pos h, List.filter_cons_of_pos (by simpa using h)]; simp
  · rw [if_neg h, List.filter_cons_of_neg (by simpa using h)]; simp
abbrev SG (b o1 o2 : Nat) (x y : Int) (wr w : World) : Prop := w.cell? ⟨b, o1, none⟩ = some (.int .i64 x) ∧ w.cell? ⟨b, o2, none⟩ = some (.int .i64 y) ∧ b < w.heap.size ∧ Below wr.heap.size wr w
theorem SG_drew {b o1 o2 : Nat} {x y : Int} {wr W : World} (h : SG b o1 o2 x y wr W) : SG b o1 o2 x y wr W.drew := ⟨h.1, h.2.1, h.2.2.1, h.2.2.2.drew⟩
theorem SG_call {b o1 o2 : Nat} {x y : Int} {wr W w' : World} (hb : Below W.heap.size W w') (h : SG b o1 o2 x y wr W) : SG b o1 o2 x y wr w' := ⟨(hb.cell (p := ⟨b, o1, none⟩) h.2.2.1).trans h.1, (hb.cell (p := ⟨b, o2, none⟩) h.2.2.1).trans h.2.1, Nat.lt_of_lt_of_le h.2.2.1 hb.size, h.2.2.2.trans (hb.mono h.2.2.2.size)⟩
set_option maxRecDepth 100000 in
set_option maxHeartbeats 4000000 in
theorem refRing_any (v : Value) (l : List Int) (w : World) (hr : IsRow w 1 v l.length (iCells l)) (hl : l.length ≤ 1000) :
    Calls Tryd.prog 17 #[v] w fun e w' => RwPost (rgL l) w e w' := by
  obtain ⟨a0, cap0, rfl⟩ := hr.form
  have HR : Hid (IsRow w 1 (.slice a0 l.length cap0) l.length (iCells l)) := hr
  have HNd : Hid (Calls Tryd.prog 14 #[.slice a0 l.length cap0] w fun e w' => e = .returned (.bool (nodesB l)) ∧ Below w.heap.size w w') := refNodes_any _ l w hr (by omega)
  clear hr
  by_cases hN : NodesP l
  rotate_left
  · rw [nodesB_false hN] at HNd
    have HG : Hid (rgL l = []) := rgL_not hN
    go_enter Tryd.func17, Tryd.ntmps17
    go_wp2_with fail
    refine HNd.out.mono ?_
    rintro e w1 ⟨rfl, hb1⟩
    have HB : Hid (Below w.heap.size w w1) := hb1
    clear hb1
    go_wp2
    go_ret
    exact ⟨_, rfl, by rw [HG.out]; exact IsRow.nil _ _, HB.out⟩
  rw [nodesB_true hN] at HNd
  have hrl := rgL_len hN
  have hl15 : l.length ≤ 15 := by have := rg_le l; omega
  have HNP : Hid (NodesP l) := hN
  have HRl : Hid ((rgL l).length = l.length) := hrl
  clear hN hrl
  obtain ⟨i0, hi0, hz0, hz1, hz2⟩ := info_parts info_in
  go_enter Tryd.func17, Tryd.ntmps17
  go_wp2_with fail
  refine HNd.out.mono ?_
  rintro e w0 ⟨rfl, hb0⟩
  have HR0 : Hid (IsRow w0 1 (.slice a0 l.length cap0) l.length (iCells l)) := HR.out.below hb0
  have HB0 : Hid (Below w.heap.size w w0) := hb0
  have hs0 := hb0.size
  clear hb0 HR HNd
  go_wp2_with fail
  go_loopw [3, 4] (fun o i wr => ∃ p : Nat, p ≤ l.length ∧ i = .int .i64 (p : Int) ∧ wr.ownsRow w0.heap.size 3 1 o p (nCells ((rgL l).take p)) ∧ Below w0.heap.size w0 wr) (fun _ i _ => l.length - (intOf i).toNat)
  case atStart => exact ⟨0, Nat.zero_le _, rfl, World.ownsRow_nil _ _ _ _, Below.refl _ _⟩
  case round =>
    obtain ⟨p, hp, rfl, hown, hB⟩ := hrel
    by_cases hlp : p < l.length
    rotate_left
    · have dp : decide ((p : Int) < l.length) = false := by simp; omega
      have hp' : p = l.length := by omega
      subst hp'
      rw [List.take_of_length_le (by rw [HRl.out]; exact Nat.le_refl _)] at hown
      have HO : Hid (IsRow wr 1 u3 (rgL l).length (nCells (rgL l))) := by show IsRow _ _ _ _ _; rw [HRl.out]; exact IsRow.own hown
      have HB : Hid (Below w.heap.size w wr) := HB0.out.trans (hB.mono hs0)
      clear hown hB
      go_wp2
      go_ret
      exact ⟨_, rfl, HO.out, HB.out⟩
    have dp : decide ((p : Int) < l.length) = true := by simp; omega
    have HO0 : Hid (wr.ownsRow w0.heap.size 3 1 u3 p (nCells ((rgL l).take p))) := hown
    have HBp : Hid (Below w0.heap.size w0 wr) := hB
    clear hown hB
    go_wp2_with fail
    go_loopw [3, 5] (fun o i wq => ∃ k : Nat, k ≤ l.length ∧ i = .int .i64 (k : Int) ∧ (selL l p k).length ≤ k ∧ wq.ownsRow w0.heap.size 3 1 o (p + (selL l p k).length) (nCells ((rgL l).take p) ++ iCells (selL l p k)) ∧ Below w0.heap.size w0 wq) (fun _ i _ => l.length - (intOf i).toNat)
    case atStart => exact ⟨0, Nat.zero_le _, rfl, Nat.le_refl _, by simpa [selL, iCells] using HO0.out, HBp.out⟩
    case round =>
      obtain ⟨k, hk, rfl, hsl, hown, hB⟩ := hrel
      by_cases hlk : k < l.length
      rotate_left
      · have dk : decide ((k : Int) < l.length) = false := by simp; omega
        have hk' : k = l.length := by omega
        subst hk'
        have hpr : p < (rgL l).length := by rw [HRl.out]; exact hlp
        have HO1 : Hid (wr.ownsRow w0.heap.size 3 1 u3 (p + 1) (nCells ((rgL l).take (p + 1)))) := by
          rw [sel_all HNP.out p hpr] at hown
          show World.ownsRow _ _ _ _ _ _ _
          rw [nCells_take _ p hpr]
          exact hown
        have HB1 : Hid (Below w0.heap.size w0 wr) := hB
        clear hown hB hsl
        go_wp2
        go_roundw
        case rel => exact ⟨p + 1, by omega, by simp, HO1.out, HB1.out⟩
        case measure => simp [intOf]; omega
      have dk : decide ((k : Int) < l.length) = true := by simp; omega
      have HO1 : Hid (wr.ownsRow w0.heap.size 3 1 u3 (p + (selL l p k).length) (nCells ((rgL l).take p) ++ iCells (selL l p k))) := hown
      have HB1 : Hid (Below w0.heap.size w0 wr) := hB
      have hs1 := hB.size
      clear hown hB
      obtain ⟨Y, hY⟩ : ∃ Y, Y = l[k] := ⟨_, rfl⟩
      have HY : Hid (Y = l[k]) := hY
      have hYn : 1 ≤ Y ∧ Y ≤ 15 := by rw [hY]; exact ⟨(HNP.out k hlk).1, (HNP.out k hlk).2.1⟩
      clear hY
      go_wp2_with fail
      go_loopw [6, 7] (fun n j wz => ∃ m c : Nat, m ≤ l.length ∧ j = .int .i64 (m : Int) ∧ n = .int .i64 (c : Int) ∧ Hid (c = ((l.take m).filter (fun (y : Int) => decide (pt y.toNat < pt Y.toNat))).length) ∧ c ≤ m ∧ Below wr.heap.size wr wz) (fun _ j _ => l.length - (intOf j).toNat)
      case atStart => exact ⟨0, 0, Nat.zero_le _, rfl, rfl, rfl, Nat.le_refl _, Below.refl _ _⟩
      case round =>
        obtain ⟨m, c, hm, rfl, rfl, HC, hcm, hB⟩ := hrel
        have HBq : Hid (Below w0.heap.size w0 wr) := HB1.out.trans (hB.mono hs1)
        obtain ⟨b, off, hbo, -, hlt, hcap, hc⟩ := iCells_at (HR0.out.below HBq.out) (by omega)
        subst hbo
        have ck : wr.cell? ⟨b, off + k, none⟩ = some (.int .i64 Y) := by rw [HY.out]; exact hc k hlk
        by_cases hlm : m < l.length
        · have dm : decide ((m : Int) < l.length) = true := by simp; omega
          have cm := hc m hlm
          obtain ⟨nm1, nm2, -⟩ := HNP.out m hlm
          have hst := rk_step l Y.toNat m hlm
          have HAh : Hid (∀ w, Calls Tryd.prog 35 #[.int .i64 l[m], .int .i64 Y] w fun e w' => e = .returned (.bool (decide (pt l[m].toNat < pt Y.toNat))) ∧ Below w.heap.size w w') := fun w => by
            have := ahead_any l[m].toNat Y.toNat w (by omega) (by omega)
            rw [Int.toNat_of_nonneg (by omega), Int.toNat_of_nonneg (by omega)] at this
            exact this
          have hBq := hB
          have hS : SG b (off + m) (off + k) l[m] Y wr wr := ⟨cm, ck, hlt, Below.refl _ _⟩
          have HB : Hid (∀ w', Below wr.heap.size wr w' → Below _ _ w') := fun w' h => hB.trans (h.mono hB.size)
          generalize hx : l[m]'hlm = x at *
          clear hc cm ck hx hB hBq HBq
          by_cases hlt2 : pt x.toNat < pt Y.toNat
          · rw [decide_eq_true hlt2] at HAh
            rw [if_pos hlt2, ← HC.out] at hst
            have HC2 : Hid (c + 1 = ((l.take (m + 1)).filter (fun (y : Int) => decide (pt y.toNat < pt Y.toNat))).length) := hst.symm
            clear hst hlt2 HC
            go_wp2_with fail
            go_region_held3 (fun w' => SG b (off + m) (off + k) x Y wr w') (first | assumption | exact SG_call (by assumption) (by assumption) | exact SG_drew (by assumption))
              (first | (go_at_call 35; refine (HAh.out _).mono ?_; rintro e w' ⟨rfl, hb⟩))
            rename_i hS2
            have HBz := HB.out _ hS2.2.2.2
            clear hS2 hS
            go_wp2
            go_roundw
            case rel => exact ⟨m + 1, c + 1, by omega, by simp, by simp, HC2, by omega, HBz⟩
            case measure => simp [intOf]; omega
          · rw [decide_eq_false hlt2] at HAh
            rw [if_neg hlt2, ← HC.out] at hst
            have HC2 : Hid (c = ((l.take (m + 1)).filter (fun (y : Int) => decide (pt y.toNat < pt Y.toNat))).length) := hst.symm
            clear hst hlt2 HC
            go_wp2_with fail
            go_region_held3 (fun w' => SG b (off + m) (off + k) x Y wr w') (first | assumption | exact SG_call (by assumption) (by assumption) | exact SG_drew (by assumption))
              (first | (go_at_call 35; refine (HAh.out _).mono ?_; rintro e w' ⟨rfl, hb⟩))
            rename_i hS2
            have HBz := HB.out _ hS2.2.2.2
            clear hS2 hS
            go_wp2
            go_roundw
            case rel => exact ⟨m + 1, c, by omega, by simp, rfl, HC2, by omega, HBz⟩
            case measure => simp [intOf]; omega
        · have dm : decide ((m : Int) < l.length) = false := by simp; omega
          have hm' : m = l.length := by omega
          subst hm'
          have hcr : c = rk l Y.toNat := by have := HC.out; rw [List.take_length] at this; exact this
          have hstp := sel_step l p k hlk
          rw [← HY.out, ← hcr] at hstp
          have HO2 : Hid (wr.ownsRow w0.heap.size 3 1 u3 (p + (selL l p k).length) (nCells ((rgL l).take p) ++ iCells (selL l p k))) := own_belowJ HO1.out hB
          have hsz := HBq.out.size
          clear hcr HC hc HO1
          generalize selL l p k = L at *
          by_cases hcp : c = p
          · have dcp : ((c : Int) == (p : Int)) = true := by rw [beq_iff_eq]; omega
            rw [if_pos hcp] at hstp
            have HT : Hid (selL l p (k + 1) = L ++ [Y]) := hstp
            clear hstp hB
            go_wp2_with (at_builtin; go_loud (refine wpl_app1 wr rfl (.tmp 43) (.tmp 48) 23 3 rfl i0 _ 8 Tryd.underlying23 hi0 hz0 hz1 hz2 rfl w0.heap.size u3 (p + L.length) _ rfl HO2.out (.int .i64 Y) _ rfl rfl rfl (by omega) (by unfold maxLen; omega) hsz ?_; intro v4 w4 hown4 hb4 hne4))
            have HO4 : Hid (w4.ownsRow w0.heap.size 3 1 v4 (p + (selL l p (k + 1)).length) (nCells ((rgL l).take p) ++ iCells (selL l p (k + 1)))) := by
              show World.ownsRow _ _ _ _ _ _ _
              rw [HT.out, iCells_snoc, List.length_append, ← List.append_assoc]
              exact hown4
            have HL4 : Hid ((selL l p (k + 1)).length ≤ k + 1) := by show _ ≤ _; rw [HT.out, List.length_append, List.length_singleton]; omega
            have HB4 : Hid (Below w0.heap.size w0 w4) := HBq.out.trans hb4
            clear hown4 hb4 hne4 HO2 HT
            go_wp2
            go_roundw
            case rel => exact ⟨k + 1, by omega, by simp, HL4.out, HO4.out, HB4.out⟩
            case measure => simp [intOf]; omega
          · have dcp : ((c : Int) == (p : Int)) = false := by rw [beq_eq_false_iff_ne]; omega
            rw [if_neg hcp] at hstp
            have HT : Hid (selL l p (k + 1) = L) := hstp
            clear hstp hB
            go_wp2
            go_roundw
            case rel => exact ⟨k + 1, by omega, by simp, by rw [HT.out]; omega, by rw [HT.out]; exact HO2.out, HBq.out⟩
            case measure => simp [intOf]; omega
end Go.Proofs.YtmnmjphgpblbhaaDoor
