/- What StoreSure calls: nodes at any length, Stored in one word, an append of a row of ints. -/
import Derived.Test.YthdbnlpbidkojaaGreatDoorZk16
import Derived.Test.YthdbnlpbidkojaaGreatDoorZk20
import Derived.Test.YthdbnlpbidkojaaGreatDoorZk17
namespace Go.Proofs.YthdbnlpbidkojaaGreatDoor
open Go.RowKit Go.ChangeMaps

set_option maxRecDepth 100000 in
set_option maxHeartbeats 1000000 in
theorem nodesG_any (v : Value) (l : List Int) (w : World) (hr : IsRow w 1 v l.length (iCells l)) (hl : l.length ≤ 140737488355328) :
    Calls Tryz.prog 53 #[v] w fun e w' => e = .returned (.bool (nodesB l)) ∧ w' = w := by
  obtain ⟨a0, cap0, rfl⟩ := hr.form
  have HR : Hid (IsRow w 1 (.slice a0 l.length cap0) l.length (iCells l)) := hr
  clear hr
  go_enter Tryz.func53, Tryz.ntmps53
  go_wp2_with fail
  go_loopw [2, 7] (fun r i wr => r = .bool false ∧ ∃ k : Nat, k ≤ l.length ∧ i = .int .i64 (k : Int) ∧ Hid (∀ (j : Nat) (h : j < l.length), j < k → okAt l j h) ∧ w = wr) (fun _ i _ => l.length - (intOf i).toNat)
  case atStart => exact ⟨rfl, 0, Nat.zero_le _, rfl, fun j h hj => absurd hj (Nat.not_lt_zero _), rfl⟩
  case round =>
    obtain ⟨rfl, k, hk, rfl, HO, rfl⟩ := hrel
    by_cases hlk : k < l.length
    · have dk : decide ((k : Int) < l.length) = true := by simp; omega
      obtain ⟨b, off, rfl, -, hlt, hcap, hc⟩ := iCells_at HR.out (by omega)
      have ck := hc k hlk
      by_cases hok : okAt l k hlk
      · have HO2 : Hid (∀ (j : Nat) (h : j < l.length), j < k + 1 → okAt l j h) := fun j h hj => by
          by_cases e : j = k
          · subst e; exact hok
          · exact HO.out j h (by omega)
        have hi : isN l[k] = true := isN_of hok.1 hok.2.1
        have HI : Hid (∀ w, Calls Tryz.prog 84 #[.int .i64 l[k]] w fun e w' => e = .returned (.bool true) ∧ w' = w) := fun w => by have := isNode_any l[k] w; rw [hi] at this; exact this
        cases k with
        | zero =>
          simp only [Nat.add_zero] at ck
          generalize l[0]'hlk = x at *
          clear hok hi hc HO
          go_wp2_with fail
          refine (HI.out _).mono ?_
          rintro e w' ⟨rfl, hw⟩
          subst hw
          go_wp2
          go_roundw
          case rel => exact ⟨rfl, 0 + 1, by omega, by simp, HO2, trivial⟩
          case measure => simp [intOf]; omega
        | succ j =>
          have cj := hc j (by omega)
          have hlt2 := hok.2.2 j rfl
          generalize l[j + 1]'hlk = x at *
          generalize l[j]'(by omega) = y at *
          have d2 : decide (x ≤ y) = false := by simp; omega
          clear hok hi hc HO
          go_wp2_with fail
          refine (HI.out _).mono ?_
          rintro e w' ⟨rfl, hw⟩
          subst hw
          go_wp2
          go_roundw
          case rel => exact ⟨rfl, j + 1 + 1, by omega, by simp, HO2, trivial⟩
          case measure => simp [intOf]; omega
      · have hno : nodesB l = false := nodesB_false fun h => hok (h k hlk)
        have HN : Hid (nodesB l = false) := hno
        clear hno
        cases hi : isN l[k]
        · have HI : Hid (∀ w, Calls Tryz.prog 84 #[.int .i64 l[k]] w fun e w' => e = .returned (.bool false) ∧ w' = w) := fun w => by have := isNode_any l[k] w; rw [hi] at this; exact this
          generalize l[k]'hlk = x at *
          clear hok hi hc HO
          go_wp2_with fail
          refine (HI.out _).mono ?_
          rintro e w' ⟨rfl, hw⟩
          subst hw
          go_wp2
          go_ret
          exact ⟨by rw [HN.out]; rfl, rfl⟩
        · have HI : Hid (∀ w, Calls Tryz.prog 84 #[.int .i64 l[k]] w fun e w' => e = .returned (.bool true) ∧ w' = w) := fun w => by have := isNode_any l[k] w; rw [hi] at this; exact this
          obtain ⟨i1, i2⟩ := isN_get hi
          cases k with
          | zero => exact absurd ⟨i1, i2, fun j e => absurd e (by omega)⟩ hok
          | succ j =>
            have cj := hc j (by omega)
            have hle : ¬ l[j]'(by omega) < l[j + 1]'hlk := fun hh => hok ⟨i1, i2, fun j' e => by
              have : j' = j := by omega
              subst this
              exact hh⟩
            generalize l[j + 1]'hlk = x at *
            generalize l[j]'(by omega) = y at *
            have d2 : decide (x ≤ y) = true := by simp; omega
            clear hok hi hc HO
            go_wp2_with fail
            refine (HI.out _).mono ?_
            rintro e w' ⟨rfl, hw⟩
            subst hw
            go_wp2
            go_ret
            exact ⟨by rw [HN.out]; rfl, rfl⟩
    · have hk' : k = l.length := by omega
      subst hk'
      have dk : decide ((l.length : Int) < l.length) = false := by simp
      have hyes : nodesB l = true := nodesB_true fun k h => HO.out k h h
      clear HO
      go_wp2
      go_ret
      exact ⟨by rw [hyes]; rfl, rfl⟩
set_option maxRecDepth 100000 in
set_option maxHeartbeats 2000000 in
theorem refNodesG_any (v : Value) (l : List Int) (w : World) (hr : IsRow w 1 v l.length (iCells l)) (hl : l.length ≤ 140737488355328) :
    Calls Tryz.prog 64 #[v] w fun e w' => e = .returned (.bool (nodesB l)) ∧ Below w.heap.size w w' := by
  obtain ⟨a0, cap0, rfl⟩ := hr.form
  have HR : Hid (IsRow w 1 (.slice a0 l.length cap0) l.length (iCells l)) := hr
  clear hr
  go_enter Tryz.func64, Tryz.ntmps64
  go_wp2_with fail
  go_loopw [2, 3] (fun r i wr => r = .bool false ∧ ∃ k : Nat, k ≤ l.length ∧ i = .int .i64 (k : Int) ∧ Hid (∀ (j : Nat) (h : j < l.length), j < k → okAt l j h) ∧ Below w.heap.size w wr) (fun _ i _ => l.length - (intOf i).toNat)
  case atStart => exact ⟨rfl, 0, Nat.zero_le _, rfl, fun j h hj => absurd hj (Nat.not_lt_zero _), Below.refl _ _⟩
  case round =>
    obtain ⟨rfl, k, hk, rfl, HO, hB⟩ := hrel
    by_cases hlk : k < l.length
    · have dk : decide ((k : Int) < l.length) = true := by simp; omega
      obtain ⟨b, off, rfl, -, hlt, hcap, hc⟩ := iCells_at (HR.out.below hB) (by omega)
      have ck := hc k hlk
      by_cases hok : okAt l k hlk
      · have HO2 : Hid (∀ (j : Nat) (h : j < l.length), j < k + 1 → okAt l j h) := fun j h hj => by
          by_cases e : j = k
          · subst e; exact hok
          · exact HO.out j h (by omega)
        obtain ⟨o1, o2, o3⟩ := hok
        cases k with
        | zero =>
          simp only [Nat.add_zero] at ck
          generalize l[0]'hlk = x at *
          have d1 : decide (x < 1) = false := by simp; omega
          have d2 : decide (15 < x) = false := by simp; omega
          clear hc HO o3
          go_wp2_with fail
          go_region
          go_wp2
          go_roundw
          case rel => exact ⟨rfl, 0 + 1, by omega, by simp, HO2, hB.drew⟩
          case measure => simp [intOf]; omega
        | succ j =>
          have cj := hc j (by omega)
          have hlt2 := o3 j rfl
          generalize l[j + 1]'hlk = x at *
          generalize l[j]'(by omega) = y at *
          have d1 : decide (x < 1) = false := by simp; omega
          have d2 : decide (15 < x) = false := by simp; omega
          have d3 : decide (x ≤ y) = false := by simp; omega
          clear hc HO o3
          go_wp2_with fail
          go_region
          go_wp2
          go_roundw
          case rel => exact ⟨rfl, j + 1 + 1, by omega, by simp, HO2, hB.drew⟩
          case measure => simp [intOf]; omega
      · have HN : Hid (nodesB l = false) := nodesB_false fun h => hok (h k hlk)
        by_cases h1 : l[k] < 1
        · generalize l[k]'hlk = x at *
          have d1 : decide (x < 1) = true := by simp; omega
          clear hc HO hok
          go_wp2_with fail
          go_region
          go_wp2
          go_ret
          exact ⟨by rw [HN.out]; rfl, hB.drew⟩
        by_cases h2 : 15 < l[k]
        · generalize l[k]'hlk = x at *
          have d1 : decide (x < 1) = false := by simp; omega
          have d2 : decide (15 < x) = true := by simp; omega
          clear hc HO hok
          go_wp2_with fail
          go_region
          go_wp2
          go_ret
          exact ⟨by rw [HN.out]; rfl, hB.drew⟩
        cases k with
        | zero => exact absurd ⟨by omega, by omega, fun j e => absurd e (by omega)⟩ hok
        | succ j =>
          have cj := hc j (by omega)
          have hle : ¬ l[j]'(by omega) < l[j + 1]'hlk := fun hh => hok ⟨by omega, by omega, fun j' e => by
            have : j' = j := by omega
            subst this
            exact hh⟩
          generalize l[j + 1]'hlk = x at *
          generalize l[j]'(by omega) = y at *
          have d1 : decide (x < 1) = false := by simp; omega
          have d2 : decide (15 < x) = false := by simp; omega
          have d3 : decide (x ≤ y) = true := by simp; omega
          clear hok hc HO
          go_wp2_with fail
          go_region
          go_wp2
          go_ret
          exact ⟨by rw [HN.out]; rfl, hB.drew⟩
    · have dk : decide ((k : Int) < l.length) = false := by simp; omega
      have HY : Hid (nodesB l = true) := nodesB_true fun j h => HO.out j h (by omega)
      clear HO
      go_wp2
      go_ret
      exact ⟨by rw [HY.out]; rfl, hB⟩
set_option maxRecDepth 100000 in
theorem beginG_bad (w : World) (s : Nat) (n : ByteArray) (v : Value) (l : List Int) (hr : IsRow w 1 v l.length (iCells l)) (hl : l.length ≤ 140737488355328) (hP : ¬ NodesP l) :
    Calls Tryz.prog 20 #[stP s, .string n, v] w fun e w' => e = .returned (.tuple #[.bool false, .int .i64 1]) ∧ w' = w := by
  obtain ⟨a0, c0, rfl⟩ := hr.form
  have HN := nodesG_any _ l w hr hl
  rw [nodesB_false hP] at HN
  clear hr hl hP
  go_enter Tryz.func20, Tryz.ntmps20
  go_wp2_with fail
  refine HN.mono ?_
  rintro e w1 ⟨rfl, rfl⟩
  go_wp2
  refine bodyPost_ret (results_tmp2 rfl _ _ _) rfl ⟨?_, rfl⟩
  go_simp
  try rfl
set_option maxRecDepth 100000 in
theorem alikeU_any (a b : ByteArray) (w : World) (ha : a.size ≤ 1000000) (hb : b.size ≤ 1000000) :
    Calls Tryz.prog 18 #[.string a, .string b] w fun e w' => e = .returned (.bool (sameL a.data.toList b.data.toList)) ∧ Below w.heap.size w w' := by
  have HE : Hid (((str (foldL a.data.toList)).toList == (str (foldL b.data.toList)).toList) = sameL a.data.toList b.data.toList) := strEq _ _
  have HA : Hid (Calls Tryz.prog 50 #[.string a] w fun e w' => e = .returned (.string (str (foldL a.data.toList))) ∧ Below w.heap.size w w') := refFold_any a w ha
  have HB : Hid (∀ w', Calls Tryz.prog 50 #[.string b] w' fun e w'' => e = .returned (.string (str (foldL b.data.toList))) ∧ Below w'.heap.size w' w'') := fun w' => refFold_any b w' hb
  generalize str (foldL a.data.toList) = A at *
  generalize str (foldL b.data.toList) = B at *
  generalize sameL a.data.toList b.data.toList = r at *
  go_enter Tryz.func18, Tryz.ntmps18
  go_wp2_with fail
  refine HA.out.mono ?_
  rintro e w1 ⟨rfl, h1⟩
  have H1 : Hid (Below w.heap.size w w1) := h1
  clear h1
  go_wp2_with fail
  refine (HB.out w1).mono ?_
  rintro e w2 ⟨rfl, h2⟩
  have H2 : Hid (Below w.heap.size w w2) := H1.out.trans (h2.mono H1.out.size)
  clear h2
  go_wp2
  go_ret
  exact ⟨by rw [← HE.out]; rfl, H2.out⟩
theorem fldB_same (a b : ByteArray) : (fldB a = fldB b) ↔ sameL a.data.toList b.data.toList = true := by
  unfold fldB sameL
  rw [decide_eq_true_eq]
  constructor
  · intro h
    have := congrArg (fun s : ByteArray => s.data.toList) h
    simpa only [str_data] using this
  · intro h
    rw [h]
/-- The type of the law, the place that it is kept at. -/
def suT : Ty := ⟨⟨#[97, 46, 98]⟩, ⟨#[]⟩, [], [], [⟨#[97, 46, 98]⟩], 3, 2, 9⟩
def suK : ByteArray := fldB ⟨#[97, 46, 98]⟩
theorem suK_up : fldB ⟨#[65, 46, 66]⟩ = suK := by kernel_rfl
theorem suRoot : rootR ⟨#[97, 46, 98]⟩ [] 3 2 9 = (suT, 0) := by kernel_rfl
theorem suChk : chkT suT = true := by kernel_rfl
theorem suNm : NmT suT := ⟨by decide, by decide, fun s hs => by simp [suT] at hs; subst hs; decide, fun x hx => by simp [suT] at hx, fun x hx => by simp [suT] at hx, by decide, by decide, by decide⟩
theorem suLk (g : Nat) (n : ByteArray) : lkS [(suK, g)] (fldB n) = if sameL n.data.toList [97, 46, 98] = true then some g else none := by
  have h := fldB_same n ⟨#[97, 46, 98]⟩
  unfold lkS
  rw [List.find?_cons]
  by_cases e : suK = fldB n
  · rw [decide_eq_true e, if_pos (h.1 e.symm)]
    rfl
  · rw [decide_eq_false e, if_neg fun hh => e (h.2 hh).symm]
    rfl
/-- Does a word count? -/
def cntW (n : ByteArray) (a b c N : Int) (L : List Int) : Bool := sameL n.data.toList [97, 46, 98] && (decide (a = 3 ∧ b = 2 ∧ c = 9) && decide (N ∈ L))
theorem isN_in {L : List Int} (h : NodesP L) {N : Int} : (isN N && inW L N.toNat) = decide (N ∈ L) := by
  by_cases hm : N ∈ L
  · have h1 := nodes_mem h hm
    rw [decide_eq_true hm, isN_of h1.1 h1.2, Bool.true_and]
    unfold inW
    rw [show ((N.toNat : Nat) : Int) = N by omega]
    exact decide_eq_true hm
  · rw [decide_eq_false hm]
    cases hi : isN N
    · rfl
    · have h1 := isN_get hi
      rw [Bool.true_and]
      unfold inW
      rw [show ((N.toNat : Nat) : Int) = N by omega]
      exact decide_eq_false hm
theorem anyW_inW {L : List Int} (h : NodesP L) : (!anyW (inW L)) = decide (L = []) := by rw [anyW_in h, Bool.not_not]
/-- What Stored leaves, by whether the word counts. -/
def SdP (base : Nat) (w : World) (s m g : Nat) (cnt : Bool) (L' : List Int) (e : Ending) (w' : World) : Prop :=
  (cnt = false → e = .returned (.tuple #[.bool false, .int .i64 4]) ∧ Below w.heap.size w w') ∧
  (cnt = true → e = .returned (.tuple #[.bool (decide (L' = [])), .int .i64 0]) ∧ (∃ X, StV base w' s m [(suK, g)] X ∧ X g = ⟨suT, decide (L' = []), inW L'⟩) ∧ Stp w (fun k => k = g) (fun k => k = g) w')
theorem stored_any {base : Nat} {w : World} {s m g : Nat} {X : Nat → Kp} {L : List Int} {D : Bool} (h : StV base w s m [(suK, g)] X) (hX : X g = ⟨suT, D, inW L⟩) (hP : NodesP L) (n : ByteArray) (hn : n.size ≤ 1000000) (a b c N : Int) (hT : UT w) :
    Calls Tryz.prog 21 #[stP s, .string n, idV a b c, .int .i64 N] w fun e w' => SdP base w s m g (cntW n a b c N L) (witho L N) e w' := by
  have hlk := suLk g n
  unfold cntW
  cases hA : sameL n.data.toList [97, 46, 98]
  · rw [hA, if_neg (by decide)] at hlk
    refine (stored_none h n hn hlk a b c N hT).mono ?_
    rintro e w' ⟨rfl, hb⟩
    exact ⟨fun _ => ⟨rfl, hb⟩, fun hh => by simp at hh⟩
  · rw [hA, if_pos rfl] at hlk
    by_cases hB : a = 3 ∧ b = 2 ∧ c = 9
    · obtain ⟨rfl, rfl, rfl⟩ := hB
      have hid : X g = ⟨suT, D, inW L⟩ := hX
      have e1 : (X g).t.nd = 3 := by rw [hX]; rfl
      have e2 : (X g).t.lf = 2 := by rw [hX]; rfl
      have e3 : (X g).t.sq = 9 := by rw [hX]; rfl
      have hin := isN_in hP (N := N)
      by_cases hm : N ∈ L
      · have hmm := nodes_mem hP hm
        rw [decide_eq_true hm] at hin
        have hf : (X g).f N.toNat = true := by rw [hX]; exact (Bool.and_eq_true _ _ ▸ hin).2
        have hs := stored_yes h n hn hlk N hT (isN_of hmm.1 hmm.2) hf
        rw [e1, e2, e3] at hs
        have hff : updW (X g).f N.toNat false = inW (witho L N) := by
          rw [hX, show N = ((N.toNat : Nat) : Int) by omega, Int.toNat_natCast]
          exact updW_witho L N.toNat
        rw [hff, anyW_inW (witho_nodes hP N)] at hs
        refine hs.mono ?_
        rintro e w' ⟨rfl, hS, hst⟩
        refine ⟨fun hh => by simp [hm] at hh, fun _ => ⟨rfl, ⟨_, hS, ?_⟩, hst⟩⟩
        unfold upX
        rw [if_pos rfl, hX]
      · rw [decide_eq_false hm] at hin
        have hs := stored_no h n hn hlk N hT (by rw [hX]; exact hin)
        rw [e1, e2, e3] at hs
        refine hs.mono ?_
        rintro e w' ⟨rfl, hb⟩
        exact ⟨fun _ => ⟨rfl, hb⟩, fun hh => by simp [hm] at hh⟩
    · refine (stored_other h n hn hlk a b c N (fun hh => hB ?_) hT).mono ?_
      · rw [hX] at hh
        obtain ⟨h1, h2, h3⟩ := hh
        exact ⟨h1.symm, h2.symm, h3.symm⟩
      · rintro e w' ⟨rfl, hb⟩
        exact ⟨fun _ => ⟨rfl, hb⟩, fun hh => by simp [hB] at hh⟩
theorem iCells_len (l : List Int) : (iCells l).length = l.length * 1 := by simp [iCells]
theorem iCells_app (l r : List Int) : iCells (l ++ r) = iCells l ++ iCells r := by simp [iCells]
theorem iCells_cell (l : List Int) : ∀ u ∈ iCells l, u.oneCell' = true := fun u hu => by
  obtain ⟨x, -, rfl⟩ := List.mem_map.1 hu
  rfl
theorem wpl_ins (w : World) {ops : Array Oper} {rest : List Oper} {o : Oper} {a : Act} {Q : Exit → Act → World → Prop} (hgd : o.guard = none) (s x : Operand)
    (ho : o.op = .call { callee := .builtin .append, args := #[s, x], argTypes := #[36, 36] })
    (base : Nat) (v xv : Value) (l news : List Int) (hs : a.eval s = v) (hx : a.eval x = xv) (h : w.ownsRow base 3 1 v l.length (iCells l)) (hr : IsRow w 1 xv news.length (iCells news)) (hl : l.length + news.length ≤ 1000000) (hbase : base ≤ w.heap.size)
    (hk : ∀ v' w', w'.ownsRow base 3 1 v' (l ++ news).length (iCells (l ++ news)) → Below base w w' → wpList Tryz.prog ops Q rest (a.put o.dst v') w') : wpList Tryz.prog ops Q (o :: rest) a w := by
  obtain ⟨i0, hi0, hz0, hz1, hz2⟩ := info_parts info_inS
  rcases hr.2 with ⟨h0, xa, xc, rfl⟩ | ⟨b, off, cap, rfl, hb, hc, hm, hcell⟩
  · refine wpList_plain hgd fun K hK => ?_
    have hn : news = [] := List.eq_nil_of_length_eq_zero h0
    subst hn
    have hv : ∃ va vc, v = .slice va l.length vc ∧ l.length ≤ vc := by
      rcases h.2 with ⟨rfl, h1⟩ | ⟨g, cap, cur, rfl, _, _, hlc, _⟩
      · rw [h1]; exact ⟨none, 0, rfl, Nat.le_refl _⟩
      · exact ⟨_, cap, rfl, hlc⟩
    obtain ⟨va, vc, rfl, hvc⟩ := hv
    have hrun := run_app0S (P := Tryz.prog) w 36 o.type 3 i0 Tryz.underlying36 hi0 va l.length vc hvc xa xc
    unfold Oper.wp execOp
    simp only [ho, resolve, invoke, builtin, Sem.run_bind, Sem.run_pure, Result.andThen_ok, List.map_toArray, List.map_cons, List.map_nil, hs, hx, hrun]
    exact hK _ _ (hk _ w (by rw [List.append_nil]; exact h) (Below.refl _ _))
  · refine wpList_append_own_at w hgd s x 36 ho base 3 i0 _ 1 8 Tryz.underlying36 hi0 hz0 hz1 hz2 rfl (by decide) v l.length (iCells l) hs h ⟨b, off, none⟩ news.length cap (iCells news) hx (iCells_len _) (fun j u hu => ?_) (iCells_cell _) (by unfold maxLen; omega) (by omega) hbase fun v' w' h1 h2 _ h4 => hk v' w' ?_ ?_
    · have hadd : (⟨b, off, none⟩ : Addr).add j = ⟨b, off + j, none⟩ := by unfold Addr.add; split <;> simp_all
      rw [hadd]; exact hcell j u hu
    · rw [List.length_append, iCells_app]; exact h1
    · exact (Below.refl _ _).grown h2 hbase (fun k hk => (h.lt k hk).1)
end Go.Proofs.YthdbnlpbidkojaaGreatDoor
