/- valuesMayBe, mayBe, Check: walks. -/
import Derived.Test.YtjamkfkbajhefaaGreatDoorZk18
import Derived.Test.YtjamkfkbajhefaaGreatDoorZk7
namespace Go.Proofs.YtjamkfkbajhefaaGreatDoor.F
open Go.RowKit

/-- May values be asked so? -/
def oneB (o : Int) : List It → Bool
  | [x] => chk1 x && tkB o x.k
  | _ => false
def valsB (o : Int) (l : List It) : Bool := if o = 1 then decide (l.length = 0) else if o = 9 then setB l else if 2 ≤ o ∧ o ≤ 8 then oneB o l else false
theorem opW_ne (o : Int) : (opW o).toList.isEmpty = !decide (2 ≤ o ∧ o ≤ 8) := by
  rw [ByteArray.toList_eq]
  by_cases h : 2 ≤ o ∧ o ≤ 8
  · rw [decide_eq_true h]
    rcases (by omega : o = 2 ∨ o = 3 ∨ o = 4 ∨ o = 5 ∨ o = 6 ∨ o = 7 ∨ o = 8) with rfl | rfl | rfl | rfl | rfl | rfl | rfl <;> kernel_rfl
  · rw [decide_eq_false h]
    have e : opW o = ⟨#[]⟩ := by
      unfold opW
      rw [if_neg (by omega), if_neg (by omega), if_neg (by omega), if_neg (by omega), if_neg (by omega), if_neg (by omega), if_neg (by omega)]
    rw [e]
    rfl
set_option maxRecDepth 100000 in
set_option maxHeartbeats 4000000 in
theorem valuesMayBe_any (o : Int) (v : Value) (l : List It) (w : World) (hr : IsRow w 3 v l.length (itCells l)) (hl : l.length ≤ 1000000) (hn : NmI l) (hT : UT w) :
    Calls Tryz.prog 85 #[.int .i64 o, v] w fun e w' => e = .returned (.bool (valsB o l)) ∧ Below w.heap.size w w' := by
  obtain ⟨a0, c0, rfl⟩ := hr.form
  by_cases h1 : o = 1
  · subst h1
    have e0 : valsB 1 l = decide (l.length = 0) := rfl
    have HE : Hid (decide ((l.length : Int) = 0) = decide (l.length = 0)) := by show _ = _; rw [Bool.eq_iff_iff, decide_eq_true_eq, decide_eq_true_eq]; omega
    have HE2 : Hid (((l.length : Int) == 0) = decide (l.length = 0)) := by show _ = _; rw [← HE.out]; rfl
    rw [e0]
    clear hr hn hT e0
    go_enter Tryz.func85, Tryz.ntmps85
    go_wp2
    go_ret
    exact ⟨by first | rfl | (rw [← HE2.out]; rfl) | simp, Below.refl _ _⟩
  by_cases h9 : o = 9
  · subst h9
    have e0 : valsB 9 l = setB l := rfl
    have HS := setMayBe_any (.slice a0 l.length c0) l w hr hl hn hT
    rw [e0]
    generalize setB l = Z at *
    clear hr hn hT e0
    go_enter Tryz.func85, Tryz.ntmps85
    go_wp2_with fail
    refine HS.mono ?_
    rintro e w1 ⟨rfl, hb⟩
    have HB : Hid (Below w.heap.size w w1) := hb
    clear hb HS
    go_wp2
    go_ret
    exact ⟨rfl, HB.out⟩
  have HO : Hid (∀ W, Calls Tryz.prog 111 #[.int .i64 o] W fun e w' => e = .returned (.string (opW o)) ∧ w' = W) := fun W => opWord_any o W
  by_cases h28 : 2 ≤ o ∧ o ≤ 8
  rotate_left
  · have e0 : valsB o l = false := by unfold valsB; rw [if_neg h1, if_neg h9, if_neg h28]
    have hw := opW_ne o
    rw [decide_eq_false h28] at hw
    have hw2 : (opW o).toList.isEmpty = true := hw
    rw [e0]
    generalize opW o = U at *
    clear hr hn hT e0 hw h28
    go_enter Tryz.func85, Tryz.ntmps85
    go_wp2_with fail
    refine (HO.out w).mono ?_
    rintro e w1 ⟨rfl, hb⟩
    obtain rfl := hb.symm
    go_wp2
    go_ret
    exact ⟨rfl, Below.refl _ _⟩
  have hw := opW_ne o
  rw [decide_eq_true h28] at hw
  have hw2 : (opW o).toList.isEmpty = false := hw
  have e0 : valsB o l = oneB o l := by unfold valsB; rw [if_neg h1, if_neg h9, if_pos h28]
  have HTk : Hid (∀ k W, Calls Tryz.prog 112 #[.int .i64 o, .int .i64 k] W fun e w' => e = .returned (.bool (tkB o k)) ∧ w' = W) := fun k W => takes_any o k W
  generalize opW o = U at *
  clear hw h28
  by_cases hlen : l.length = 1
  rotate_left
  · have e2 : valsB o l = false := by
      rw [e0]
      match l, hlen with
      | [], _ => rfl
      | _ :: _ :: _, _ => rfl
    have dl : decide ((l.length : Int) = 1) = false := decide_eq_false (by omega)
    have dl2 : ((l.length : Int) == 1) = false := by simp; omega
    have dl3 : (l.length == 1) = false := by simpa using hlen
    rw [e2]
    clear hr hn hT e0 e2
    go_enter Tryz.func85, Tryz.ntmps85
    go_wp2_with fail
    refine (HO.out w).mono ?_
    rintro e w1 ⟨rfl, hb⟩
    obtain rfl := hb.symm
    go_wp2
    go_ret
    exact ⟨rfl, Below.refl _ _⟩
  obtain ⟨x, rfl⟩ : ∃ x, l = [x] := by
    match l, hlen with
    | [x], _ => exact ⟨x, rfl⟩
  have HC := vcheck_any x.k x.n x.s w (hn x (by simp)) hT
  obtain ⟨b0, o0, hab, hlt, c0', c1, c2⟩ := items_at hr 0 (by simp)
  subst hab
  simp only [Nat.zero_mul, Nat.add_zero, List.getElem_cons_zero] at c0' c1 c2
  have HY : Hid (∀ W, Below w.heap.size w W → W.cell? ⟨b0, o0, none⟩ = some (.int .i64 x.k)) := fun W hb => (hb.cell (p := ⟨b0, o0, none⟩) hlt).trans c0'
  have e2 : valsB o [x] = (chk1 x && tkB o x.k) := e0
  have HTx : Hid (∀ W, Calls Tryz.prog 112 #[.int .i64 o, .int .i64 x.k] W fun e w' => e = .returned (.bool (tkB o x.k)) ∧ w' = W) := fun W => HTk.out x.k W
  rw [e2]
  clear hr hn hT e0 e2 hlen HTk hlt
  obtain ⟨xk, xn, xs⟩ := x
  dsimp only at *
  have HCh : Hid (Calls Tryz.prog 58 #[vv xk xn xs] w fun e w' => e = .returned (.bool (chk1 ⟨xk, xn, xs⟩)) ∧ Below w.heap.size w w') := HC
  clear HC
  generalize chk1 ⟨xk, xn, xs⟩ = B at *
  generalize tkB o xk = D at *
  have q0 : (0 : Int) < 1 := by omega
  simp only [List.length_cons, List.length_nil] at *
  go_enter Tryz.func85, Tryz.ntmps85
  go_wp2_with fail
  refine (HO.out w).mono ?_
  rintro e w1 ⟨rfl, hb⟩
  obtain rfl := hb.symm
  go_wp2_with fail
  refine HCh.out.mono ?_
  rintro e w2 ⟨rfl, hb⟩
  have HB : Hid (Below w.heap.size w w2) := hb
  have g0 := HY.out w2 hb
  clear hb HCh c0' c1 c2
  cases B with
  | false =>
    go_wp2
    go_ret
    exact ⟨rfl, HB.out⟩
  | true =>
    go_wp2_with fail
    refine (HTx.out w2).mono ?_
    rintro e w3 ⟨rfl, hb⟩
    obtain rfl := hb.symm
    go_wp2
    go_ret
    exact ⟨rfl, HB.out⟩
def dotB (s : ByteArray) : Bool := decide (0 ≤ Lib.indexByte s.data.toList 46)
/-- May a predicate be? -/
def mayP (y : Pd) : Bool := valsB y.o y.l && (decide (checkL y.n.data.toList = 0) && (!dotB y.n && !ownW y.n))
/-- Names and texts are not too long to be looked at. -/
def NmP (y : Pd) : Prop := y.n.size ≤ 200000 ∧ y.l.length ≤ 1000000 ∧ NmI y.l
abbrev prV (x : PR) : Value := .agg #[.string x.y.n, .int .i64 x.y.o, x.v]
set_option maxRecDepth 100000 in
set_option maxHeartbeats 4000000 in
theorem mayBeP_any (x : PR) (w : World) (hr : IsRow w 3 x.v x.y.l.length (itCells x.y.l)) (hn : NmP x.y) (hT : UT w) :
    Calls Tryz.prog 55 #[prV x] w fun e w' => e = .returned (.bool (mayP x.y)) ∧ Below w.heap.size w w' := by
  obtain ⟨⟨n, o, l⟩, a, c⟩ := x
  obtain ⟨n1, n2, n3⟩ := hn
  show Calls Tryz.prog 55 #[.agg #[.string n, .int .i64 o, .slice a l.length c]] w _
  dsimp only [PR.v, prV] at *
  have HV : Hid (∀ W, Below w.heap.size w W → Calls Tryz.prog 85 #[.int .i64 o, .slice a l.length c] W fun e w' => e = .returned (.bool (valsB o l)) ∧ Below W.heap.size W w') := fun W hb => valuesMayBe_any o _ l W (hr.below hb) n2 n3 (Utf8Tabs_below hT hb)
  have HC : Hid (∀ W, Calls Tryz.prog 33 #[.string n] W fun e w' => e = .returned (.int .i64 (checkL n.data.toList)) ∧ Below W.heap.size W w') := fun W => check_any n W (by omega)
  have HD : Hid (∀ W, Calls Tryz.prog 86 #[.string n, .string ⟨#[46]⟩] W fun e w' => e = .returned (.bool (dotB n)) ∧ w' = W) := fun W => Tryz.strings_Contains_one n 46 W
  have HO : Hid (∀ W, Below w.heap.size w W → Calls Tryz.prog 87 #[.string n] W fun e w' => e = .returned (.bool (ownW n)) ∧ Below W.heap.size W w') := fun W hb => ownWord_any n W (by omega) (Utf8Tabs_below hT hb)
  have hEq : mayP ⟨n, o, l⟩ = (valsB o l && (decide (checkL n.data.toList = 0) && (!dotB n && !ownW n))) := rfl
  rw [hEq]
  clear hr hT n1 n2 n3 hEq
  generalize valsB o l = X1 at *
  generalize checkL n.data.toList = X2 at *
  generalize dotB n = X3 at *
  generalize ownW n = X4 at *
  generalize l.length = LN at *
  obtain ⟨w1, hw1⟩ : ∃ w1, w1 = w.alloc (.cells #[.string n, .int .i64 o, .slice a LN c] 59) := ⟨_, rfl⟩
  have B1 : Hid (Below w.heap.size w w1) := by show Below _ _ _; rw [hw1]; exact al_b _ _
  have hn1 : w1.heap[w.heap.size]? = some (.cells #[.string n, .int .i64 o, .slice a LN c] 59 (0, 0)) := by rw [hw1]; exact new_at _ _
  have C1 : Hid (∀ W, Below w1.heap.size w1 W → W.heap[w.heap.size]? = some (.cells #[.string n, .int .i64 o, .slice a LN c] 59 (0, 0))) := fun W h => (h.block _ (Array.getElem?_eq_some_iff.1 hn1).1).trans hn1
  clear hn1
  have hk := C1.out w1 (Below.refl _ _)
  have c1_0 : w1.cell? ⟨w.heap.size, 0, none⟩ = some (.string n) := by rw [Lib.cell_of_heap hk]; rfl
  have c1_1 : w1.cell? ⟨w.heap.size, 1, none⟩ = some (.int .i64 o) := by rw [Lib.cell_of_heap hk]; rfl
  have c1_2 : w1.cell? ⟨w.heap.size, 2, none⟩ = some (.slice a LN c) := by rw [Lib.cell_of_heap hk]; rfl
  clear hk
  rw [hw1] at c1_0 c1_1 c1_2
  go_enter Tryz.func55, Tryz.ntmps55
  go_wp2_with fail
  rw [← hw1]
  clear hw1 c1_0 c1_1 c1_2
  refine (HV.out _ B1.out).mono ?_
  rintro e w2 ⟨rfl, hb⟩
  have B2 : Hid (Below w1.heap.size w1 w2) := hb
  clear hb 
  cases X1 with
  | false =>
    go_wp2
    go_ret
    exact ⟨by first | rfl | simp, (bT B1.out B2.out)⟩
  | true =>
    have hk := C1.out w2 B2.out
    have c1_0 : w2.cell? ⟨w.heap.size, 0, none⟩ = some (.string n) := by rw [Lib.cell_of_heap hk]; rfl
    have c1_1 : w2.cell? ⟨w.heap.size, 1, none⟩ = some (.int .i64 o) := by rw [Lib.cell_of_heap hk]; rfl
    have c1_2 : w2.cell? ⟨w.heap.size, 2, none⟩ = some (.slice a LN c) := by rw [Lib.cell_of_heap hk]; rfl
    clear hk
    go_wp2_with fail
    clear c1_0 c1_1 c1_2
    refine (HC.out w2).mono ?_
    rintro e w3 ⟨rfl, hb⟩
    have B3 : Hid (Below w2.heap.size w2 w3) := hb
    clear hb 
    by_cases h2 : X2 = 0
    · subst h2
      have hk := C1.out w3 (bT B2.out B3.out)
      have c1_0 : w3.cell? ⟨w.heap.size, 0, none⟩ = some (.string n) := by rw [Lib.cell_of_heap hk]; rfl
      have c1_1 : w3.cell? ⟨w.heap.size, 1, none⟩ = some (.int .i64 o) := by rw [Lib.cell_of_heap hk]; rfl
      have c1_2 : w3.cell? ⟨w.heap.size, 2, none⟩ = some (.slice a LN c) := by rw [Lib.cell_of_heap hk]; rfl
      clear hk
      go_wp2_with fail
      refine (HD.out _).mono ?_
      rintro e wx ⟨rfl, hb⟩
      obtain rfl := hb.symm
      clear c1_0 c1_1 c1_2
      cases X3 with
      | true =>
        go_wp2
        go_ret
        exact ⟨by first | rfl | simp, (bT (bT B1.out B2.out) B3.out)⟩
      | false =>
        have hk := C1.out w3 (bT B2.out B3.out)
        have c1_0 : w3.cell? ⟨w.heap.size, 0, none⟩ = some (.string n) := by rw [Lib.cell_of_heap hk]; rfl
        have c1_1 : w3.cell? ⟨w.heap.size, 1, none⟩ = some (.int .i64 o) := by rw [Lib.cell_of_heap hk]; rfl
        have c1_2 : w3.cell? ⟨w.heap.size, 2, none⟩ = some (.slice a LN c) := by rw [Lib.cell_of_heap hk]; rfl
        clear hk
        go_wp2_with fail
        clear c1_0 c1_1 c1_2
        refine (HO.out _ (bT (bT B1.out B2.out) B3.out)).mono ?_
        rintro e w4 ⟨rfl, hb⟩
        have B4 : Hid (Below w3.heap.size w3 w4) := hb
        clear hb 
        go_wp2
        go_ret
        exact ⟨by first | rfl | simp, (bT (bT (bT B1.out B2.out) B3.out) B4.out)⟩
    · have d2 : decide (X2 = 0) = false := decide_eq_false h2
      have d3 : (X2 == 0) = false := by simp [h2]
      go_wp2
      go_ret
      exact ⟨by rw [d2]; first | rfl | simp, (bT (bT B1.out B2.out) B3.out)⟩
/-- Are predicates a filter? -/
def chkFl (D : List Pd) : Bool := decide (D.length ≤ 12) && D.all mayP
theorem p_at {w : World} {a : Option Addr} {cap : Nat} {F : List PR} (h : IsRow w 3 (.slice a F.length cap) F.length (pCells F)) (i : Nat) (hi : i < F.length) :
    ∃ b off, a = some ⟨b, off, none⟩ ∧ b < w.heap.size ∧ w.cell? ⟨b, off + i * 3, none⟩ = some (.string F[i].y.n) ∧ w.cell? ⟨b, off + i * 3 + 1, none⟩ = some (.int .i64 F[i].y.o) ∧ w.cell? ⟨b, off + i * 3 + 2, none⟩ = some F[i].v := by
  obtain ⟨b, off, cap', hv, hlt, q1, q2, hc⟩ := h.open (by omega)
  simp only [Value.slice.injEq] at hv
  have g : ∀ (F : List PR) (i : Nat) (hi : i < F.length) (j : Nat), j < 3 → (pCells F)[i * 3 + j]? = (enP F[i])[j]? := by
    intro F
    induction F with
    | nil => intro i hi; exact absurd hi (by simp)
    | cons d D ih =>
      intro i hi j hj
      have e : pCells (d :: D) = enP d ++ pCells D := by simp [pCells]
      cases i with
      | zero => rw [e, Nat.zero_mul, Nat.zero_add, List.getElem?_append_left (by show j < 3; exact hj)]; rfl
      | succ i =>
        rw [e, List.getElem?_append_right (by show 3 ≤ _; omega), show (i + 1) * 3 + j - (enP d).length = i * 3 + j by show _ - 3 = _; omega]
        exact ih i (by simpa using hi) j hj
  refine ⟨b, off, hv.1, hlt, ?_, ?_, ?_⟩
  · have := hc (i * 3 + 0) _ (g F i hi 0 (by omega)); rwa [Nat.add_zero] at this
  · have := hc (i * 3 + 1) _ (g F i hi 1 (by omega)); rwa [← Nat.add_assoc] at this
  · have := hc (i * 3 + 2) _ (g F i hi 2 (by omega)); rwa [← Nat.add_assoc] at this
theorem all_no {D : List Pd} {F : List PR} (hD : F.map (·.y) = D) {i : Nat} (hi : i < F.length) (h : mayP F[i].y = false) : chkFl D = false := by
  unfold chkFl
  rw [Bool.and_eq_false_iff]
  right
  rw [← hD, List.all_eq_false]
  exact ⟨F[i].y, List.mem_map.2 ⟨F[i], List.getElem_mem hi, rfl⟩, by rw [h]; decide⟩
theorem all_yes {D : List Pd} {F : List PR} (hD : F.map (·.y) = D) (h12 : F.length ≤ 12) (h : ∀ i (hi : i < F.length), mayP F[i].y = true) : chkFl D = true := by
  unfold chkFl
  rw [← hD, List.length_map, decide_eq_true h12, Bool.true_and, List.all_eq_true]
  intro y hy
  obtain ⟨x, hx, rfl⟩ := List.mem_map.1 hy
  obtain ⟨i, hi, rfl⟩ := List.mem_iff_getElem.1 hx
  exact h i hi
set_option maxRecDepth 100000 in
set_option maxHeartbeats 4000000 in
theorem checkP_any (v : Value) (F : List PR) (D : List Pd) (w : World) (hr : IsFl w v F) (hD : F.map (·.y) = D) (hl : F.length ≤ 1000000) (hn : ∀ y ∈ D, NmP y) (hT : UT w) :
    Calls Tryz.prog 25 #[v] w fun e w' => e = .returned (.bool (chkFl D)) ∧ Below w.heap.size w w' := by
  obtain ⟨a0, c0, rfl⟩ := hr.1.form
  by_cases h12 : F.length ≤ 12
  rotate_left
  · have e0 : chkFl D = false := by unfold chkFl; rw [← hD, List.length_map, decide_eq_false h12, Bool.false_and]
    have d12 : decide ((12 : Int) < (F.length : Int)) = true := by simp; omega
    rw [e0]
    clear hr hn hT e0
    go_enter Tryz.func25, Tryz.ntmps25
    go_wp2
    go_ret
    exact ⟨rfl, Below.refl _ _⟩
  have d12 : decide ((12 : Int) < (F.length : Int)) = false := by simp; omega
  have HR : Hid (∀ W, Below w.heap.size w W → IsRow W 3 (.slice a0 F.length c0) F.length (pCells F)) := fun W hb => hr.1.below hb
  have HM : Hid (∀ i (hi : i < F.length) W, Below w.heap.size w W → Calls Tryz.prog 55 #[prV F[i]] W fun e w' => e = .returned (.bool (mayP F[i].y)) ∧ Below W.heap.size W w') := fun i hi W hb => mayBeP_any F[i] W ((hr.2 _ (List.getElem_mem hi)).below hb) (hn _ (by rw [← hD]; exact List.mem_map.2 ⟨F[i], List.getElem_mem hi, rfl⟩)) (Utf8Tabs_below hT hb)
  have HNo : Hid (∀ i (hi : i < F.length), mayP F[i].y = false → chkFl D = false) := fun i hi h => all_no hD hi h
  have HYes : Hid ((∀ i (hi : i < F.length), mayP F[i].y = true) → chkFl D = true) := fun h => all_yes hD h12 h
  generalize chkFl D = Z at *
  clear hr hn hT hD h12
  go_enter Tryz.func25, Tryz.ntmps25
  go_wp2_with fail
  go_loopw [4, 10] (fun _ i wr => ∃ j : Nat, j ≤ F.length ∧ i = .int .i64 (j : Int) ∧ Hid (∀ k (h : k < F.length), k < j → mayP F[k].y = true) ∧ Hid (Below w.heap.size w wr)) (fun _ i _ => F.length - (intOf i).toNat)
  case atStart => exact ⟨0, by omega, rfl, (fun k h hj => absurd hj (Nat.not_lt_zero _)), Below.refl _ _⟩
  case round =>
    obtain ⟨j, hj, rfl, HO, HB⟩ := hrel
    by_cases hlk : j < F.length
    · have dj : decide ((j : Int) < (F.length : Int)) = true := by simp; omega
      obtain ⟨b0, o0, rfl, hlt, c0', c1, c2⟩ := p_at (HR.out wr HB.out) j hlk
      have q1 : (0 : Int) ≤ (j : Int) := by omega
      have q2 : (j : Int) < (F.length : Int) := by omega
      have HMj : Hid (∀ W, Below w.heap.size w W → Calls Tryz.prog 55 #[prV F[j]] W fun e w' => e = .returned (.bool (mayP F[j].y)) ∧ Below W.heap.size W w') := fun W hb => HM.out j hlk W hb
      have HOn : Hid (mayP F[j].y = true → ∀ k (h : k < F.length), k < j + 1 → mayP F[k].y = true) := fun hs k h hk => by
        by_cases e : k = j
        · subst e; exact hs
        · exact HO.out k h (by omega)
      have HNj : Hid (mayP F[j].y = false → Z = false) := fun h => HNo.out j hlk h
      clear HO HM HNo HYes
      generalize mayP F[j].y = B at *
      generalize F[j]'hlk = x at *
      obtain ⟨⟨n, o, l⟩, a, c⟩ := x
      dsimp only [prV, PR.v] at *
      have HB2 : Hid (Below w.heap.size w (wr.alloc (.cells #[.string n, .int .i64 o, .slice a l.length c] 59))) := HB.out.trans ((al_f wr _).mono HB.out.size)
      go_wp2_with fail
      refine (HMj.out _ HB2.out).mono ?_
      rintro e w2 ⟨rfl, hb⟩
      have HB3 : Hid (Below w.heap.size w w2) := HB2.out.trans (hb.mono HB2.out.size)
      clear hb HMj HB2
      cases B with
      | false =>
        have HZ : Hid (Z = false) := HNj.out rfl
        go_wp2
        go_ret
        exact ⟨by rw [HZ.out]; rfl, HB3.out⟩
      | true =>
        have HO3 : Hid (∀ k (h : k < F.length), k < j + 1 → mayP F[k].y = true) := HOn.out rfl
        go_wp2
        go_roundw
        case rel => exact ⟨j + 1, by omega, by simp, HO3.out, HB3.out⟩
        case measure => simp [intOf]; omega
    · have dj : decide ((j : Int) < (F.length : Int)) = false := by simp; omega
      have HZ : Hid (Z = true) := HYes.out fun i hi => HO.out i hi (by omega)
      clear HO HM HNo HYes HR
      go_wp2
      go_ret
      exact ⟨by rw [HZ.out]; rfl, HB.out⟩
end Go.Proofs.YtjamkfkbajhefaaGreatDoor.F
/- meets, holds, Lets, Holds: walks. -/
namespace Go.Proofs.YtjamkfkbajhefaaGreatDoor.F
open Go.RowKit

/-- Is a value as a predicate's values ask? -/
def meetsB (o : Int) (l : List It) (x v : It) : Bool :=
  if o = 2 then decide (cfV v x = 0) else if o = 3 then !decide (cfV v x = 0) else if o = 4 then decide (cfV v x < 0) else if o = 5 then decide (cfV v x ≤ 0) else if o = 6 then decide (0 < cfV v x) else if o = 7 then decide (0 ≤ cfV v x) else if o = 8 then Lib.hasPrefix v.s.data.toList x.s.data.toList else inV l v
set_option maxRecDepth 100000 in
set_option maxHeartbeats 4000000 in
theorem meets_any (n : ByteArray) (o : Int) (x0 : It) (r : List It) (a : Option Addr) (c : Nat) (v : It) (w : World) (hr : IsRow w 3 (.slice a (x0 :: r).length c) (x0 :: r).length (itCells (x0 :: r))) (hl : (x0 :: r).length ≤ 1000000) :
    Calls Tryz.prog 60 #[.agg #[.string n, .int .i64 o, .slice a (x0 :: r).length c], itV v] w fun e w' => e = .returned (.bool (meetsB o (x0 :: r) x0 v)) ∧ Below w.heap.size w w' := by
  have HCm : Hid (∀ W, Calls Tryz.prog 89 #[itV v, itV x0] W fun e w' => e = .returned (.int .i64 (cfV v x0)) ∧ Below W.heap.size W w') := fun W => V.compare_any _ _ _ _ _ _ W
  have HCo : Hid (∀ W, Below w.heap.size w W → Calls Tryz.prog 91 #[.slice a (x0 :: r).length c, itV v] W fun e w' => e = .returned (.bool (inV (x0 :: r) v)) ∧ Below W.heap.size W w') := fun W hb => containsV_any _ _ v W (hr.below hb) hl
  obtain ⟨b0, o0, hab, hlt, c0', c1', c2'⟩ := items_at hr 0 (by simp)
  subst hab
  simp only [Nat.zero_mul, Nat.add_zero, List.getElem_cons_zero] at c0' c1' c2'
  have HY : Hid (∀ W, Below w.heap.size w W → W.cell? ⟨b0, o0, none⟩ = some (.int .i64 x0.k) ∧ W.cell? ⟨b0, o0 + 1, none⟩ = some (.int .i64 x0.n) ∧ W.cell? ⟨b0, o0 + 2, none⟩ = some (.string x0.s)) := fun W hb => ⟨(hb.cell (p := ⟨b0, _, none⟩) hlt).trans c0', (hb.cell (p := ⟨b0, _, none⟩) hlt).trans c1', (hb.cell (p := ⟨b0, _, none⟩) hlt).trans c2'⟩
  have hEq : meetsB o (x0 :: r) x0 v = if o = 2 then decide (cfV v x0 = 0) else if o = 3 then !decide (cfV v x0 = 0) else if o = 4 then decide (cfV v x0 < 0) else if o = 5 then decide (cfV v x0 ≤ 0) else if o = 6 then decide (0 < cfV v x0) else if o = 7 then decide (0 ≤ cfV v x0) else if o = 8 then Lib.hasPrefix v.s.data.toList x0.s.data.toList else inV (x0 :: r) v := rfl
  rw [hEq]
  have hlen : 0 < (x0 :: r).length := by simp
  have hlen2 : (0 : Int) < ((x0 :: r).length : Int) := by rw [List.length_cons]; omega
  clear hr hl hlt c0' c1' c2' hEq
  obtain ⟨xk, xn, xs⟩ := x0
  obtain ⟨vk, vn, vs⟩ := v
  dsimp only at *
  generalize cfV ⟨vk, vn, vs⟩ ⟨xk, xn, xs⟩ = M at *
  generalize inV (⟨xk, xn, xs⟩ :: r) ⟨vk, vn, vs⟩ = I at *
  have HPx : Hid (∀ W, Calls Tryz.prog 90 #[.string vs, .string xs] W fun e w' => e = .returned (.bool (Lib.hasPrefix vs.data.toList xs.data.toList)) ∧ w' = W) := fun W => Tryz.strings_HasPrefix vs xs W
  generalize Lib.hasPrefix vs.data.toList xs.data.toList = PX at *
  generalize ((⟨xk, xn, xs⟩ : It) :: r).length = LN at *
  obtain ⟨w1, hw1⟩ : ∃ w1, w1 = w.alloc (.cells #[.string n, .int .i64 o, .slice (some ⟨b0, o0, none⟩) LN c] 59) := ⟨_, rfl⟩
  have B1 : Hid (Below w.heap.size w w1) := by show Below _ _ _; rw [hw1]; exact al_b _ _
  have hn1 : w1.heap[w.heap.size]? = some (.cells #[.string n, .int .i64 o, .slice (some ⟨b0, o0, none⟩) LN c] 59 (0, 0)) := by rw [hw1]; exact new_at _ _
  have C1 : Hid (∀ W, Below w1.heap.size w1 W → W.heap[w.heap.size]? = some (.cells #[.string n, .int .i64 o, .slice (some ⟨b0, o0, none⟩) LN c] 59 (0, 0))) := fun W h => (h.block _ (Array.getElem?_eq_some_iff.1 hn1).1).trans hn1
  clear hn1
  obtain ⟨w2, hw2⟩ : ∃ w2, w2 = w1.alloc (.cells #[.int .i64 vk, .int .i64 vn, .string vs] 52) := ⟨_, rfl⟩
  have B2 : Hid (Below w1.heap.size w1 w2) := by show Below _ _ _; rw [hw2]; exact al_b _ _
  have hn2 : w2.heap[(w.heap.size + 1)]? = some (.cells #[.int .i64 vk, .int .i64 vn, .string vs] 52 (0, 0)) := by rw [hw2]; rw [show w.heap.size + 1 = w1.heap.size by (rw [hw1]; simp)]; exact new_at _ _
  have C2 : Hid (∀ W, Below w2.heap.size w2 W → W.heap[(w.heap.size + 1)]? = some (.cells #[.int .i64 vk, .int .i64 vn, .string vs] 52 (0, 0))) := fun W h => (h.block _ (Array.getElem?_eq_some_iff.1 hn2).1).trans hn2
  clear hn2
  have hk := C1.out w2 B2.out
  have c1_0 : w2.cell? ⟨w.heap.size, 0, none⟩ = some (.string n) := by rw [Lib.cell_of_heap hk]; rfl
  have c1_1 : w2.cell? ⟨w.heap.size, 1, none⟩ = some (.int .i64 o) := by rw [Lib.cell_of_heap hk]; rfl
  have c1_2 : w2.cell? ⟨w.heap.size, 2, none⟩ = some (.slice (some ⟨b0, o0, none⟩) LN c) := by rw [Lib.cell_of_heap hk]; rfl
  clear hk
  have hk := C2.out w2 (Below.refl _ _)
  have c2_0 : w2.cell? ⟨(w.heap.size + 1), 0, none⟩ = some (.int .i64 vk) := by rw [Lib.cell_of_heap hk]; rfl
  have c2_1 : w2.cell? ⟨(w.heap.size + 1), 1, none⟩ = some (.int .i64 vn) := by rw [Lib.cell_of_heap hk]; rfl
  have c2_2 : w2.cell? ⟨(w.heap.size + 1), 2, none⟩ = some (.string vs) := by rw [Lib.cell_of_heap hk]; rfl
  clear hk
  rw [hw2, hw1] at c1_0 c1_1 c1_2 c2_0 c2_1 c2_2
  go_enter Tryz.func60, Tryz.ntmps60
  go_wp2_with fail
  rw [← hw1, ← hw2]
  clear hw1 hw2 c1_0 c1_1 c1_2 c2_0 c2_1 c2_2
  have HBw : Hid (Below w.heap.size w w2) := (bT B1.out B2.out)
  refine wp_region_quiet (C := fun w' => Below w2.heap.size w2 w') (by kernel_rfl) (by kernel_rfl) ((Below.refl _ _).drew) ?_
  dsimp only
  repeat (first
    | go_big_quiet_skip
    | (go_big_quiet_want
       apply Exists.intro
       refine ⟨fun W' hW' => ?_, ?_⟩
       · have hw : Below w2.heap.size w2 W' := hW'
         have hk1 := C1.out W' (B2.out.trans (hw.mono B2.out.size))
         have hk2 := C2.out W' hw
         have k0 : W'.cell? ⟨w.heap.size, 0, none⟩ = some (.string n) := by rw [Lib.cell_of_heap hk1]; rfl
         have k1 : W'.cell? ⟨w.heap.size, 1, none⟩ = some (.int .i64 o) := by rw [Lib.cell_of_heap hk1]; rfl
         have k2 : W'.cell? ⟨w.heap.size, 2, none⟩ = some (.slice (some ⟨b0, o0, none⟩) LN c) := by rw [Lib.cell_of_heap hk1]; rfl
         have m0 : W'.cell? ⟨w.heap.size + 1, 0, none⟩ = some (.int .i64 vk) := by rw [Lib.cell_of_heap hk2]; rfl
         have m1 : W'.cell? ⟨w.heap.size + 1, 1, none⟩ = some (.int .i64 vn) := by rw [Lib.cell_of_heap hk2]; rfl
         have m2 : W'.cell? ⟨w.heap.size + 1, 2, none⟩ = some (.string vs) := by rw [Lib.cell_of_heap hk2]; rfl
         obtain ⟨g0, g1, g2⟩ := HY.out W' (HBw.out.trans (hw.mono HBw.out.size))
         clear hk1 hk2
         go_simp
         first
           | done
           | rfl
           | (go_at_call 89; (with_reducible refine Calls.mono (HCm.out W') ?_); rintro e w'' ⟨rfl, hb⟩; exact ⟨rfl, hw.trans (hb.mono hw.size)⟩)
       go_big_quiet_on
       try simp only [Act.put, List.setIfInBounds_toArray, List.set_cons_zero, List.set_cons_succ]))
  refine wpQuiet_nil ?_
  intro w3 hq3
  have B3 : Hid (Below w2.heap.size w2 w3) := hq3
  clear hq3
  by_cases h2 : o = 2
  · subst h2
    have hk := C1.out w3 (bT B2.out B3.out)
    have c1_1 : w3.cell? ⟨w.heap.size, 1, none⟩ = some (.int .i64 2) := by rw [Lib.cell_of_heap hk]; rfl
    clear hk
    clear HCm HCo HY
    go_wp2
    go_ret
    exact ⟨by first | rfl | simp | (simp; rfl), (bT (bT B1.out B2.out) B3.out)⟩
  by_cases h3 : o = 3
  · subst h3
    have hk := C1.out w3 (bT B2.out B3.out)
    have c1_1 : w3.cell? ⟨w.heap.size, 1, none⟩ = some (.int .i64 3) := by rw [Lib.cell_of_heap hk]; rfl
    clear hk
    clear HCm HCo HY
    go_wp2
    go_ret
    exact ⟨by first | rfl | simp | (simp; rfl), (bT (bT B1.out B2.out) B3.out)⟩
  by_cases h4 : o = 4
  · subst h4
    have hk := C1.out w3 (bT B2.out B3.out)
    have c1_1 : w3.cell? ⟨w.heap.size, 1, none⟩ = some (.int .i64 4) := by rw [Lib.cell_of_heap hk]; rfl
    clear hk
    clear HCm HCo HY
    go_wp2
    go_ret
    exact ⟨by first | rfl | simp | (simp; rfl), (bT (bT B1.out B2.out) B3.out)⟩
  by_cases h5 : o = 5
  · subst h5
    have hk := C1.out w3 (bT B2.out B3.out)
    have c1_1 : w3.cell? ⟨w.heap.size, 1, none⟩ = some (.int .i64 5) := by rw [Lib.cell_of_heap hk]; rfl
    clear hk
    clear HCm HCo HY
    go_wp2
    go_ret
    exact ⟨by first | rfl | simp | (simp; rfl), (bT (bT B1.out B2.out) B3.out)⟩
  by_cases h6 : o = 6
  · subst h6
    have hk := C1.out w3 (bT B2.out B3.out)
    have c1_1 : w3.cell? ⟨w.heap.size, 1, none⟩ = some (.int .i64 6) := by rw [Lib.cell_of_heap hk]; rfl
    clear hk
    clear HCm HCo HY
    go_wp2
    go_ret
    exact ⟨by first | rfl | simp | (simp; rfl), (bT (bT B1.out B2.out) B3.out)⟩
  by_cases h7 : o = 7
  · subst h7
    have hk := C1.out w3 (bT B2.out B3.out)
    have c1_1 : w3.cell? ⟨w.heap.size, 1, none⟩ = some (.int .i64 7) := by rw [Lib.cell_of_heap hk]; rfl
    clear hk
    clear HCm HCo HY
    go_wp2
    go_ret
    exact ⟨by first | rfl | simp | (simp; rfl), (bT (bT B1.out B2.out) B3.out)⟩
  by_cases h8 : o = 8
  · subst h8
    have hk := C1.out w3 (bT B2.out B3.out)
    have c1_1 : w3.cell? ⟨w.heap.size, 1, none⟩ = some (.int .i64 8) := by rw [Lib.cell_of_heap hk]; rfl
    clear hk
    go_wp2_with fail
    clear c1_1
    refine wp_region_quiet (C := fun w' => Below w3.heap.size w3 w') (by kernel_rfl) (by kernel_rfl) ((Below.refl _ _).drew) ?_
    dsimp only
    repeat (first
      | go_big_quiet_skip
      | (go_big_quiet_want
         apply Exists.intro
         refine ⟨fun W' hW' => ?_, ?_⟩
         · have hw3 : Below w3.heap.size w3 W' := hW'
           have hw : Below w2.heap.size w2 W' := B3.out.trans (hw3.mono B3.out.size)
           have hk1 := C1.out W' (B2.out.trans (hw.mono B2.out.size))
           have hk2 := C2.out W' hw
           have k0 : W'.cell? ⟨w.heap.size, 0, none⟩ = some (.string n) := by rw [Lib.cell_of_heap hk1]; rfl
           have k1 : W'.cell? ⟨w.heap.size, 1, none⟩ = some (.int .i64 8) := by rw [Lib.cell_of_heap hk1]; rfl
           have k2 : W'.cell? ⟨w.heap.size, 2, none⟩ = some (.slice (some ⟨b0, o0, none⟩) LN c) := by rw [Lib.cell_of_heap hk1]; rfl
           have m0 : W'.cell? ⟨w.heap.size + 1, 0, none⟩ = some (.int .i64 vk) := by rw [Lib.cell_of_heap hk2]; rfl
           have m1 : W'.cell? ⟨w.heap.size + 1, 1, none⟩ = some (.int .i64 vn) := by rw [Lib.cell_of_heap hk2]; rfl
           have m2 : W'.cell? ⟨w.heap.size + 1, 2, none⟩ = some (.string vs) := by rw [Lib.cell_of_heap hk2]; rfl
           obtain ⟨g0, g1, g2⟩ := HY.out W' (HBw.out.trans (hw.mono HBw.out.size))
           clear hk1 hk2
           go_simp
           first
             | done
             | rfl
             | (go_at_call 90; (with_reducible refine Calls.mono (HPx.out W') ?_); rintro e w'' ⟨rfl, hb⟩; subst hb; exact ⟨rfl, hw3⟩)
         go_big_quiet_on
         try simp only [Act.put, List.setIfInBounds_toArray, List.set_cons_zero, List.set_cons_succ]))
    refine wpQuiet_nil ?_
    intro w4 hq4
    have B4 : Hid (Below w3.heap.size w3 w4) := hq4
    clear hq4
    go_wp2
    go_ret
    exact ⟨by first | rfl | simp, (bT (bT (bT B1.out B2.out) B3.out) B4.out)⟩
  have hk := C1.out w3 (bT B2.out B3.out)
  have c1_0 : w3.cell? ⟨w.heap.size, 0, none⟩ = some (.string n) := by rw [Lib.cell_of_heap hk]; rfl
  have c1_1 : w3.cell? ⟨w.heap.size, 1, none⟩ = some (.int .i64 o) := by rw [Lib.cell_of_heap hk]; rfl
  have c1_2 : w3.cell? ⟨w.heap.size, 2, none⟩ = some (.slice (some ⟨b0, o0, none⟩) LN c) := by rw [Lib.cell_of_heap hk]; rfl
  clear hk
  have hk := C2.out w3 B3.out
  have c2_0 : w3.cell? ⟨(w.heap.size + 1), 0, none⟩ = some (.int .i64 vk) := by rw [Lib.cell_of_heap hk]; rfl
  have c2_1 : w3.cell? ⟨(w.heap.size + 1), 1, none⟩ = some (.int .i64 vn) := by rw [Lib.cell_of_heap hk]; rfl
  have c2_2 : w3.cell? ⟨(w.heap.size + 1), 2, none⟩ = some (.string vs) := by rw [Lib.cell_of_heap hk]; rfl
  clear hk
  have e2 : (o == 2) = false := by simp [h2]
  have e3 : (o == 3) = false := by simp [h3]
  have e4 : (o == 4) = false := by simp [h4]
  have e5 : (o == 5) = false := by simp [h5]
  have e6 : (o == 6) = false := by simp [h6]
  have e7 : (o == 7) = false := by simp [h7]
  have e8 : (o == 8) = false := by simp [h8]
  go_wp2_with fail
  clear c1_0 c1_1 c1_2 c2_0 c2_1 c2_2
  refine (HCo.out _ (bT (bT B1.out B2.out) B3.out)).mono ?_
  rintro e w4 ⟨rfl, hb⟩
  have B4 : Hid (Below w3.heap.size w3 w4) := hb
  clear hb 
  go_wp2
  go_ret
  exact ⟨by first | rfl | simp, (bT (bT (bT B1.out B2.out) B3.out) B4.out)⟩
end Go.Proofs.YtjamkfkbajhefaaGreatDoor.F
