/- valuesMayBe, mayBe, Check: walks. -/
import Derived.Test.YtbekpemidpngaaaGreatDoorZk15
import Derived.Shelf.Strings.Builder2
import Derived.Test.YtbekpemidpngaaaGreatDoorProg
import Derived.Test.YtbekpemidpngaaaGreatDoorZk6
import Derived.Test.YtbekpemidpngaaaGreatDoorZk0
import Derived.Test.YtbekpemidpngaaaGreatDoorZk1
import Derived.Test.YtbekpemidpngaaaGreatDoorZk7
import Derived.Lib.Join
import Derived.RegionTactic
namespace Go.Proofs.YtbekpemidpngaaaGreatDoor
open Go.RowKit

/-- May values be asked so? -/
def oneB (o : Int) : List It → Bool
  | [x] => chk1 x && tkB o x.k
  | _ => false
def valsB (o : Int) (l : List It) : Bool := if o = 1 then decide (l.length = 0) else if o = 9 then setB l else if 2 ≤ o ∧ o ≤ 8 then oneB o l else false
theorem opW_ne (o : Int) : (opW o).toList.isEmpty = !decide (2 ≤ o ∧ o ≤ 8) := by
  rw [ByteArray.toList_eq]
  by_cases h : 2 ≤ o ∧ o ≤ 8
  · rw [decide_eq_true h]
    rcases (by omega : o = 2 ∨ o = 3 ∨ o = 4 ∨ o = 5 ∨ o = 6 ∨ o = 7 ∨ o = 8) with rfl | rfl | rfl | rfl | rfl | rfl | rfl <;> kernel_rfl
  · rw [decide_eq_false h]
    have e : opW o = ⟨#[]⟩ := by
      unfold opW
      rw [if_neg (by omega), if_neg (by omega), if_neg (by omega), if_neg (by omega), if_neg (by omega), if_neg (by omega), if_neg (by omega)]
    rw [e]
    rfl
set_option maxRecDepth 100000 in
set_option maxHeartbeats 4000000 in
theorem valuesMayBe_any (o : Int) (v : Value) (l : List It) (w : World) (hr : IsRow w 3 v l.length (itCells l)) (hl : l.length ≤ 1000000) (hn : NmI l) (hT : UT w) :
    Calls Tryz.prog 48 #[.int .i64 o, v] w fun e w' => e = .returned (.bool (valsB o l)) ∧ Below w.heap.size w w' := by
  obtain ⟨a0, c0, rfl⟩ := hr.form
  by_cases h1 : o = 1
  · subst h1
    have e0 : valsB 1 l = decide (l.length = 0) := rfl
    have HE : Hid (decide ((l.length : Int) = 0) = decide (l.length = 0)) := by show _ = _; rw [Bool.eq_iff_iff, decide_eq_true_eq, decide_eq_true_eq]; omega
    have HE2 : Hid (((l.length : Int) == 0) = decide (l.length = 0)) := by show _ = _; rw [← HE.out]; rfl
    rw [e0]
    clear hr hn hT e0
    go_enter Tryz.func48, Tryz.ntmps48
    go_wp2
    go_ret
    exact ⟨by first | rfl | (rw [← HE2.out]; rfl) | simp, Below.refl _ _⟩
  by_cases h9 : o = 9
  · subst h9
    have e0 : valsB 9 l = setB l := rfl
    have HS := setMayBe_any (.slice a0 l.length c0) l w hr hl hn hT
    rw [e0]
    generalize setB l = Z at *
    clear hr hn hT e0
    go_enter Tryz.func48, Tryz.ntmps48
    go_wp2_with fail
    refine HS.mono ?_
    rintro e w1 ⟨rfl, hb⟩
    have HB : Hid (Below w.heap.size w w1) := hb
    clear hb HS
    go_wp2
    go_ret
    exact ⟨rfl, HB.out⟩
  have HO : Hid (∀ W, Calls Tryz.prog 76 #[.int .i64 o] W fun e w' => e = .returned (.string (opW o)) ∧ w' = W) := fun W => opWord_any o W
  by_cases h28 : 2 ≤ o ∧ o ≤ 8
  rotate_left
  · have e0 : valsB o l = false := by unfold valsB; rw [if_neg h1, if_neg h9, if_neg h28]
    have hw := opW_ne o
    rw [decide_eq_false h28] at hw
    have hw2 : (opW o).toList.isEmpty = true := hw
    rw [e0]
    generalize opW o = U at *
    clear hr hn hT e0 hw h28
    go_enter Tryz.func48, Tryz.ntmps48
    go_wp2_with fail
    refine (HO.out w).mono ?_
    rintro e w1 ⟨rfl, hb⟩
    obtain rfl := hb.symm
    go_wp2
    go_ret
    exact ⟨rfl, Below.refl _ _⟩
  have hw := opW_ne o
  rw [decide_eq_true h28] at hw
  have hw2 : (opW o).toList.isEmpty = false := hw
  have e0 : valsB o l = oneB o l := by unfold valsB; rw [if_neg h1, if_neg h9, if_pos h28]
  have HTk : Hid (∀ k W, Calls Tryz.prog 82 #[.int .i64 o, .int .i64 k] W fun e w' => e = .returned (.bool (tkB o k)) ∧ w' = W) := fun k W => takes_any o k W
  generalize opW o = U at *
  clear hw h28
  by_cases hlen : l.length = 1
  rotate_left
  · have e2 : valsB o l = false := by
      rw [e0]
      match l, hlen with
      | [], _ => rfl
      | _ :: _ :: _, _ => rfl
    have dl : decide ((l.length : Int) = 1) = false := decide_eq_false (by omega)
    have dl2 : ((l.length : Int) == 1) = false := by simp; omega
    have dl3 : (l.length == 1) = false := by simpa using hlen
    rw [e2]
    clear hr hn hT e0 e2
    go_enter Tryz.func48, Tryz.ntmps48
    go_wp2_with fail
    refine (HO.out w).mono ?_
    rintro e w1 ⟨rfl, hb⟩
    obtain rfl := hb.symm
    go_wp2
    go_ret
    exact ⟨rfl, Below.refl _ _⟩
  obtain ⟨x, rfl⟩ : ∃ x, l = [x] := by
    match l, hlen with
    | [x], _ => exact ⟨x, rfl⟩
  have HC := vcheck_any x.k x.n x.s w (hn x (by simp)) hT
  obtain ⟨b0, o0, hab, hlt, c0', c1, c2⟩ := items_at hr 0 (by simp)
  subst hab
  simp only [Nat.zero_mul, Nat.add_zero, List.getElem_cons_zero] at c0' c1 c2
  have HY : Hid (∀ W, Below w.heap.size w W → W.cell? ⟨b0, o0, none⟩ = some (.int .i64 x.k)) := fun W hb => (hb.cell (p := ⟨b0, o0, none⟩) hlt).trans c0'
  have e2 : valsB o [x] = (chk1 x && tkB o x.k) := e0
  have HTx : Hid (∀ W, Calls Tryz.prog 82 #[.int .i64 o, .int .i64 x.k] W fun e w' => e = .returned (.bool (tkB o x.k)) ∧ w' = W) := fun W => HTk.out x.k W
  rw [e2]
  clear hr hn hT e0 e2 hlen HTk hlt
  obtain ⟨xk, xn, xs⟩ := x
  dsimp only at *
  have HCh : Hid (Calls Tryz.prog 64 #[vv xk xn xs] w fun e w' => e = .returned (.bool (chk1 ⟨xk, xn, xs⟩)) ∧ Below w.heap.size w w') := HC
  clear HC
  generalize chk1 ⟨xk, xn, xs⟩ = B at *
  generalize tkB o xk = D at *
  have q0 : (0 : Int) < 1 := by omega
  simp only [List.length_cons, List.length_nil] at *
  go_enter Tryz.func48, Tryz.ntmps48
  go_wp2_with fail
  refine (HO.out w).mono ?_
  rintro e w1 ⟨rfl, hb⟩
  obtain rfl := hb.symm
  go_wp2_with fail
  refine HCh.out.mono ?_
  rintro e w2 ⟨rfl, hb⟩
  have HB : Hid (Below w.heap.size w w2) := hb
  have g0 := HY.out w2 hb
  clear hb HCh c0' c1 c2
  cases B with
  | false =>
    go_wp2
    go_ret
    exact ⟨rfl, HB.out⟩
  | true =>
    go_wp2_with fail
    refine (HTx.out w2).mono ?_
    rintro e w3 ⟨rfl, hb⟩
    obtain rfl := hb.symm
    go_wp2
    go_ret
    exact ⟨rfl, HB.out⟩
def dotB (s : ByteArray) : Bool := decide (0 ≤ Lib.indexByte s.data.toList 46)
/-- May a predicate be? -/
def mayP (y : Pd) : Bool := valsB y.o y.l && (decide (checkL y.n.data.toList = 0) && (!dotB y.n && !ownW y.n))
/-- Names and texts are not too long to be looked at. -/
def NmP (y : Pd) : Prop := y.n.size ≤ 200000 ∧ y.l.length ≤ 1000000 ∧ NmI y.l
abbrev prV (x : PR) : Value := .agg #[.string x.y.n, .int .i64 x.y.o, x.v]
set_option maxRecDepth 100000 in
set_option maxHeartbeats 4000000 in
theorem mayBeP_any (x : PR) (w : World) (hr : IsRow w 3 x.v x.y.l.length (itCells x.y.l)) (hn : NmP x.y) (hT : UT w) :
    Calls Tryz.prog 28 #[prV x] w fun e w' => e = .returned (.bool (mayP x.y)) ∧ Below w.heap.size w w' := by
  obtain ⟨⟨n, o, l⟩, a, c⟩ := x
  obtain ⟨n1, n2, n3⟩ := hn
  show Calls Tryz.prog 28 #[.agg #[.string n, .int .i64 o, .slice a l.length c]] w _
  dsimp only [PR.v, prV] at *
  have HV : Hid (∀ W, Below w.heap.size w W → Calls Tryz.prog 48 #[.int .i64 o, .slice a l.length c] W fun e w' => e = .returned (.bool (valsB o l)) ∧ Below W.heap.size W w') := fun W hb => valuesMayBe_any o _ l W (hr.below hb) n2 n3 (Utf8Tabs_below hT hb)
  have HC : Hid (∀ W, Calls Tryz.prog 49 #[.string n] W fun e w' => e = .returned (.int .i64 (checkL n.data.toList)) ∧ Below W.heap.size W w') := fun W => check_any n W (by omega)
  have HD : Hid (∀ W, Calls Tryz.prog 50 #[.string n, .string ⟨#[46]⟩] W fun e w' => e = .returned (.bool (dotB n)) ∧ w' = W) := fun W => Tryz.strings_Contains_one n 46 W
  have HO : Hid (∀ W, Below w.heap.size w W → Calls Tryz.prog 51 #[.string n] W fun e w' => e = .returned (.bool (ownW n)) ∧ Below W.heap.size W w') := fun W hb => ownWord_any n W (by omega) (Utf8Tabs_below hT hb)
  have hEq : mayP ⟨n, o, l⟩ = (valsB o l && (decide (checkL n.data.toList = 0) && (!dotB n && !ownW n))) := rfl
  rw [hEq]
  clear hr hT n1 n2 n3 hEq
  generalize valsB o l = X1 at *
  generalize checkL n.data.toList = X2 at *
  generalize dotB n = X3 at *
  generalize ownW n = X4 at *
  generalize l.length = LN at *
  obtain ⟨w1, hw1⟩ : ∃ w1, w1 = w.alloc (.cells #[.string n, .int .i64 o, .slice a LN c] 45) := ⟨_, rfl⟩
  have B1 : Hid (Below w.heap.size w w1) := by show Below _ _ _; rw [hw1]; exact al_b _ _
  have hn1 : w1.heap[w.heap.size]? = some (.cells #[.string n, .int .i64 o, .slice a LN c] 45 (0, 0)) := by rw [hw1]; exact new_at _ _
  have C1 : Hid (∀ W, Below w1.heap.size w1 W → W.heap[w.heap.size]? = some (.cells #[.string n, .int .i64 o, .slice a LN c] 45 (0, 0))) := fun W h => (h.block _ (Array.getElem?_eq_some_iff.1 hn1).1).trans hn1
  clear hn1
  have hk := C1.out w1 (Below.refl _ _)
  have c1_0 : w1.cell? ⟨w.heap.size, 0, none⟩ = some (.string n) := by rw [Lib.cell_of_heap hk]; rfl
  have c1_1 : w1.cell? ⟨w.heap.size, 1, none⟩ = some (.int .i64 o) := by rw [Lib.cell_of_heap hk]; rfl
  have c1_2 : w1.cell? ⟨w.heap.size, 2, none⟩ = some (.slice a LN c) := by rw [Lib.cell_of_heap hk]; rfl
  clear hk
  rw [hw1] at c1_0 c1_1 c1_2
  go_enter Tryz.func28, Tryz.ntmps28
  go_wp2_with fail
  rw [← hw1]
  clear hw1 c1_0 c1_1 c1_2
  refine (HV.out _ B1.out).mono ?_
  rintro e w2 ⟨rfl, hb⟩
  have B2 : Hid (Below w1.heap.size w1 w2) := hb
  clear hb 
  cases X1 with
  | false =>
    go_wp2
    go_ret
    exact ⟨by first | rfl | simp, (bT B1.out B2.out)⟩
  | true =>
    have hk := C1.out w2 B2.out
    have c1_0 : w2.cell? ⟨w.heap.size, 0, none⟩ = some (.string n) := by rw [Lib.cell_of_heap hk]; rfl
    have c1_1 : w2.cell? ⟨w.heap.size, 1, none⟩ = some (.int .i64 o) := by rw [Lib.cell_of_heap hk]; rfl
    have c1_2 : w2.cell? ⟨w.heap.size, 2, none⟩ = some (.slice a LN c) := by rw [Lib.cell_of_heap hk]; rfl
    clear hk
    go_wp2_with fail
    clear c1_0 c1_1 c1_2
    refine (HC.out w2).mono ?_
    rintro e w3 ⟨rfl, hb⟩
    have B3 : Hid (Below w2.heap.size w2 w3) := hb
    clear hb 
    by_cases h2 : X2 = 0
    · subst h2
      have hk := C1.out w3 (bT B2.out B3.out)
      have c1_0 : w3.cell? ⟨w.heap.size, 0, none⟩ = some (.string n) := by rw [Lib.cell_of_heap hk]; rfl
      have c1_1 : w3.cell? ⟨w.heap.size, 1, none⟩ = some (.int .i64 o) := by rw [Lib.cell_of_heap hk]; rfl
      have c1_2 : w3.cell? ⟨w.heap.size, 2, none⟩ = some (.slice a LN c) := by rw [Lib.cell_of_heap hk]; rfl
      clear hk
      go_wp2_with fail
      refine (HD.out _).mono ?_
      rintro e wx ⟨rfl, hb⟩
      obtain rfl := hb.symm
      clear c1_0 c1_1 c1_2
      cases X3 with
      | true =>
        go_wp2
        go_ret
        exact ⟨by first | rfl | simp, (bT (bT B1.out B2.out) B3.out)⟩
      | false =>
        have hk := C1.out w3 (bT B2.out B3.out)
        have c1_0 : w3.cell? ⟨w.heap.size, 0, none⟩ = some (.string n) := by rw [Lib.cell_of_heap hk]; rfl
        have c1_1 : w3.cell? ⟨w.heap.size, 1, none⟩ = some (.int .i64 o) := by rw [Lib.cell_of_heap hk]; rfl
        have c1_2 : w3.cell? ⟨w.heap.size, 2, none⟩ = some (.slice a LN c) := by rw [Lib.cell_of_heap hk]; rfl
        clear hk
        go_wp2_with fail
        clear c1_0 c1_1 c1_2
        refine (HO.out _ (bT (bT B1.out B2.out) B3.out)).mono ?_
        rintro e w4 ⟨rfl, hb⟩
        have B4 : Hid (Below w3.heap.size w3 w4) := hb
        clear hb 
        go_wp2
        go_ret
        exact ⟨by first | rfl | simp, (bT (bT (bT B1.out B2.out) B3.out) B4.out)⟩
    · have d2 : decide (X2 = 0) = false := decide_eq_false h2
      have d3 : (X2 == 0) = false := by simp [h2]
      go_wp2
      go_ret
      exact ⟨by rw [d2]; first | rfl | simp, (bT (bT B1.out B2.out) B3.out)⟩
/-- Are predicates a filter? -/
def chkFl (D : List Pd) : Bool := decide (D.length ≤ 12) && D.all mayP
theorem p_at {w : World} {a : Option Addr} {cap : Nat} {F : List PR} (h : IsRow w 3 (.slice a F.length cap) F.length (pCells F)) (i : Nat) (hi : i < F.length) :
    ∃ b off, a = some ⟨b, off, none⟩ ∧ b < w.heap.size ∧ w.cell? ⟨b, off + i * 3, none⟩ = some (.string F[i].y.n) ∧ w.cell? ⟨b, off + i * 3 + 1, none⟩ = some (.int .i64 F[i].y.o) ∧ w.cell? ⟨b, off + i * 3 + 2, none⟩ = some F[i].v := by
  obtain ⟨b, off, cap', hv, hlt, q1, q2, hc⟩ := h.open (by omega)
  simp only [Value.slice.injEq] at hv
  have g : ∀ (F : List PR) (i : Nat) (hi : i < F.length) (j : Nat), j < 3 → (pCells F)[i * 3 + j]? = (enP F[i])[j]? := by
    intro F
    induction F with
    | nil => intro i hi; exact absurd hi (by simp)
    | cons d D ih =>
      intro i hi j hj
      have e : pCells (d :: D) = enP d ++ pCells D := by simp [pCells]
      cases i with
      | zero => rw [e, Nat.zero_mul, Nat.zero_add, List.getElem?_append_left (by show j < 3; exact hj)]; rfl
      | succ i =>
        rw [e, List.getElem?_append_right (by show 3 ≤ _; omega), show (i + 1) * 3 + j - (enP d).length = i * 3 + j by show _ - 3 = _; omega]
        exact ih i (by simpa using hi) j hj
  refine ⟨b, off, hv.1, hlt, ?_, ?_, ?_⟩
  · have := hc (i * 3 + 0) _ (g F i hi 0 (by omega)); rwa [Nat.add_zero] at this
  · have := hc (i * 3 + 1) _ (g F i hi 1 (by omega)); rwa [← Nat.add_assoc] at this
  · have := hc (i * 3 + 2) _ (g F i hi 2 (by omega)); rwa [← Nat.add_assoc] at this
theorem all_no {D : List Pd} {F : List PR} (hD : F.map (·.y) = D) {i : Nat} (hi : i < F.length) (h : mayP F[i].y = false) : chkFl D = false := by
  unfold chkFl
  rw [Bool.and_eq_false_iff]
  right
  rw [← hD, List.all_eq_false]
  exact ⟨F[i].y, List.mem_map.2 ⟨F[i], List.getElem_mem hi, rfl⟩, by rw [h]; decide⟩
theorem all_yes {D : List Pd} {F : List PR} (hD : F.map (·.y) = D) (h12 : F.length ≤ 12) (h : ∀ i (hi : i < F.length), mayP F[i].y = true) : chkFl D = true := by
  unfold chkFl
  rw [← hD, List.length_map, decide_eq_true h12, Bool.true_and, List.all_eq_true]
  intro y hy
  obtain ⟨x, hx, rfl⟩ := List.mem_map.1 hy
  obtain ⟨i, hi, rfl⟩ := List.mem_iff_getElem.1 hx
  exact h i hi
set_option maxRecDepth 100000 in
set_option maxHeartbeats 4000000 in
theorem checkP_any (v : Value) (F : List PR) (D : List Pd) (w : World) (hr : IsFl w v F) (hD : F.map (·.y) = D) (hl : F.length ≤ 1000000) (hn : ∀ y ∈ D, NmP y) (hT : UT w) :
    Calls Tryz.prog 10 #[v] w fun e w' => e = .returned (.bool (chkFl D)) ∧ Below w.heap.size w w' := by
  obtain ⟨a0, c0, rfl⟩ := hr.1.form
  by_cases h12 : F.length ≤ 12
  rotate_left
  · have e0 : chkFl D = false := by unfold chkFl; rw [← hD, List.length_map, decide_eq_false h12, Bool.false_and]
    have d12 : decide ((12 : Int) < (F.length : Int)) = true := by simp; omega
    rw [e0]
    clear hr hn hT e0
    go_enter Tryz.func10, Tryz.ntmps10
    go_wp2
    go_ret
    exact ⟨rfl, Below.refl _ _⟩
  have d12 : decide ((12 : Int) < (F.length : Int)) = false := by simp; omega
  have HR : Hid (∀ W, Below w.heap.size w W → IsRow W 3 (.slice a0 F.length c0) F.length (pCells F)) := fun W hb => hr.1.below hb
  have HM : Hid (∀ i (hi : i < F.length) W, Below w.heap.size w W → Calls Tryz.prog 28 #[prV F[i]] W fun e w' => e = .returned (.bool (mayP F[i].y)) ∧ Below W.heap.size W w') := fun i hi W hb => mayBeP_any F[i] W ((hr.2 _ (List.getElem_mem hi)).below hb) (hn _ (by rw [← hD]; exact List.mem_map.2 ⟨F[i], List.getElem_mem hi, rfl⟩)) (Utf8Tabs_below hT hb)
  have HNo : Hid (∀ i (hi : i < F.length), mayP F[i].y = false → chkFl D = false) := fun i hi h => all_no hD hi h
  have HYes : Hid ((∀ i (hi : i < F.length), mayP F[i].y = true) → chkFl D = true) := fun h => all_yes hD h12 h
  generalize chkFl D = Z at *
  clear hr hn hT hD h12
  go_enter Tryz.func10, Tryz.ntmps10
  go_wp2_with fail
  go_loopw [4, 10] (fun _ i wr => ∃ j : Nat, j ≤ F.length ∧ i = .int .i64 (j : Int) ∧ Hid (∀ k (h : k < F.length), k < j → mayP F[k].y = true) ∧ Hid (Below w.heap.size w wr)) (fun _ i _ => F.length - (intOf i).toNat)
  case atStart => exact ⟨0, by omega, rfl, (fun k h hj => absurd hj (Nat.not_lt_zero _)), Below.refl _ _⟩
  case round =>
    obtain ⟨j, hj, rfl, HO, HB⟩ := hrel
    by_cases hlk : j < F.length
    · have dj : decide ((j : Int) < (F.length : Int)) = true := by simp; omega
      obtain ⟨b0, o0, rfl, hlt, c0', c1, c2⟩ := p_at (HR.out wr HB.out) j hlk
      have q1 : (0 : Int) ≤ (j : Int) := by omega
      have q2 : (j : Int) < (F.length : Int) := by omega
      have HMj : Hid (∀ W, Below w.heap.size w W → Calls Tryz.prog 28 #[prV F[j]] W fun e w' => e = .returned (.bool (mayP F[j].y)) ∧ Below W.heap.size W w') := fun W hb => HM.out j hlk W hb
      have HOn : Hid (mayP F[j].y = true → ∀ k (h : k < F.length), k < j + 1 → mayP F[k].y = true) := fun hs k h hk => by
        by_cases e : k = j
        · subst e; exact hs
        · exact HO.out k h (by omega)
      have HNj : Hid (mayP F[j].y = false → Z = false) := fun h => HNo.out j hlk h
      clear HO HM HNo HYes
      generalize mayP F[j].y = B at *
      generalize F[j]'hlk = x at *
      obtain ⟨⟨n, o, l⟩, a, c⟩ := x
      dsimp only [prV, PR.v] at *
      have HB2 : Hid (Below w.heap.size w (wr.alloc (.cells #[.string n, .int .i64 o, .slice a l.length c] 45))) := HB.out.trans ((al_f wr _).mono HB.out.size)
      go_wp2_with fail
      refine (HMj.out _ HB2.out).mono ?_
      rintro e w2 ⟨rfl, hb⟩
      have HB3 : Hid (Below w.heap.size w w2) := HB2.out.trans (hb.mono HB2.out.size)
      clear hb HMj HB2
      cases B with
      | false =>
        have HZ : Hid (Z = false) := HNj.out rfl
        go_wp2
        go_ret
        exact ⟨by rw [HZ.out]; rfl, HB3.out⟩
      | true =>
        have HO3 : Hid (∀ k (h : k < F.length), k < j + 1 → mayP F[k].y = true) := HOn.out rfl
        go_wp2
        go_roundw
        case rel => exact ⟨j + 1, by omega, by simp, HO3.out, HB3.out⟩
        case measure => simp [intOf]; omega
    · have dj : decide ((j : Int) < (F.length : Int)) = false := by simp; omega
      have HZ : Hid (Z = true) := HYes.out fun i hi => HO.out i hi (by omega)
      clear HO HM HNo HYes HR
      go_wp2
      go_ret
      exact ⟨by rw [HZ.out]; rfl, HB.out⟩
end Go.Proofs.YtbekpemidpngaaaGreatDoor
/- The shelf contract of (*strings.Builder).grow at a fresh builder, at this program, laid by the shelf tool in plain words. -/
namespace Go.Proofs
open Go.Shelf
def Tryz.lays241_ren : Go.Shelf.Ren := ⟨fun | 241 => 114 | 277 => 145 | n => n, fun | 70 => 123 | 3 => 3 | 0 => 0 | 72 => 126 | 37 => 124 | 5 => 5 | n => n, fun | n => n⟩
theorem Tryz.lays241 : Go.Proofs.Lays.n241 Tryz.prog Tryz.lays241_ren := {
  mixed := by kernel_rfl
  f241 := Tryz.func114.trans (congrArg some (by kernel_rfl))
  f277 := Tryz.func145.trans (congrArg some (by kernel_rfl))
  t0 := Tryz.underlying0
  a0 := Tryz.isAgg0
  z0 := Tryz.sizeOf0
  v0 := Tryz.zeroValue0
  t3 := Tryz.underlying3
  a3 := Tryz.isAgg3
  z3 := Tryz.sizeOf3
  v3 := Tryz.zeroValue3
  t37 := Tryz.underlying124
  a37 := Tryz.isAgg124
  z37 := Tryz.sizeOf124
  v37 := Tryz.zeroValue124
  t70 := Tryz.underlying123
  a70 := Tryz.isAgg123
  z70 := Tryz.sizeOf123
  v70 := Tryz.zeroValue123
  t72 := Tryz.underlying126
  a72 := Tryz.isAgg126
  z72 := Tryz.sizeOf126
  v72 := Tryz.zeroValue126 }
theorem Tryz.Builder_Extra_241 : Builder.Extra Tryz.prog Tryz.lays241_ren := {
  sizeBuilder := by kernel_rfl
  liesBuilder := by kernel_rfl
  t5 := Tryz.underlying5
  a5 := Tryz.isAgg5
  z5 := Tryz.sizeOf5
  v5 := Tryz.zeroValue5
  infoByte := by kernel_rfl
  cellsByte := by kernel_rfl
  sizeByte := by kernel_rfl
  neB5 := by decide }
open Go.RowKit in
theorem Tryz.Builder_grow_fresh (B b n : Nat) (w : World) (hB : B ≤ b) (hbk : w.heap[b]? = some (.cells #[.pointer (some ⟨b, 0, none⟩), .slice none 0 0] 126 (0, 0))) (hBw : B ≤ w.heap.size) (hn : n ≤ 281474976710656) :
    Calls Tryz.prog 114 #[.pointer (some ⟨b, 0, none⟩), .int .i64 n] w fun e w' => e = .returned (.tuple #[]) ∧ (Lib.BuilderAt 126 5 B b (.pointer (some ⟨b, 0, none⟩)) [] w' ∧ Below B w w') := Any.Builder_grow_fresh Tryz.lays241 Tryz.Builder_Extra_241 B b n w hB hbk hBw hn
end Go.Proofs
/- (*strings.Builder).Grow at a builder of the call's own, strings.Join with ' , ' and with ' and ' between: walks. -/
namespace Go.Proofs.YtbekpemidpngaaaGreatDoor.V
open Go.RowKit

set_option maxRecDepth 100000 in
set_option maxHeartbeats 1000000 in
theorem grow_new (b n : Nat) (w : World) (hbk : w.heap[b]? = some (.cells #[.pointer none, .slice none 0 0] 126 (0, 0))) (h0 : 0 < n) (hn : n ≤ 1000000000) :
    Calls Tryz.prog 78 #[.pointer (some ⟨b, 0, none⟩), .int .i64 n] w fun e w' => e = .returned (.tuple #[]) ∧ IsB b b [] w' ∧ Below b w w' := by
  have hlt : b < w.heap.size := (Array.getElem?_eq_some_iff.1 hbk).1
  have hat : Lib.BuilderAtF 126 5 b b (.pointer none) [] w := Lib.BuilderAtF.of ⟨Nat.le_refl _, .slice none 0 0, hbk, World.ownsRow_nil _ _ _ _, by simp [Value.ownBlock]⟩
  have hb0 : Below b w (w.setCell ⟨b, 0, none⟩ (.pointer (some ⟨b, 0, none⟩))) := (Below.refl b w).setCell (p := ⟨b, 0, none⟩) (Nat.le_refl _) _
  have hbk2 : (w.setCell ⟨b, 0, none⟩ (.pointer (some ⟨b, 0, none⟩))).heap[b]? = some (.cells #[.pointer (some ⟨b, 0, none⟩), .slice none 0 0] 126 (0, 0)) := by
    simp [World.setCell, Array.getElem?_modify, hbk]
  have d0 : decide ((n : Int) < 0) = false := by simp
  have d1 : decide ((0 : Int) < n) = true := by simp; omega
  go_enter Tryz.func78, Tryz.ntmps78
  go_wp2_with fail
  refine (copyCheck_fresh b w hat.cell0 hat.shape hat.frozen0).mono ?_
  rintro e w1 ⟨rfl, rfl⟩
  generalize w.setCell ⟨b, 0, none⟩ (.pointer (some ⟨b, 0, none⟩)) = W at *
  have hs := hb0.size
  have c1 : W.cell? ⟨b, 1, none⟩ = some (.slice none 0 0) := by rw [Lib.cell_of_heap hbk2]; rfl
  go_wp2_with fail
  go_region
  go_wp2_with fail
  refine (Tryz.Builder_grow_fresh b b n W.drew (Nat.le_refl _) hbk2 (by show b ≤ W.heap.size; omega) (by omega)).mono ?_
  rintro e w2 ⟨rfl, h2, hb2⟩
  have HB : Hid (Below b w w2) := hb0.trans (Below.trans (by exact (Below.refl b W).drew) hb2)
  go_wp2
  go_end0
  exact ⟨rfl, .inr (Lib.BuilderAtF.of h2), HB.out⟩
/-- The strings of a row. -/
def sCells (xs : List (List UInt8)) : List Value := xs.map fun x => .string (str x)
theorem sCells_at {w : World} {a : Option Addr} {cap : Nat} {xs : List (List UInt8)} (h : IsRow w 1 (.slice a xs.length cap) xs.length (sCells xs)) (h0 : 0 < xs.length) :
    ∃ b off, a = some ⟨b, off, none⟩ ∧ b < w.heap.size ∧ xs.length ≤ cap ∧ ∀ (k : Nat) (hk : k < xs.length), w.cell? ⟨b, off + k, none⟩ = some (.string (str xs[k])) := by
  obtain ⟨b, off, cap', hv, hlt, q1, q2, hc⟩ := h.open (by omega)
  simp only [Value.slice.injEq] at hv
  exact ⟨b, off, hv.1, hlt, by omega, fun k hk => hc k _ (by simp [sCells, hk])⟩
theorem bc_str (l : List UInt8) : Lib.strCells (str l) = Lib.byteCells l := rfl
theorem bc_app (l m : List UInt8) : Lib.byteCells l ++ Lib.byteCells m = Lib.byteCells (l ++ m) := by simp [Lib.byteCells]
theorem join3_len (x : List UInt8) (r : List (List UInt8)) : (Lib.join (x :: r) [32, 44, 32]).length = 3 * r.length + Lib.lens (x :: r) := by
  rw [Lib.join_cons, List.length_append, Lib.joinTail_length]
  simp [Lib.lens]
  omega
set_option maxRecDepth 100000 in
set_option maxHeartbeats 4000000 in
theorem join3_any (v : Value) (xs : List (List UInt8)) (w : World) (hr : IsRow w 1 v xs.length (sCells xs)) (hn : xs.length ≤ 1000) (hlen : (Lib.join xs [32, 44, 32]).length ≤ 1000000) :
    Calls Tryz.prog 47 #[v, .string ⟨#[32, 44, 32]⟩] w fun e w' => e = .returned (.string (str (Lib.join xs [32, 44, 32]))) ∧ Below w.heap.size w w' := by
  obtain ⟨a0, cap0, rfl⟩ := hr.form
  match xs, hr, hn, hlen with
  | [], hr, _, _ =>
    go_enter Tryz.func47, Tryz.ntmps47
    go_wp2
    go_ret
    exact ⟨rfl, Below.refl _ _⟩
  | [x], hr, _, _ =>
    obtain ⟨b, off, rfl, hlt, hcap, hc⟩ := sCells_at hr (by simp)
    have c0 : w.cell? ⟨b, off, none⟩ = some (.string (str x)) := hc 0 (by simp)
    clear hc hr
    rw [Lib.join_one]
    go_enter Tryz.func47, Tryz.ntmps47
    go_wp2
    go_ret
    exact ⟨rfl, Below.refl _ _⟩
  | x :: y :: r, hr, hn, hlen =>
    obtain ⟨b, off, rfl, hlt, hcap, hc⟩ := sCells_at hr (by simp)
    have HC : Hid (∀ (k : Nat) (hk : k < (x :: y :: r).length), w.cell? ⟨b, off + k, none⟩ = some (.string (str (x :: y :: r)[k]))) := hc
    clear hc hr
    have hJ := join3_len x (y :: r)
    obtain ⟨m, hm⟩ : ∃ m, m = r.length := ⟨_, rfl⟩
    have hL : (x :: y :: r).length = m + 2 := by rw [hm]; rfl
    have hL' : (y :: r).length = m + 1 := by rw [hm]; rfl
    rw [hL] at hn hcap ⊢
    rw [hL'] at hJ
    generalize hX : x :: y :: r = xs at *
    have HX : Hid (xs = x :: y :: r) := hX.symm
    have HJ : Hid ((Lib.join xs [32, 44, 32]).length = 3 * (m + 1) + Lib.lens xs) := hJ
    have hle := Lib.lens_take_le xs
    have hS : Lib.lens xs ≤ 1000000 := by omega
    clear hX hm hJ hL'
    have e1 : ((m : Int) + 2 - 1) = m + 1 := by omega
    have q1 : decide ((9223372036854775807 : Int) / ((m : Int) + 1) ≤ 3) = false := by
      simp only [decide_eq_false_iff_not, Int.not_le]
      have : (4 : Int) ≤ 9223372036854775807 / ((m : Int) + 1) := Int.le_ediv_of_mul_le (by omega) (by omega)
      omega
    go_enter Tryz.func47, Tryz.ntmps47
    go_wp2_with fail
    go_loopw [5, 41] (fun n i wr => ∃ k t : Nat, k ≤ m + 2 ∧ i = .int .i64 (k : Int) ∧ n = .int .i64 (t : Int) ∧ Hid (t = 3 * (m + 1) + Lib.lens (xs.take k)) ∧ t ≤ 2000000 ∧ w = wr) (fun _ i _ => m + 2 - (intOf i).toNat)
    case atStart => exact ⟨0, 3 * (m + 1), by omega, rfl, by simp, by show _ = _; simp [Lib.lens], by omega, rfl⟩
    case round =>
      obtain ⟨k, t, hk, rfl, rfl, HT, ht, rfl⟩ := hrel
      by_cases hlk : k < m + 2
      · have hck := HC.out k (by omega)
        have hls := Lib.lens_take_succ xs k xs[k] (by simp [hL, hlk])
        have hl2 := hle (k + 1)
        have hz : (str xs[k]).size = xs[k].length := str_size _
        have dk : decide ((k : Int) < (m : Int) + 2) = true := by simp; omega
        have ht1 := HT.out
        have HT2 : Hid (t + (str xs[k]).size = 3 * (m + 1) + Lib.lens (xs.take (k + 1))) := by show _ = _; omega
        have ht2 : t + (str xs[k]).size ≤ 2000000 := by omega
        generalize str xs[k] = z at *
        have dz : decide ((9223372036854775807 : Int) - t < z.size) = false := by simp; omega
        clear hls hl2 hz ht1 HC hle
        go_wp2
        exact ⟨⟨k + 1, t + z.size, by omega, by simp, by simp, HT2, ht2, trivial⟩, by simp [intOf]; omega⟩
      · have hk' : k = m + 2 := by omega
        subst hk'
        have ht1 := HT.out
        rw [List.take_of_length_le (by omega)] at ht1
        have HTJ : Hid (t = (Lib.join xs [32, 44, 32]).length) := by show _ = _; rw [HJ.out]; exact ht1
        have ht0 : 0 < t := by omega
        have ht9 : t ≤ 1000000000 := by omega
        clear ht1 HT ht hk hlk
        obtain ⟨Y, HY⟩ : ∃ Y, Hid (Y = y :: r) := ⟨_, rfl⟩
        have HYl : Hid (Y.length = m + 1) := by show _ = _; have := congrArg List.length HX.out; rw [HY.out]; simp at this ⊢; omega
        have hXY : xs = x :: Y := by rw [HY.out]; exact HX.out
        subst hXY
        have c0 : w.cell? ⟨b, off, none⟩ = some (.string (str x)) := HC.out 0 (by simp)
        have HC2 : Hid (∀ (k : Nat) (hk : k < m + 1), w.cell? ⟨b, off + 1 + k, none⟩ = some (.string (str (Y[k]'(by rw [HYl.out]; exact hk))))) := fun k hk => by
          have := HC.out (k + 1) (by rw [List.length_cons, HYl.out]; omega)
          rw [show off + (k + 1) = off + 1 + k by omega] at this
          simpa using this
        have HJl : Hid (∀ k, x.length + (Lib.joinTail [32, 44, 32] (Y.take k)).length ≤ 1000000) := fun k => by
          have e := congrArg List.length (Lib.join_cons x Y [32, 44, 32])
          have := Lib.joinTail_take_le [32, 44, 32] Y k
          rw [List.length_append] at e
          omega
        have HXs : Hid ((str x).size = x.length) := str_size _
        have hxz : (str x).size ≤ 1000000 := by have := HJl.out 0; rw [HXs.out]; omega
        have dm : decide ((m : Int) + 2 < m + 2) = false := by simp
        clear HC HX HJ hle hL hlen
        go_wp2_with fail
        refine (grow_new w.heap.size t _ (heap_alloc_new w _) ht0 ht9).mono ?_
        rintro e w1 ⟨rfl, hI1, hb1⟩
        have hB1 : Below w.heap.size w w1 := ((Below.refl _ _).alloc (Nat.le_refl _) _).trans hb1
        have hs1 : w.heap.size < w1.heap.size := by have := hb1.size; simp at this; omega
        have c1 : w1.cell? ⟨b, off, none⟩ = some (.string (str x)) := by rw [hB1.cell hlt]; exact c0
        clear hb1
        go_wp2_with fail
        refine (writeString_k w.heap.size w.heap.size [] (str x) _ hI1 (by simp; omega) (by omega)).mono ?_
        rintro e w2 ⟨rfl, hI2, hb2, ok2⟩
        have hB2 : Below w.heap.size w w2 := hB1.trans hb2
        have hs2 : w.heap.size < w2.heap.size := by have := hb2.size; omega
        rw [bc_str, List.nil_append] at hI2
        clear hb2 ok2 hI1 hB1 c1
        go_wp2_with fail
        go_loopw [65] (fun i wq => ∃ k : Nat, k ≤ m + 1 ∧ i = .int .i64 (k : Int) ∧ IsB w.heap.size w.heap.size (Lib.byteCells (x ++ Lib.joinTail [32, 44, 32] (Y.take k))) wq ∧ Below w.heap.size w wq ∧ w.heap.size < wq.heap.size) (fun i _ => m + 1 - (intOf i).toNat)
        case atStart => exact ⟨0, Nat.zero_le _, rfl, by simpa [Lib.joinTail] using hI2, hB2, hs2⟩
        case round =>
          obtain ⟨k, hk, rfl, hI, hB, hs⟩ := hrel
          by_cases hlk : k < m + 1
          · have dk : decide ((k : Int) < (m : Int) + 1) = true := by simp; omega
            have hck := HC2.out k hlk
            rw [← hB.cell hlt] at hck
            have HTk : Hid (x ++ Lib.joinTail [32, 44, 32] (Y.take (k + 1)) = (x ++ Lib.joinTail [32, 44, 32] (Y.take k)) ++ [32, 44, 32] ++ (Y[k]'(by rw [HYl.out]; exact hlk))) := by
              show _ = _
              rw [Lib.joinTail_take_succ [32, 44, 32] Y k _ (List.getElem?_eq_getElem (by rw [HYl.out]; exact hlk))]
              simp [List.append_assoc]
            have hz := HJl.out (k + 1)
            rw [← List.length_append, HTk.out, List.length_append, List.length_append] at hz
            generalize hZ : (Y[k]'(by rw [HYl.out]; exact hlk)) = z at *
            clear hZ HC2
            have HZ : Hid ((str z).size = z.length) := str_size _
            have hbc : (Lib.byteCells (x ++ Lib.joinTail [32, 44, 32] (Y.take k))).length = (x ++ Lib.joinTail [32, 44, 32] (Y.take k)).length := Lib.byteCells_length _
            have hlz : (x ++ Lib.joinTail [32, 44, 32] (Y.take k)).length + 3 + z.length ≤ 1000000 := hz
            generalize hP : x ++ Lib.joinTail [32, 44, 32] (Y.take k) = p at *
            clear hP hz
            have HBC : Hid ((Lib.byteCells p).length = p.length) := hbc
            clear hbc
            go_wp2_with fail
            refine (writeString_k w.heap.size w.heap.size _ ⟨#[32, 44, 32]⟩ _ hI (by rw [HBC.out]; show p.length + 3 ≤ _; omega) (by omega)).mono ?_
            rintro e w3 ⟨rfl, hI3, hb3, ok3⟩
            have hB3 := hB.trans hb3
            have hs3 := hb3.size
            rw [show Lib.strCells ⟨#[32, 44, 32]⟩ = Lib.byteCells [32, 44, 32] from rfl, bc_app] at hI3
            clear hb3 ok3 hI hB
            go_wp2_with fail
            refine (writeString_k w.heap.size w.heap.size _ (str z) _ hI3 (by rw [Lib.byteCells_length, List.length_append, HZ.out]; simp; omega) (by omega)).mono ?_
            rintro e w4 ⟨rfl, hI4, hb4, ok4⟩
            rw [bc_str, bc_app, ← HTk.out] at hI4
            have HI : Hid (IsB w.heap.size w.heap.size (Lib.byteCells (x ++ Lib.joinTail [32, 44, 32] (Y.take (k + 1)))) w4) := hI4
            have HB : Hid (Below w.heap.size w w4) := hB3.trans hb4
            have hs4 := hb4.size
            have hs4' : w.heap.size < w4.heap.size := by omega
            clear hb4 ok4 hI3 hB3 hI4
            go_wp2
            go_roundw
            case rel => exact ⟨k + 1, by omega, by simp, HI.out, HB.out, hs4'⟩
            case measure => simp [intOf]; omega
          · have hk' : k = m + 1 := by omega
            subst hk'
            have dk : decide (((m + 1 : Nat) : Int) < (m : Int) + 1) = false := by simp
            rw [List.take_of_length_le (by rw [HYl.out]; exact Nat.le_refl _), ← Lib.join_cons] at hI
            clear HC2 HTJ
            go_wp2_with fail
            refine (Tryz.Builder_String_any_k w.heap.size w.heap.size (Lib.join (x :: Y) [32, 44, 32]) _ hI (by omega)).mono ?_
            rintro e w5 ⟨rfl, hI5, hb5, ok5⟩
            have HB : Hid (Below w.heap.size w w5) := hB.trans hb5
            clear hI5 hb5 ok5 hI hB
            go_wp2
            go_ret
            exact ⟨rfl, HB.out⟩
theorem join5_len (x : List UInt8) (r : List (List UInt8)) : (Lib.join (x :: r) [32, 97, 110, 100, 32]).length = 5 * r.length + Lib.lens (x :: r) := by
  rw [Lib.join_cons, List.length_append, Lib.joinTail_length]
  simp [Lib.lens]
  omega
set_option maxRecDepth 100000 in
set_option maxHeartbeats 4000000 in
theorem join5_any (v : Value) (xs : List (List UInt8)) (w : World) (hr : IsRow w 1 v xs.length (sCells xs)) (hn : xs.length ≤ 1000) (hlen : (Lib.join xs [32, 97, 110, 100, 32]).length ≤ 1000000) :
    Calls Tryz.prog 47 #[v, .string ⟨#[32, 97, 110, 100, 32]⟩] w fun e w' => e = .returned (.string (str (Lib.join xs [32, 97, 110, 100, 32]))) ∧ Below w.heap.size w w' := by
  obtain ⟨a0, cap0, rfl⟩ := hr.form
  match xs, hr, hn, hlen with
  | [], hr, _, _ =>
    go_enter Tryz.func47, Tryz.ntmps47
    go_wp2
    go_ret
    exact ⟨rfl, Below.refl _ _⟩
  | [x], hr, _, _ =>
    obtain ⟨b, off, rfl, hlt, hcap, hc⟩ := sCells_at hr (by simp)
    have c0 : w.cell? ⟨b, off, none⟩ = some (.string (str x)) := hc 0 (by simp)
    clear hc hr
    rw [Lib.join_one]
    go_enter Tryz.func47, Tryz.ntmps47
    go_wp2
    go_ret
    exact ⟨rfl, Below.refl _ _⟩
  | x :: y :: r, hr, hn, hlen =>
    obtain ⟨b, off, rfl, hlt, hcap, hc⟩ := sCells_at hr (by simp)
    have HC : Hid (∀ (k : Nat) (hk : k < (x :: y :: r).length), w.cell? ⟨b, off + k, none⟩ = some (.string (str (x :: y :: r)[k]))) := hc
    clear hc hr
    have hJ := join5_len x (y :: r)
    obtain ⟨m, hm⟩ : ∃ m, m = r.length := ⟨_, rfl⟩
    have hL : (x :: y :: r).length = m + 2 := by rw [hm]; rfl
    have hL' : (y :: r).length = m + 1 := by rw [hm]; rfl
    rw [hL] at hn hcap ⊢
    rw [hL'] at hJ
    generalize hX : x :: y :: r = xs at *
    have HX : Hid (xs = x :: y :: r) := hX.symm
    have HJ : Hid ((Lib.join xs [32, 97, 110, 100, 32]).length = 5 * (m + 1) + Lib.lens xs) := hJ
    have hle := Lib.lens_take_le xs
    have hS : Lib.lens xs ≤ 1000000 := by omega
    clear hX hm hJ hL'
    have e1 : ((m : Int) + 2 - 1) = m + 1 := by omega
    have q1 : decide ((9223372036854775807 : Int) / ((m : Int) + 1) ≤ 5) = false := by
      simp only [decide_eq_false_iff_not, Int.not_le]
      have : (6 : Int) ≤ 9223372036854775807 / ((m : Int) + 1) := Int.le_ediv_of_mul_le (by omega) (by omega)
      omega
    go_enter Tryz.func47, Tryz.ntmps47
    go_wp2_with fail
    go_loopw [5, 41] (fun n i wr => ∃ k t : Nat, k ≤ m + 2 ∧ i = .int .i64 (k : Int) ∧ n = .int .i64 (t : Int) ∧ Hid (t = 5 * (m + 1) + Lib.lens (xs.take k)) ∧ t ≤ 2000000 ∧ w = wr) (fun _ i _ => m + 2 - (intOf i).toNat)
    case atStart => exact ⟨0, 5 * (m + 1), by omega, rfl, by simp, by show _ = _; simp [Lib.lens], by omega, rfl⟩
    case round =>
      obtain ⟨k, t, hk, rfl, rfl, HT, ht, rfl⟩ := hrel
      by_cases hlk : k < m + 2
      · have hck := HC.out k (by omega)
        have hls := Lib.lens_take_succ xs k xs[k] (by simp [hL, hlk])
        have hl2 := hle (k + 1)
        have hz : (str xs[k]).size = xs[k].length := str_size _
        have dk : decide ((k : Int) < (m : Int) + 2) = true := by simp; omega
        have ht1 := HT.out
        have HT2 : Hid (t + (str xs[k]).size = 5 * (m + 1) + Lib.lens (xs.take (k + 1))) := by show _ = _; omega
        have ht2 : t + (str xs[k]).size ≤ 2000000 := by omega
        generalize str xs[k] = z at *
        have dz : decide ((9223372036854775807 : Int) - t < z.size) = false := by simp; omega
        clear hls hl2 hz ht1 HC hle
        go_wp2
        exact ⟨⟨k + 1, t + z.size, by omega, by simp, by simp, HT2, ht2, trivial⟩, by simp [intOf]; omega⟩
      · have hk' : k = m + 2 := by omega
        subst hk'
        have ht1 := HT.out
        rw [List.take_of_length_le (by omega)] at ht1
        have HTJ : Hid (t = (Lib.join xs [32, 97, 110, 100, 32]).length) := by show _ = _; rw [HJ.out]; exact ht1
        have ht0 : 0 < t := by omega
        have ht9 : t ≤ 1000000000 := by omega
        clear ht1 HT ht hk hlk
        obtain ⟨Y, HY⟩ : ∃ Y, Hid (Y = y :: r) := ⟨_, rfl⟩
        have HYl : Hid (Y.length = m + 1) := by show _ = _; have := congrArg List.length HX.out; rw [HY.out]; simp at this ⊢; omega
        have hXY : xs = x :: Y := by rw [HY.out]; exact HX.out
        subst hXY
        have c0 : w.cell? ⟨b, off, none⟩ = some (.string (str x)) := HC.out 0 (by simp)
        have HC2 : Hid (∀ (k : Nat) (hk : k < m + 1), w.cell? ⟨b, off + 1 + k, none⟩ = some (.string (str (Y[k]'(by rw [HYl.out]; exact hk))))) := fun k hk => by
          have := HC.out (k + 1) (by rw [List.length_cons, HYl.out]; omega)
          rw [show off + (k + 1) = off + 1 + k by omega] at this
          simpa using this
        have HJl : Hid (∀ k, x.length + (Lib.joinTail [32, 97, 110, 100, 32] (Y.take k)).length ≤ 1000000) := fun k => by
          have e := congrArg List.length (Lib.join_cons x Y [32, 97, 110, 100, 32])
          have := Lib.joinTail_take_le [32, 97, 110, 100, 32] Y k
          rw [List.length_append] at e
          omega
        have HXs : Hid ((str x).size = x.length) := str_size _
        have hxz : (str x).size ≤ 1000000 := by have := HJl.out 0; rw [HXs.out]; omega
        have dm : decide ((m : Int) + 2 < m + 2) = false := by simp
        clear HC HX HJ hle hL hlen
        go_wp2_with fail
        refine (grow_new w.heap.size t _ (heap_alloc_new w _) ht0 ht9).mono ?_
        rintro e w1 ⟨rfl, hI1, hb1⟩
        have hB1 : Below w.heap.size w w1 := ((Below.refl _ _).alloc (Nat.le_refl _) _).trans hb1
        have hs1 : w.heap.size < w1.heap.size := by have := hb1.size; simp at this; omega
        have c1 : w1.cell? ⟨b, off, none⟩ = some (.string (str x)) := by rw [hB1.cell hlt]; exact c0
        clear hb1
        go_wp2_with fail
        refine (writeString_k w.heap.size w.heap.size [] (str x) _ hI1 (by simp; omega) (by omega)).mono ?_
        rintro e w2 ⟨rfl, hI2, hb2, ok2⟩
        have hB2 : Below w.heap.size w w2 := hB1.trans hb2
        have hs2 : w.heap.size < w2.heap.size := by have := hb2.size; omega
        rw [bc_str, List.nil_append] at hI2
        clear hb2 ok2 hI1 hB1 c1
        go_wp2_with fail
        go_loopw [65] (fun i wq => ∃ k : Nat, k ≤ m + 1 ∧ i = .int .i64 (k : Int) ∧ IsB w.heap.size w.heap.size (Lib.byteCells (x ++ Lib.joinTail [32, 97, 110, 100, 32] (Y.take k))) wq ∧ Below w.heap.size w wq ∧ w.heap.size < wq.heap.size) (fun i _ => m + 1 - (intOf i).toNat)
        case atStart => exact ⟨0, Nat.zero_le _, rfl, by simpa [Lib.joinTail] using hI2, hB2, hs2⟩
        case round =>
          obtain ⟨k, hk, rfl, hI, hB, hs⟩ := hrel
          by_cases hlk : k < m + 1
          · have dk : decide ((k : Int) < (m : Int) + 1) = true := by simp; omega
            have hck := HC2.out k hlk
            rw [← hB.cell hlt] at hck
            have HTk : Hid (x ++ Lib.joinTail [32, 97, 110, 100, 32] (Y.take (k + 1)) = (x ++ Lib.joinTail [32, 97, 110, 100, 32] (Y.take k)) ++ [32, 97, 110, 100, 32] ++ (Y[k]'(by rw [HYl.out]; exact hlk))) := by
              show _ = _
              rw [Lib.joinTail_take_succ [32, 97, 110, 100, 32] Y k _ (List.getElem?_eq_getElem (by rw [HYl.out]; exact hlk))]
              simp [List.append_assoc]
            have hz := HJl.out (k + 1)
            rw [← List.length_append, HTk.out, List.length_append, List.length_append] at hz
            generalize hZ : (Y[k]'(by rw [HYl.out]; exact hlk)) = z at *
            clear hZ HC2
            have HZ : Hid ((str z).size = z.length) := str_size _
            have hbc : (Lib.byteCells (x ++ Lib.joinTail [32, 97, 110, 100, 32] (Y.take k))).length = (x ++ Lib.joinTail [32, 97, 110, 100, 32] (Y.take k)).length := Lib.byteCells_length _
            have hlz : (x ++ Lib.joinTail [32, 97, 110, 100, 32] (Y.take k)).length + 5 + z.length ≤ 1000000 := hz
            generalize hP : x ++ Lib.joinTail [32, 97, 110, 100, 32] (Y.take k) = p at *
            clear hP hz
            have HBC : Hid ((Lib.byteCells p).length = p.length) := hbc
            clear hbc
            go_wp2_with fail
            refine (writeString_k w.heap.size w.heap.size _ ⟨#[32, 97, 110, 100, 32]⟩ _ hI (by rw [HBC.out]; show p.length + 5 ≤ _; omega) (by omega)).mono ?_
            rintro e w3 ⟨rfl, hI3, hb3, ok3⟩
            have hB3 := hB.trans hb3
            have hs3 := hb3.size
            rw [show Lib.strCells ⟨#[32, 97, 110, 100, 32]⟩ = Lib.byteCells [32, 97, 110, 100, 32] from rfl, bc_app] at hI3
            clear hb3 ok3 hI hB
            go_wp2_with fail
            refine (writeString_k w.heap.size w.heap.size _ (str z) _ hI3 (by rw [Lib.byteCells_length, List.length_append, HZ.out]; simp; omega) (by omega)).mono ?_
            rintro e w4 ⟨rfl, hI4, hb4, ok4⟩
            rw [bc_str, bc_app, ← HTk.out] at hI4
            have HI : Hid (IsB w.heap.size w.heap.size (Lib.byteCells (x ++ Lib.joinTail [32, 97, 110, 100, 32] (Y.take (k + 1)))) w4) := hI4
            have HB : Hid (Below w.heap.size w w4) := hB3.trans hb4
            have hs4 := hb4.size
            have hs4' : w.heap.size < w4.heap.size := by omega
            clear hb4 ok4 hI3 hB3 hI4
            go_wp2
            go_roundw
            case rel => exact ⟨k + 1, by omega, by simp, HI.out, HB.out, hs4'⟩
            case measure => simp [intOf]; omega
          · have hk' : k = m + 1 := by omega
            subst hk'
            have dk : decide (((m + 1 : Nat) : Int) < (m : Int) + 1) = false := by simp
            rw [List.take_of_length_le (by rw [HYl.out]; exact Nat.le_refl _), ← Lib.join_cons] at hI
            clear HC2 HTJ
            go_wp2_with fail
            refine (Tryz.Builder_String_any_k w.heap.size w.heap.size (Lib.join (x :: Y) [32, 97, 110, 100, 32]) _ hI (by omega)).mono ?_
            rintro e w5 ⟨rfl, hI5, hb5, ok5⟩
            have HB : Hid (Below w.heap.size w w5) := hB.trans hb5
            clear hI5 hb5 ok5 hI hB
            go_wp2
            go_ret
            exact ⟨rfl, HB.out⟩
end Go.Proofs.YtbekpemidpngaaaGreatDoor.V
