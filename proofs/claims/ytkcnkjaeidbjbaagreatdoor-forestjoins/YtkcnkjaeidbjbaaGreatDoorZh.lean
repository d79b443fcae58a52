/- forest.Same: its walk. -/
import Derived.Test.YtkcnkjaeidbjbaaGreatDoorZr
import Derived.Test.YtkcnkjaeidbjbaaGreatDoorZs
import Derived.Test.YtkcnkjaeidbjbaaGreatDoorZf
namespace Go.Proofs.YtkcnkjaeidbjbaaGreatDoor
open Go.RowKit Go.ChangeMaps

def eqI (t u : Ty) : Bool := decide (t.nd = u.nd ∧ t.lf = u.lf ∧ t.sq = u.sq)
/-- Are two types the same in all? -/
def sameT (t u : Ty) : Bool := decide (t.n = u.n) && (decide (t.p = u.p) && (eqI t u && (sameR t.own u.own && (sameR t.all u.all && sameS t.ch u.ch))))
theorem sameT_iff (t u : Ty) : sameT t u = true ↔ t = u := by
  unfold sameT eqI sameS
  simp only [Bool.and_eq_true, decide_eq_true_eq, sameR_iff]
  obtain ⟨n, p, o, a, c, nd, lf, sq⟩ := t
  obtain ⟨n', p', o', a', c', nd', lf', sq'⟩ := u
  simp only [Ty.mk.injEq]
  constructor
  · rintro ⟨rfl, rfl, ⟨rfl, rfl, rfl⟩, rfl, rfl, rfl⟩
    exact ⟨rfl, rfl, rfl, rfl, rfl, rfl, rfl, rfl⟩
  · rintro ⟨rfl, rfl, rfl, rfl, rfl, rfl, rfl, rfl⟩
    exact ⟨rfl, rfl, ⟨rfl, rfl, rfl⟩, rfl, rfl, rfl⟩
set_option maxRecDepth 100000 in
set_option maxHeartbeats 4000000 in
theorem sameT_any (x o : LT) (w : World) (hx : IsTy w x.t x.vo x.va x.vc) (ho : IsTy w o.t o.vo o.va o.vc) (mx : x.t.own.length ≤ 1000000 ∧ x.t.all.length ≤ 1000000 ∧ x.t.ch.length ≤ 1000000) (mo : o.t.own.length ≤ 1000000 ∧ o.t.all.length ≤ 1000000 ∧ o.t.ch.length ≤ 1000000) :
    Calls Tryz.prog 33 #[ltV x, ltV o] w fun e w' => e = .returned (.bool (sameT x.t o.t)) ∧ Below w.heap.size w w' := by
  obtain ⟨W0, hW0⟩ : ∃ W0, W0 = (w.alloc (.cells (tyA x.t x.vo x.va x.vc) 30)).alloc (.cells (tyA o.t o.vo o.va o.vc) 30) := ⟨_, rfl⟩
  have hA : Below w.heap.size w W0 := by rw [hW0]; exact (al_b w _).trans ((al_b _ _).mono (by simp))
  have hz : W0.heap.size = w.heap.size + 2 := by rw [hW0]; simp
  have hn0 : W0.heap[w.heap.size]? = some (.cells (tyA x.t x.vo x.va x.vc) 30 (0, 0)) := by
    rw [hW0]
    show ((w.heap.push _).push _)[w.heap.size]? = _
    rw [Array.getElem?_push, if_neg (by simp), Array.getElem?_push, if_pos rfl]
  have hn1 : W0.heap[w.heap.size + 1]? = some (.cells (tyA o.t o.vo o.va o.vc) 30 (0, 0)) := by
    rw [hW0]
    show ((w.heap.push _).push _)[w.heap.size + 1]? = _
    rw [Array.getElem?_push, if_pos (by simp)]
  have HX : Hid (∀ W, Below W0.heap.size W0 W → BxT w.heap.size x.t x.vo x.va x.vc W) := fun W h => BxT.of ((h.block _ (by omega)).trans hn0)
  have HY : Hid (∀ W, Below W0.heap.size W0 W → BxT (w.heap.size + 1) o.t o.vo o.va o.vc W) := fun W h => BxT.of ((h.block _ (by omega)).trans hn1)
  have HBw : Hid (∀ W, Below W0.heap.size W0 W → Below w.heap.size w W) := fun W h => hA.trans (h.mono hA.size)
  have HE1 : Hid (∀ W, Below W0.heap.size W0 W → Calls Tryz.prog 70 #[x.vo, o.vo] W fun e w' => e = .returned (.bool (sameR x.t.own o.t.own)) ∧ Below W.heap.size W w') := fun W h => equalF_any _ _ x.t.own o.t.own W (hx.1.below (HBw.out W h)) (ho.1.below (HBw.out W h)) mx.1 mo.1
  have HE2 : Hid (∀ W, Below W0.heap.size W0 W → Calls Tryz.prog 70 #[x.va, o.va] W fun e w' => e = .returned (.bool (sameR x.t.all o.t.all)) ∧ Below W.heap.size W w') := fun W h => equalF_any _ _ x.t.all o.t.all W (hx.2.1.below (HBw.out W h)) (ho.2.1.below (HBw.out W h)) mx.2.1 mo.2.1
  have HE3 : Hid (∀ W, Below W0.heap.size W0 W → Calls Tryz.prog 71 #[x.vc, o.vc] W fun e w' => e = .returned (.bool (sameS x.t.ch o.t.ch)) ∧ Below W.heap.size W w') := fun W h => equalS_any _ _ x.t.ch o.t.ch W (hx.2.2.below (HBw.out W h)) (ho.2.2.below (HBw.out W h)) mx.2.2 mo.2.2
  have HD : Hid (sameT x.t o.t = (decide (x.t.n = o.t.n) && (decide (x.t.p = o.t.p) && (eqI x.t o.t && (sameR x.t.own o.t.own && (sameR x.t.all o.t.all && sameS x.t.ch o.t.ch)))))) := rfl
  have eN := strEqB x.t.n o.t.n
  have eP := strEqB x.t.p o.t.p
  clear hx ho mx mo hA hn0 hn1
  generalize sameT x.t o.t = BB at *
  generalize sameR x.t.own o.t.own = B1 at *
  generalize sameR x.t.all o.t.all = B2 at *
  generalize sameS x.t.ch o.t.ch = B3 at *
  have HB0 : Hid (Below w.heap.size w W0) := HBw.out _ (Below.refl _ _)
  obtain ⟨⟨a0, a1, a2, a3⟩, a4, a5, a6, a7⟩ := HX.out W0 (Below.refl _ _)
  obtain ⟨⟨b0, b1, b2, b3⟩, b4, b5, b6, b7⟩ := HY.out W0 (Below.refl _ _)
  by_cases h1 : x.t.n = o.t.n
  rotate_left
  · have hB : BB = false := by rw [HD.out, decide_eq_false h1, Bool.false_and]
    subst hB
    rw [decide_eq_false h1] at eN
    clear HD h1 HE1 HE2 HE3
    go_enter Tryz.func33, Tryz.ntmps33
    go_wp2_with fail
    rw [← hW0]
    clear hW0
    go_wp2
    go_ret
    exact ⟨rfl, HB0.out⟩
  rw [decide_eq_true h1] at eN
  by_cases h2 : x.t.p = o.t.p
  rotate_left
  · have hB : BB = false := by rw [HD.out, decide_eq_false h2, Bool.false_and, Bool.and_false]
    subst hB
    rw [decide_eq_false h2] at eP
    clear HD h1 h2 HE1 HE2 HE3
    go_enter Tryz.func33, Tryz.ntmps33
    go_wp2_with fail
    rw [← hW0]
    clear hW0
    go_wp2
    go_ret
    exact ⟨rfl, HB0.out⟩
  rw [decide_eq_true h2] at eP
  by_cases h3 : x.t.nd = o.t.nd ∧ x.t.lf = o.t.lf ∧ x.t.sq = o.t.sq
  rotate_left
  · have hB : BB = false := by rw [HD.out]; unfold eqI; rw [decide_eq_false h3, Bool.false_and, Bool.and_false, Bool.and_false]
    subst hB
    clear HD h1 h2 HE1 HE2 HE3
    by_cases e1 : x.t.nd = o.t.nd
    rotate_left
    · clear h3
      go_enter Tryz.func33, Tryz.ntmps33
      go_wp2_with fail
      rw [← hW0]
      clear hW0
      go_wp2
      go_ret
      exact ⟨rfl, HB0.out⟩
    by_cases e2 : x.t.lf = o.t.lf
    rotate_left
    · clear h3
      go_enter Tryz.func33, Tryz.ntmps33
      go_wp2_with fail
      rw [← hW0]
      clear hW0
      go_wp2
      go_ret
      exact ⟨rfl, HB0.out⟩
    have e3 : ¬ x.t.sq = o.t.sq := fun e3 => h3 ⟨e1, e2, e3⟩
    clear h3
    go_enter Tryz.func33, Tryz.ntmps33
    go_wp2_with fail
    rw [← hW0]
    clear hW0
    go_wp2
    go_ret
    exact ⟨rfl, HB0.out⟩
  have hI : eqI x.t o.t = true := by unfold eqI; exact decide_eq_true h3
  obtain ⟨j1, j2, j3⟩ := h3
  have HD2 : Hid (BB = (B1 && (B2 && B3))) := by show _ = _; rw [HD.out, decide_eq_true h1, decide_eq_true h2, hI, Bool.true_and, Bool.true_and, Bool.true_and]
  clear HD h1 h2 hI
  go_enter Tryz.func33, Tryz.ntmps33
  go_wp2_with fail
  rw [← hW0]
  clear hW0
  go_wp2_with fail
  refine (HE1.out W0 (Below.refl _ _)).mono ?_
  rintro e w1 ⟨rfl, hbw1⟩
  have Hw1 : Hid (Below W0.heap.size W0 w1) := hbw1
  have HBw1 : Hid (Below w.heap.size w w1) := HBw.out _ Hw1.out
  clear hbw1 a0 a1 a2 a3 a4 a5 a6 a7 b0 b1 b2 b3 b4 b5 b6 b7
  obtain ⟨⟨a0, a1, a2, a3⟩, a4, a5, a6, a7⟩ := HX.out w1 Hw1.out
  obtain ⟨⟨b0, b1, b2, b3⟩, b4, b5, b6, b7⟩ := HY.out w1 Hw1.out
  cases B1
  · have hB : BB = false := by rw [HD2.out, Bool.false_and]
    subst hB
    go_wp2
    go_ret
    exact ⟨rfl, HBw1.out⟩
  go_wp2_with fail
  refine (HE2.out w1 Hw1.out).mono ?_
  rintro e w2 ⟨rfl, hbw2⟩
  have Hw2 : Hid (Below W0.heap.size W0 w2) := Hw1.out.trans (hbw2.mono Hw1.out.size)
  have HBw2 : Hid (Below w.heap.size w w2) := HBw.out _ Hw2.out
  clear hbw2 a0 a1 a2 a3 a4 a5 a6 a7 b0 b1 b2 b3 b4 b5 b6 b7
  obtain ⟨⟨a0, a1, a2, a3⟩, a4, a5, a6, a7⟩ := HX.out w2 Hw2.out
  obtain ⟨⟨b0, b1, b2, b3⟩, b4, b5, b6, b7⟩ := HY.out w2 Hw2.out
  cases B2
  · have hB : BB = false := by rw [HD2.out, Bool.false_and, Bool.and_false]
    subst hB
    go_wp2
    go_ret
    exact ⟨rfl, HBw2.out⟩
  go_wp2_with fail
  refine (HE3.out w2 Hw2.out).mono ?_
  rintro e w3 ⟨rfl, hbw3⟩
  have Hw3 : Hid (Below W0.heap.size W0 w3) := Hw2.out.trans (hbw3.mono Hw2.out.size)
  have HBw3 : Hid (Below w.heap.size w w3) := HBw.out _ Hw3.out
  clear hbw3 a0 a1 a2 a3 a4 a5 a6 a7 b0 b1 b2 b3 b4 b5 b6 b7
  obtain ⟨⟨a0, a1, a2, a3⟩, a4, a5, a6, a7⟩ := HX.out w3 Hw3.out
  obtain ⟨⟨b0, b1, b2, b3⟩, b4, b5, b6, b7⟩ := HY.out w3 Hw3.out
  have hB : BB = B3 := by rw [HD2.out, Bool.true_and, Bool.true_and]
  subst hB
  go_wp2
  go_ret
  exact ⟨rfl, HBw3.out⟩
end Go.Proofs.YtkcnkjaeidbjbaaGreatDoor
/- law05's few and awake: walks. -/
namespace Go.Proofs.YtkcnkjaeidbjbaaGreatDoor
open Go.RowKit Go.ChangeMaps

def bNews : ByteArray := ⟨#[78, 101, 119, 115]⟩
def bSport : ByteArray := ⟨#[78, 101, 119, 115, 46, 83, 112, 111, 114, 116]⟩
def bTitle : ByteArray := ⟨#[116, 105, 116, 108, 101]⟩
def bScore : ByteArray := ⟨#[115, 99, 111, 114, 101]⟩
def tyA0 : Ty := ⟨bNews, ⟨#[]⟩, [⟨bTitle, 2, true⟩], [⟨bTitle, 2, true⟩], [bNews], 1, 1, 1⟩
def tyB0 : Ty := ⟨bSport, bNews, [⟨bScore, 1, false⟩], [⟨bScore, 1, false⟩, ⟨bTitle, 2, true⟩], [bSport, bNews], 1, 1, 1⟩
theorem ex1 : mkR [] ⟨#[78, 101, 119, 115]⟩ ⟨#[]⟩ [⟨⟨#[116, 105, 116, 108, 101]⟩, 2, true⟩] 1 1 1 = (tyA0, 0) := by kernel_rfl
theorem ex2 : addR [] tyA0 = ([tyA0], 0) := by kernel_rfl
theorem ex3 : mkR [tyA0] ⟨#[78, 101, 119, 115, 46, 83, 112, 111, 114, 116]⟩ ⟨#[110, 101, 119, 115]⟩ [⟨⟨#[115, 99, 111, 114, 101]⟩, 1, false⟩] 1 1 1 = (tyB0, 0) := by kernel_rfl
theorem ex4 : mkR [tyA0] ⟨#[78, 69, 87, 83]⟩ ⟨#[]⟩ [] 1 1 1 = (zT, 5) := by kernel_rfl
theorem ex5 : mkR [tyA0] ⟨#[120]⟩ ⟨#[78, 101, 119, 115]⟩ [⟨⟨#[116, 105, 116, 108, 101]⟩, 1, false⟩] 1 1 1 = (zT, 9) := by kernel_rfl
theorem nmA0 : NmT tyA0 := by
  constructor <;> first | decide | (intro x hx; simp [tyA0] at hx; subst hx; decide)
/-- The page's example. -/
theorem row_fd {w : World} {g : Nat} {x : Fd} (h : w.heap[g]? = some (.cells #[.string x.n, .int .i64 x.k, .bool x.m] 81 (0, 0))) : IsRow w 3 (.slice (some ⟨g, 0, none⟩) 1 1) [x].length (fCells [x]) := by
  refine ⟨rfl, .inr ⟨g, 0, 1, rfl, (Array.getElem?_eq_some_iff.1 h).1, Nat.le_refl _, by decide, fun j u hu => ?_⟩⟩
  rw [Nat.zero_add, Lib.cell_of_heap h]
  match j, hu with
  | 0, hu => exact hu
  | 1, hu => exact hu
  | 2, hu => exact hu
  | j + 3, hu => simp [fCells, enF] at hu
theorem K_one {K : List LT} {t : Ty} (h : tys K = [t]) : ∃ x : LT, K = [x] ∧ x.t = t := by
  match K, h with
  | [x], h => exact ⟨x, rfl, by simpa [tys] using h⟩
  | [], h => simp [tys] at h
  | x :: y :: K, h => simp [tys] at h
theorem smA0 : SmT tyA0 := ⟨by decide, by decide, by decide⟩
set_option maxRecDepth 100000 in
set_option maxHeartbeats 4000000 in
theorem awake5_any (w : World) (hW : W3 w) : Calls Tryz.prog 10 #[] w fun e w' => e = .returned (.bool true) ∧ Below w.heap.size w w' := by
  obtain ⟨Wb, hWb⟩ : ∃ Wb, Wb = w.alloc (.cells #[.int .i64 1, .int .i64 1, .int .i64 1] 25) := ⟨_, rfl⟩
  have hAb : Below w.heap.size w Wb := by rw [hWb]; exact al_b w _
  have hnb : Wb.heap[w.heap.size]? = some (.cells #[.int .i64 1, .int .i64 1, .int .i64 1] 25 (0, 0)) := by rw [hWb]; exact new_at w _
  have hzb : w.heap.size < Wb.heap.size := (Array.getElem?_eq_some_iff.1 hnb).1
  have HId : Hid (∀ W, Below Wb.heap.size Wb W → (W.cell? ⟨w.heap.size, 0, none⟩ = some (.int .i64 1) ∧ W.cell? ⟨w.heap.size, 1, none⟩ = some (.int .i64 1) ∧ W.cell? ⟨w.heap.size, 2, none⟩ = some (.int .i64 1)) ∧ w.heap.size < W.heap.size) := fun W h => by
    have e : ∀ j, W.cell? ⟨w.heap.size, j, none⟩ = (#[.int .i64 1, .int .i64 1, .int .i64 1] : Array Value)[j]? := fun j => by rw [Lib.cell_of_heap ((h.block _ hzb).trans hnb)]
    exact ⟨⟨e 0, e 1, e 2⟩, Nat.lt_of_lt_of_le hzb h.size⟩
  have HBw : Hid (∀ W, Below Wb.heap.size Wb W → Below w.heap.size w W) := fun W h => hAb.trans (h.mono hAb.size)
  have HW : Hid (∀ W, Below Wb.heap.size Wb W → W3 W) := fun W h => hW.below (HBw.out W h)
  have HAl : Hid (∀ W o, Below Wb.heap.size Wb W → Below Wb.heap.size Wb (W.alloc o)) := fun W o h => h.trans ((al_b _ o).mono h.size)
  have HM : Hid (∀ (vl : Value) (L : List LT) (s p : ByteArray) (v : Value) (own : List Fd) (W : World) (R : Ty × Int), Below Wb.heap.size Wb W → IsTys W vl L → L.length ≤ 1000000 → NmL L → s.size ≤ 1000000 → p.size ≤ 1000000 → IsRow W 3 v own.length (fCells own) → own.length ≤ 1000 → NmF own → mkR (tys L) s p own 1 1 1 = R → Calls Tryz.prog 12 #[vl, .string s, .string p, v, idV 1 1 1] W fun e w' => MkP R W e w') := fun vl L s p v own W R h h1 h2 h3 h4 h5 h6 h7 h8 e => by
    rw [← e]
    exact make_any vl L s p v own 1 1 1 W h1 h2 h3 h4 h5 h6 h7 h8 (HW.out W h)
  have HAd : Hid (∀ (x : LT) (W : World), Below Wb.heap.size Wb W → IsTy W x.t x.vo x.va x.vc → x.t = tyA0 → Calls Tryz.prog 21 #[.slice none 0 0, ltV x] W fun e w' => AdP ([tyA0], 0) W e w') := fun x W h h1 e => by
    have := add_any (.slice none 0 0) [] x W ⟨IsRow.nil _ _, fun x hx => nomatch hx⟩ (by simp) (fun x hx => nomatch hx) (fun x hx => nomatch hx) h1 (by rw [e]; exact nmA0) (by rw [e]; exact smA0) (HW.out W h)
    rw [e] at this
    rw [← ex2]
    exact this
  have HB0 : Hid (Below Wb.heap.size Wb Wb) := Below.refl _ _
  clear hW hAb hnb hzb
  obtain ⟨W1, hW1⟩ : ∃ W1, W1 = Wb.alloc (.cells #[.string ⟨#[116, 105, 116, 108, 101]⟩, .int .i64 2, .bool true] 81) := ⟨_, rfl⟩
  have H1 : Hid (Below Wb.heap.size Wb W1) := by show Below _ _ _; rw [hW1]; exact HAl.out _ _ HB0.out
  have HC1 : Hid (Calls Tryz.prog 12 #[.slice none 0 0, .string ⟨#[78, 101, 119, 115]⟩, .string ⟨#[]⟩, .slice (some ⟨Wb.heap.size, 0, none⟩) 1 1, idV 1 1 1] W1 fun e w' => MkP (tyA0, 0) W1 e w') := HM.out (.slice none 0 0) [] _ _ _ [⟨⟨#[116, 105, 116, 108, 101]⟩, 2, true⟩] W1 _ H1.out ⟨IsRow.nil _ _, fun x hx => nomatch hx⟩ (by simp) (fun x hx => nomatch hx) (by decide) (by decide) (row_fd (by rw [hW1]; exact new_at Wb _)) (by simp) (fun x hx => by simp at hx; subst hx; decide) ex1
  have hzs : Wb.heap.size = w.heap.size + 1 := by rw [hWb]; simp
  rw [hzs] at HC1
  obtain ⟨⟨i0, i1, i2⟩, i3⟩ := HId.out Wb HB0.out
  go_enter Tryz.func10, Tryz.ntmps10
  go_wp2_with fail
  rw [← hWb, ← hW1]
  clear hW1 i0 i1 i2 i3
  refine HC1.out.mono ?_
  rintro e w2 ⟨y, rfl, hyt, hyI, -, hb⟩
  have H2 : Hid (Below Wb.heap.size Wb w2) := H1.out.trans (hb.mono H1.out.size)
  obtain ⟨W3', hW3'⟩ : ∃ W3', W3' = w2.alloc (.cells (tyA y.t y.vo y.va y.vc) 30) := ⟨_, rfl⟩
  have H3 : Hid (Below Wb.heap.size Wb W3') := by show Below _ _ _; rw [hW3']; exact HAl.out _ _ H2.out
  have HC2 : Hid (Calls Tryz.prog 21 #[.slice none 0 0, ltV y] W3' fun e w' => AdP ([tyA0], 0) W3' e w') := HAd.out y W3' H3.out (by rw [hW3']; exact hyI.below (al_b w2 _)) hyt
  clear hb hyt hyI HC1 HAd
  go_wp2_with fail
  rw [← hW3']
  clear hW3'
  refine HC2.out.mono ?_
  rintro e w4 ⟨sa, sc, K, rfl, hK, hKI, hb⟩
  have H4 : Hid (Below Wb.heap.size Wb w4) := H3.out.trans (hb.mono H3.out.size)
  have HK : Hid (tys K = [tyA0]) := hK
  have HKI : Hid (∀ W, Below w4.heap.size w4 W → IsTys W (.slice sa K.length sc) K) := fun W h => hKI.below h
  have HKn : Hid (NmL K ∧ K.length ≤ 1000000) := by
    obtain ⟨x, rfl, hx⟩ := K_one hK
    exact ⟨fun z hz => by obtain rfl := List.mem_singleton.1 hz; rw [hx]; exact nmA0, by simp⟩
  clear hb hK hKI HC2
  obtain ⟨W5, hW5⟩ : ∃ W5, W5 = w4.alloc (.cells #[.string ⟨#[115, 99, 111, 114, 101]⟩, .int .i64 1, .bool false] 81) := ⟨_, rfl⟩
  have H5 : Hid (Below Wb.heap.size Wb W5) := by show Below _ _ _; rw [hW5]; exact HAl.out _ _ H4.out
  have H45 : Hid (Below w4.heap.size w4 W5) := by show Below _ _ _; rw [hW5]; exact al_b _ _
  have HC3 : Hid (Calls Tryz.prog 12 #[.slice sa K.length sc, .string ⟨#[78, 101, 119, 115, 46, 83, 112, 111, 114, 116]⟩, .string ⟨#[110, 101, 119, 115]⟩, .slice (some ⟨w4.heap.size, 0, none⟩) 1 1, idV 1 1 1] W5 fun e w' => MkP (tyB0, 0) W5 e w') := HM.out _ K _ _ _ [⟨⟨#[115, 99, 111, 114, 101]⟩, 1, false⟩] W5 _ H5.out (HKI.out _ H45.out) HKn.out.2 HKn.out.1 (by decide) (by decide) (row_fd (by rw [hW5]; exact new_at w4 _)) (by simp) (fun x hx => by simp at hx; subst hx; decide) (by rw [HK.out]; exact ex3)
  obtain ⟨⟨i0, i1, i2⟩, i3⟩ := HId.out w4 H4.out
  go_wp2_with fail
  rw [← hW5]
  clear hW5 i0 i1 i2 i3
  refine HC3.out.mono ?_
  rintro e w6 ⟨yb, rfl, hyt, hyI, -, hb⟩
  have H6 : Hid (Below Wb.heap.size Wb w6) := H5.out.trans (hb.mono H5.out.size)
  have H46 : Hid (Below w4.heap.size w4 w6) := H45.out.trans (hb.mono H45.out.size)
  obtain ⟨W7, hW7⟩ : ∃ W7, W7 = w6.alloc (.cells (tyA yb.t yb.vo yb.va yb.vc) 30) := ⟨_, rfl⟩
  have H7 : Hid (Below Wb.heap.size Wb W7) := by show Below _ _ _; rw [hW7]; exact HAl.out _ _ H6.out
  have H67 : Hid (Below w6.heap.size w6 W7) := by show Below _ _ _; rw [hW7]; exact al_b _ _
  have H47 : Hid (Below w4.heap.size w4 W7) := H46.out.trans (H67.out.mono H46.out.size)
  have hn7 : W7.heap[w6.heap.size]? = some (.cells (tyA yb.t yb.vo yb.va yb.vc) 30 (0, 0)) := by rw [hW7]; exact new_at w6 _
  have HYb : Hid (∀ W, Below W7.heap.size W7 W → BxT w6.heap.size yb.t yb.vo yb.va yb.vc W ∧ IsTy W yb.t yb.vo yb.va yb.vc ∧ w6.heap.size < W.heap.size) := fun W h => ⟨BxT.of ((h.block _ (Array.getElem?_eq_some_iff.1 hn7).1).trans hn7), (hyI.below H67.out).below h, Nat.lt_of_lt_of_le (Array.getElem?_eq_some_iff.1 hn7).1 h.size⟩
  have HYt : Hid (yb.t = tyB0) := hyt
  have HC4 : Hid (Calls Tryz.prog 12 #[.slice sa K.length sc, .string ⟨#[78, 69, 87, 83]⟩, .string ⟨#[]⟩, .slice none 0 0, idV 1 1 1] W7 fun e w' => MkP (zT, 5) W7 e w') := HM.out _ K _ _ _ [] W7 _ H7.out (HKI.out _ H47.out) HKn.out.2 HKn.out.1 (by decide) (by decide) (IsRow.nil _ _) (by simp) (fun x hx => nomatch hx) (by rw [HK.out]; exact ex4)
  clear hb hyt hyI HC3 hn7
  obtain ⟨⟨i0, i1, i2⟩, i3⟩ := HId.out w6 H6.out
  go_wp2_with fail
  rw [← hW7]
  clear hW7 i0 i1 i2 i3
  refine HC4.out.mono ?_
  rintro e w8 ⟨yc, rfl, -, -, -, hb⟩
  have H8 : Hid (Below Wb.heap.size Wb w8) := H7.out.trans (hb.mono H7.out.size)
  have H78 : Hid (Below W7.heap.size W7 w8) := hb
  obtain ⟨W9, hW9⟩ : ∃ W9, W9 = (w8.alloc (.cells (tyA yc.t yc.vo yc.va yc.vc) 30)).alloc (.cells #[.string ⟨#[116, 105, 116, 108, 101]⟩, .int .i64 1, .bool false] 81) := ⟨_, rfl⟩
  have H9 : Hid (Below Wb.heap.size Wb W9) := by show Below _ _ _; rw [hW9]; exact HAl.out _ _ (HAl.out _ _ H8.out)
  have H89 : Hid (Below w8.heap.size w8 W9) := by show Below _ _ _; rw [hW9]; exact (al_b _ _).trans ((al_b _ _).mono (by simp))
  have H79 : Hid (Below W7.heap.size W7 W9) := H78.out.trans (H89.out.mono H78.out.size)
  have H49 : Hid (Below w4.heap.size w4 W9) := H47.out.trans (H79.out.mono H47.out.size)
  have hn9 : W9.heap[w8.heap.size + 1]? = some (.cells #[.string ⟨#[116, 105, 116, 108, 101]⟩, .int .i64 1, .bool false] 81 (0, 0)) := by
    rw [hW9]
    show ((w8.heap.push _).push _)[w8.heap.size + 1]? = _
    rw [Array.getElem?_push, if_pos (by simp)]
  have HC5 : Hid (Calls Tryz.prog 12 #[.slice sa K.length sc, .string ⟨#[120]⟩, .string ⟨#[78, 101, 119, 115]⟩, .slice (some ⟨w8.heap.size + 1, 0, none⟩) 1 1, idV 1 1 1] W9 fun e w' => MkP (zT, 9) W9 e w') := HM.out _ K _ _ _ [⟨⟨#[116, 105, 116, 108, 101]⟩, 1, false⟩] W9 _ H9.out (HKI.out _ H49.out) HKn.out.2 HKn.out.1 (by decide) (by decide) (row_fd hn9) (by simp) (fun x hx => by simp at hx; subst hx; decide) (by rw [HK.out]; exact ex5)
  clear hb HC4 hn9
  obtain ⟨⟨i0, i1, i2⟩, i3⟩ := HId.out w8 H8.out
  go_wp2_with fail
  rw [← hW9]
  clear hW9 i0 i1 i2 i3
  refine HC5.out.mono ?_
  rintro e w10 ⟨yd, rfl, -, -, -, hb⟩
  have H10 : Hid (Below Wb.heap.size Wb w10) := H9.out.trans (hb.mono H9.out.size)
  have H710 : Below W7.heap.size W7 w10 := H79.out.trans (hb.mono H79.out.size)
  have HEnd : Hid (Below w.heap.size w (w10.alloc (.cells (tyA yd.t yd.vo yd.va yd.vc) 30))) := HBw.out _ (HAl.out _ _ H10.out)
  obtain ⟨⟨⟨b0, b1, b2, b3⟩, b4, b5, b6, b7⟩, hyI, hlt⟩ := HYb.out w10 H710
  clear hb HC5 HM HKI HKn HK HW HAl HId HBw H1 H2 H3 H4 H5 H6 H7 H8 H9 H10 H45 H46 H47 H67 H78 H79 H89 H49 H710 HYb HB0
  obtain ⟨yt, bao, bco, baa, bca, bac, bcc⟩ := yb
  obtain rfl : yt = tyB0 := HYt.out
  clear HYt
  obtain ⟨g1, o1, e1, l1, -, k1⟩ := f_at hyI.2.1 (by show 0 < tyB0.all.length; decide)
  obtain ⟨g2, o2, e2, -, l2, -, k2⟩ := s_at hyI.2.2 (by show 0 < tyB0.ch.length; decide)
  dsimp only [LT.va, LT.vc] at *
  subst e1 e2
  have ka := (k1 0 (by show 0 < tyB0.all.length; decide)).1
  have kb := k2 1 (by show 1 < tyB0.ch.length; decide)
  rw [Nat.zero_mul, Nat.add_zero] at ka
  have la : ((tyB0.all.length : Nat) : Int) = 2 := rfl
  have lb : ((tyB0.ch.length : Nat) : Int) = 2 := rfl
  have na : (tyB0.all[0]'(by decide)).n = ⟨#[115, 99, 111, 114, 101]⟩ := rfl
  have nb : (tyB0.ch[1]'(by decide)) = ⟨#[78, 101, 119, 115]⟩ := rfl
  rw [na] at ka
  rw [nb] at kb
  clear na nb k1 k2 hyI
  go_wp2
  go_ret
  exact ⟨rfl, HEnd.out⟩
end Go.Proofs.YtkcnkjaeidbjbaaGreatDoor
