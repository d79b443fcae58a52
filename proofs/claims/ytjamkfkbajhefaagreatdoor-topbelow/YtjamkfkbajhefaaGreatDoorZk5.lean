/- schema.Find: its walk. -/
import Derived.Test.YtjamkfkbajhefaaGreatDoorZk4
import Derived.Laws.ResultCell
import Derived.Test.YtjamkfkbajhefaaGreatDoorZk3
namespace Go.Proofs.YtjamkfkbajhefaaGreatDoor
open Go.RowKit

def zF : Fd := ⟨⟨#[]⟩, 0, false⟩
/-- The first field of a name. -/
def getF (l : List Fd) (s : ByteArray) : Option Fd := l.find? fun x => sameL x.n.data.toList s.data.toList
theorem getF_at {l : List Fd} {s : ByteArray} {k : Nat} (h : k < l.length) (hb : ∀ (j : Nat) (hj : j < l.length), j < k → sameL l[j].n.data.toList s.data.toList = false) (hk : sameL l[k].n.data.toList s.data.toList = true) : getF l s = some l[k] := by
  unfold getF
  rw [List.find?_eq_some_iff_getElem]
  exact ⟨hk, k, h, rfl, fun j hj => by rw [hb j (by omega) hj]; rfl⟩
theorem getF_no {l : List Fd} {s : ByteArray} (hb : ∀ (j : Nat) (hj : j < l.length), sameL l[j].n.data.toList s.data.toList = false) : getF l s = none := by
  unfold getF
  rw [List.find?_eq_none]
  intro x hx
  obtain ⟨j, hj, rfl⟩ := List.getElem_of_mem hx
  rw [hb j hj]
  exact Bool.false_ne_true
theorem new_at (w : World) (o : Obj) : (w.alloc o).heap[w.heap.size]? = some o := by show (w.heap.push o)[w.heap.size]? = some o; simp
theorem z3 {w : World} {b : Nat} {x y z : Value} {t : TypeId} (h : w.heap[b]? = some (.cells #[x, y, z] t)) :
    w.cell? ⟨b, 0, none⟩ = some x ∧ w.cell? ⟨b, 1, none⟩ = some y ∧ w.cell? ⟨b, 2, none⟩ = some z ∧ w.frozen? ⟨b, 0, none⟩ = false ∧ w.frozen? ⟨b, 1, none⟩ = false ∧ w.frozen? ⟨b, 2, none⟩ = false :=
  ⟨by rw [Lib.cell_of_heap h]; rfl, by rw [Lib.cell_of_heap h]; rfl, by rw [Lib.cell_of_heap h]; rfl, by simp [World.frozen?, h], by simp [World.frozen?, h], by simp [World.frozen?, h]⟩
theorem set3_b {w0 w : World} {b : Nat} (h : Below b w0 w) (x y z : Value) : Below b w0 (((w.setCell ⟨b, 0, none⟩ x).setCell ⟨b, 1, none⟩ y).setCell ⟨b, 2, none⟩ z) :=
  ((h.setCell (p := ⟨b, 0, none⟩) (Nat.le_refl _) _).setCell (p := ⟨b, 1, none⟩) (Nat.le_refl _) _).setCell (p := ⟨b, 2, none⟩) (Nat.le_refl _) _
set_option maxRecDepth 100000 in
set_option maxHeartbeats 2000000 in
theorem find_any (v : Value) (l : List Fd) (s : ByteArray) (w : World) (hr : IsRow w 3 v l.length (fCells l)) (hl : l.length ≤ 1000000) (hn : NmF l) (hs : s.size ≤ 1000000) (hT : UT w) :
    Calls Tryz.prog 26 #[v, .string s] w fun e w' => e = .returned (.tuple #[fV ((getF l s).getD zF), .bool (getF l s).isSome]) ∧ Below w.heap.size w w' := by
  obtain ⟨a0, cap0, rfl⟩ := hr.form
  have HR : Hid (IsRow w 3 (.slice a0 l.length cap0) l.length (fCells l)) := hr
  have HS : Hid (∀ (k : Nat) (h : k < l.length) (w' : World), Below w.heap.size w w' → Calls Tryz.prog 29 #[.string l[k].n, .string s] w' fun e w'' => e = .returned (.bool (sameL l[k].n.data.toList s.data.toList)) ∧ Below w'.heap.size w' w'') := fun k h w' h' => same_any _ _ w' (hn _ (List.getElem_mem h)) hs (Utf8Tabs_below hT h')
  clear hr hn hT
  go_enter Tryz.func26, Tryz.ntmps26
  go_wp2_with fail
  go_loopw [5, 10] (fun r i wr => r = .bool false ∧ ∃ k : Nat, k ≤ l.length ∧ i = .int .i64 (k : Int) ∧ Hid (∀ (j : Nat) (h : j < l.length), j < k → sameL l[j].n.data.toList s.data.toList = false) ∧ wr.heap[w.heap.size]? = some (.cells #[.string ⟨#[]⟩, .int .i64 0, .bool false] 48) ∧ Below w.heap.size w wr) (fun _ i _ => l.length - (intOf i).toNat)
  case atStart => exact ⟨rfl, 0, Nat.zero_le _, rfl, fun j h hj => absurd hj (Nat.not_lt_zero _), new_at _ _, al_b _ _⟩
  case round =>
    obtain ⟨rfl, k, hk, rfl, HO, hZ, hB⟩ := hrel
    by_cases hlk : k < l.length
    · have dk : decide ((k : Int) < l.length) = true := by simp; omega
      obtain ⟨b, off, rfl, hlt, hcap, hc⟩ := f_at (HR.out.below hB) (by omega)
      obtain ⟨ck0, ck1, ck2⟩ := hc k hlk
      have hAl := al_b wr (.cells #[.string l[k].n, .int .i64 l[k].k, .bool l[k].m] 48)
      have hzl : w.heap.size < wr.heap.size := (Array.getElem?_eq_some_iff.1 hZ).1
      have hB1 := hB.trans (hAl.mono hB.size)
      have HSk : Hid (Calls Tryz.prog 29 #[.string l[k].n, .string s] (wr.alloc (.cells #[.string l[k].n, .int .i64 l[k].k, .bool l[k].m] 48)) fun e w'' => e = .returned (.bool (sameL l[k].n.data.toList s.data.toList)) ∧ Below (wr.alloc (.cells #[.string l[k].n, .int .i64 l[k].k, .bool l[k].m] 48)).heap.size (wr.alloc (.cells #[.string l[k].n, .int .i64 l[k].k, .bool l[k].m] 48)) w'') := HS.out k hlk _ hB1
      have HN : Hid (∀ w', Below (wr.alloc (.cells #[.string l[k].n, .int .i64 l[k].k, .bool l[k].m] 48)).heap.size (wr.alloc (.cells #[.string l[k].n, .int .i64 l[k].k, .bool l[k].m] 48)) w' → w'.heap[w.heap.size]? = some (.cells #[.string ⟨#[]⟩, .int .i64 0, .bool false] 48) ∧ w'.heap[wr.heap.size]? = some (.cells #[.string l[k].n, .int .i64 l[k].k, .bool l[k].m] 48) ∧ Below w.heap.size w w') := fun w' h =>
        ⟨(h.block _ (Nat.lt_of_lt_of_le hzl hAl.size)).trans ((hAl.block _ hzl).trans hZ), (h.block _ (by simp)).trans (new_at _ _), hB1.trans (h.mono hB1.size)⟩
      cases hsm : sameL l[k].n.data.toList s.data.toList with
      | true =>
        have HY : Hid (getF l s = some l[k]) := getF_at hlk HO.out hsm
        rw [hsm] at HSk
        generalize l[k]'hlk = x at *
        obtain ⟨n, kk, m⟩ := x
        clear hc HO hAl hB1 hsm
        go_wp2_with fail
        refine HSk.out.mono ?_
        rintro e w1 ⟨rfl, hb⟩
        obtain ⟨y0, y1, y2⟩ := HN.out w1 hb
        obtain ⟨c0, c1, c2, f0, f1, f2⟩ := z3 y0
        obtain ⟨d0, d1, d2, -, -, -⟩ := z3 y1
        have HBB : Hid (Below w.heap.size w w1) := y2
        clear hb y0 y1 y2 hB
        go_wp2
        try simp only [Exit.inBlock, Exit.then]
        refine bodyPost_ret (v := .tuple #[.agg #[.string n, .int .i64 kk, .bool m], .bool true]) ?_ rfl ⟨by rw [HY.out]; rfl, set3_b HBB.out _ _ _⟩
        rw [results_cell_tmp rfl]; go_simp
      | false =>
        have HO2 : Hid (∀ (j : Nat) (h : j < l.length), j < k + 1 → sameL l[j].n.data.toList s.data.toList = false) := fun j h hj => by
          by_cases e : j = k
          · subst e; exact hsm
          · exact HO.out j h (by omega)
        rw [hsm] at HSk
        generalize l[k]'hlk = x at *
        obtain ⟨n, kk, m⟩ := x
        clear hc HO hAl hB1 hsm
        go_wp2_with fail
        refine HSk.out.mono ?_
        rintro e w1 ⟨rfl, hb⟩
        obtain ⟨y0, y1, y2⟩ := HN.out w1 hb
        clear hb y1 hB
        go_wp2
        go_roundw
        case rel => exact ⟨rfl, k + 1, by omega, by simp, HO2, y0, y2⟩
        case measure => simp [intOf]; omega
    · have hk' : k = l.length := by omega
      subst hk'
      have dk : decide ((l.length : Int) < l.length) = false := by simp
      have HY : Hid (getF l s = none) := getF_no (fun j hj => HO.out j hj hj)
      clear HO
      have HBB : Hid (Below w.heap.size w wr) := hB
      obtain ⟨c0, c1, c2, f0, f1, f2⟩ := z3 hZ
      clear hB hZ
      go_wp2
      try simp only [Exit.inBlock, Exit.then]
      refine bodyPost_ret (v := .tuple #[.agg #[.string ⟨#[]⟩, .int .i64 0, .bool false], .bool false]) ?_ rfl ⟨by rw [HY.out]; rfl, set3_b HBB.out _ _ _⟩
      rw [results_cell_tmp rfl]; go_simp
end Go.Proofs.YtjamkfkbajhefaaGreatDoor
/- A value in a row: Index, Contains; one, another: walks. -/
namespace Go.Proofs.YtjamkfkbajhefaaGreatDoor.F
open Go.RowKit

theorem heap_set {w : World} {g : Nat} {C : Array Value} {ty : TypeId} {z : Nat × Nat} (h : w.heap[g]? = some (.cells C ty z)) (j : Nat) (v : Value) : (w.setCell ⟨g, j, none⟩ v).heap[g]? = some (.cells (C.setIfInBounds j v) ty z) := by
  show (w.heap.modify g _)[g]? = _
  rw [Array.getElem?_modify, if_pos rfl, h]
  rfl
theorem bT {a b c : World} (h1 : Below a.heap.size a b) (h2 : Below b.heap.size b c) : Below a.heap.size a c := h1.trans (h2.mono h1.size)
theorem ba_f {a b : ByteArray} (h : a.data.toList = b.data.toList) : a = b := by
  cases a; cases b
  simp only [Array.toList_inj] at h
  rw [h]
def eqV1 (x y : It) : Bool := decide (x.k = y.k) && (decide (x.n = y.n) && decide (x.s = y.s))
theorem eqV1_iff (x y : It) : eqV1 x y = true ↔ x = y := by
  obtain ⟨a, b, c⟩ := x
  obtain ⟨a', b', c'⟩ := y
  unfold eqV1
  simp only [Bool.and_eq_true, decide_eq_true_eq, It.mk.injEq]
abbrev itV (x : It) : Value := .agg #[.int .i64 x.k, .int .i64 x.n, .string x.s]
/-- Where a value stands. -/
def ixV : List It → It → Nat → Int
  | [], _, _ => -1
  | y :: L, x, k => if eqV1 x y then (k : Int) else ixV L x (k + 1)
def inV (L : List It) (x : It) : Bool := L.any fun y => eqV1 x y
theorem ixV_at : ∀ {L : List It} {x : It} {k j : Nat} (h : j < L.length), eqV1 x L[j] = true → (∀ i (hi : i < L.length), i < j → eqV1 x L[i] = false) → ixV L x k = ((k + j : Nat) : Int)
  | [], _, _, _, h, _, _ => absurd h (by simp)
  | y :: L, x, k, 0, h, h1, h2 => by
    have : eqV1 x y = true := h1
    unfold ixV
    rw [if_pos this]
    rfl
  | y :: L, x, k, j + 1, h, h1, h2 => by
    have h0 : eqV1 x y = false := h2 0 (by simp) (by omega)
    unfold ixV
    rw [if_neg (by rw [h0]; decide), ixV_at (k := k + 1) (j := j) (by simpa using h) h1 (fun i hi hij => h2 (i + 1) (by simpa using hi) (by omega))]
    congr 1
    omega
theorem ixV_no : ∀ {L : List It} {x : It} {k : Nat}, (∀ i (hi : i < L.length), eqV1 x L[i] = false) → ixV L x k = -1
  | [], _, _, _ => rfl
  | y :: L, x, k, h => by
    have h0 : eqV1 x y = false := h 0 (by simp)
    unfold ixV
    rw [if_neg (by rw [h0]; decide)]
    exact ixV_no fun i hi => h (i + 1) (by simpa using hi)
theorem ixV_in : ∀ (L : List It) (x : It) (k : Nat), decide (0 ≤ ixV L x k) = inV L x
  | [], _, _ => rfl
  | y :: L, x, k => by
    unfold ixV inV
    rw [List.any_cons]
    by_cases h : eqV1 x y = true
    · rw [if_pos h, h, Bool.true_or]
      exact decide_eq_true (by omega)
    · rw [if_neg h, Bool.not_eq_true] at *
      rw [h, Bool.false_or]
      exact ixV_in L x (k + 1)
set_option maxRecDepth 100000 in
set_option maxHeartbeats 4000000 in
theorem indexV_any (u : Value) (l : List It) (x : It) (w : World) (hu : IsRow w 3 u l.length (itCells l)) (hl : l.length ≤ 1000000) :
    Calls Tryz.prog 118 #[u, itV x] w fun e w' => e = .returned (.int .i64 (ixV l x 0)) ∧ Below w.heap.size w w' := by
  obtain ⟨a0, c0, rfl⟩ := hu.form
  have HU : Hid (IsRow w 3 (.slice a0 l.length c0) l.length (itCells l)) := hu
  clear hu
  have HA : Hid (∀ j (h : j < l.length), eqV1 x l[j] = true → (∀ i (hi : i < l.length), i < j → eqV1 x l[i] = false) → ixV l x 0 = (j : Int)) := fun j h h1 h2 => by
    have := ixV_at (k := 0) h h1 h2
    rwa [Nat.zero_add] at this
  have HN0 : Hid ((∀ i (hi : i < l.length), eqV1 x l[i] = false) → ixV l x 0 = -1) := ixV_no
  generalize ixV l x 0 = Z at *
  obtain ⟨xk, xn, xs⟩ := x
  try dsimp only at *
  obtain ⟨w1, hw1⟩ : ∃ w1, w1 = w.alloc (.cells #[.int .i64 xk, .int .i64 xn, .string xs] 52) := ⟨_, rfl⟩
  have B1 : Hid (Below w.heap.size w w1) := by show Below _ _ _; rw [hw1]; exact al_b _ _
  have hn1 : w1.heap[w.heap.size]? = some (.cells #[.int .i64 xk, .int .i64 xn, .string xs] 52 (0, 0)) := by rw [hw1]; exact new_at _ _
  have C1 : Hid (∀ W, Below w1.heap.size w1 W → W.heap[w.heap.size]? = some (.cells #[.int .i64 xk, .int .i64 xn, .string xs] 52 (0, 0))) := fun W h => (h.block _ (Array.getElem?_eq_some_iff.1 hn1).1).trans hn1
  clear hn1
  go_enter Tryz.func118, Tryz.ntmps118
  go_wp2_with fail
  rw [← hw1]
  clear hw1
  go_loopw [5, 8] (fun _ i wr => ∃ j : Nat, j ≤ l.length ∧ i = .int .i64 (j : Int) ∧ Hid (∀ k (h : k < l.length), k < j → eqV1 ⟨xk, xn, xs⟩ l[k] = false) ∧ Hid (Below w1.heap.size w1 wr)) (fun _ i _ => l.length - (intOf i).toNat)
  case atStart => exact ⟨0, by omega, rfl, (fun k h hj => absurd hj (Nat.not_lt_zero _)), Below.refl _ _⟩
  case round =>
    obtain ⟨j, hj, rfl, HO, HB⟩ := hrel
    have HBw : Hid (Below w.heap.size w wr) := B1.out.trans (HB.out.mono B1.out.size)
    by_cases hlk : j < l.length
    · have dj : decide ((j : Int) < (l.length : Int)) = true := by simp; omega
      obtain ⟨b0, o0, hab, hlt0, -⟩ := items_at HU.out j hlk
      subst hab
      have HY : Hid (∀ W, Below w.heap.size w W → W.cell? ⟨b0, o0 + j * 3, none⟩ = some (.int .i64 l[j].k) ∧ W.cell? ⟨b0, o0 + j * 3 + 1, none⟩ = some (.int .i64 l[j].n) ∧ W.cell? ⟨b0, o0 + j * 3 + 2, none⟩ = some (.string l[j].s)) := fun W h => by
        obtain ⟨b', o', hv, -, p0, p1, p2⟩ := items_at (HU.out.below h) j hlk
        simp only [Option.some.injEq, Addr.mk.injEq] at hv
        obtain ⟨rfl, rfl, -⟩ := hv
        exact ⟨p0, p1, p2⟩
      have q1 : (0 : Int) ≤ (j : Int) := by omega
      have q2 : (j : Int) < (l.length : Int) := by omega
      have HZ : Hid (eqV1 ⟨xk, xn, xs⟩ l[j] = true → Z = (j : Int)) := fun h => HA.out j hlk h fun i hi hij => HO.out i hi hij
      have HO2 : Hid (eqV1 ⟨xk, xn, xs⟩ l[j] = false → ∀ k (h : k < l.length), k < j + 1 → eqV1 ⟨xk, xn, xs⟩ l[k] = false) := fun hs k h hk => by
        by_cases e : k = j
        · subst e; exact hs
        · exact HO.out k h (by omega)
      generalize l[j]'hlk = y at *
      obtain ⟨yk, yn, ys⟩ := y
      dsimp only at *
      clear HO
      cases hq : eqV1 ⟨xk, xn, xs⟩ ⟨yk, yn, ys⟩ with
      | true =>
        have HZ2 : Hid (Z = (j : Int)) := HZ.out hq
        have he := (eqV1_iff _ _).1 hq
        simp only [It.mk.injEq] at he
        obtain ⟨rfl, rfl, rfl⟩ := he
        have HE : Hid (World → True) := fun _ => trivial
        clear hq HZ HO2 HA HN0
        go_wp2_with fail
        refine wp_region_quiet (C := fun w' => Below w.heap.size w w' ∧ Below w1.heap.size w1 w') (by kernel_rfl) (by kernel_rfl) ⟨HBw.out.drew, HB.out.drew⟩ ?_
        dsimp only
        repeat (first
          | go_big_quiet_skip
          | (go_big_quiet_want
             apply Exists.intro
             refine ⟨fun W' hW' => ?_, ?_⟩
             · obtain ⟨hw, hw1⟩ : Below w.heap.size w W' ∧ Below w1.heap.size w1 W' := hW'
               obtain ⟨g0, g1, g2⟩ := HY.out W' hw
               have hk := C1.out W' hw1
               have k0 : W'.cell? ⟨w.heap.size, 0, none⟩ = some (.int .i64 xk) := by rw [Lib.cell_of_heap hk]; rfl
               have k1 : W'.cell? ⟨w.heap.size, 1, none⟩ = some (.int .i64 xn) := by rw [Lib.cell_of_heap hk]; rfl
               have k2 : W'.cell? ⟨w.heap.size, 2, none⟩ = some (.string xs) := by rw [Lib.cell_of_heap hk]; rfl
               clear hk
               go_simp
               first
                 | done
                 | rfl
                 | (rw [HE.out W']; exact ⟨rfl, rfl⟩)
             go_big_quiet_on
             try simp only [Act.put, List.setIfInBounds_toArray, List.set_cons_zero, List.set_cons_succ]))
        refine wpQuiet_nil ?_
        intro w2 hqw2
        have H2 : Hid (Below w.heap.size w w2) := hqw2.1
        have H3 : Hid (Below w1.heap.size w1 w2) := hqw2.2
        clear hqw2
        go_wp2
        go_ret
        exact ⟨by rw [HZ2.out]; rfl, H2.out⟩
      | false =>
        have HO4 := HO2.out hq
        have HO5 : Hid (∀ k (h : k < l.length), k < j + 1 → eqV1 ⟨xk, xn, xs⟩ l[k] = false) := HO4
        have hne : ¬ (xk = yk ∧ xn = yn ∧ xs.toList = ys.toList) := fun h => by
          obtain ⟨rfl, rfl, h4⟩ := h
          rw [ByteArray.toList_eq, ByteArray.toList_eq] at h4
          obtain rfl : xs = ys := ba_f h4
          rw [(eqV1_iff _ _).2 rfl] at hq
          cases hq
        have HE : Hid (∀ W : World, (if xk = yk then if xn = yn then if xs.toList = ys.toList then Result.ok (Next.value (Value.bool true)) W else Result.ok (Next.value (Value.bool false)) W else Result.ok (Next.value (Value.bool false)) W else Result.ok (Next.value (Value.bool false)) W) = (Result.ok (Next.value (Value.bool false)) W : Result Next)) := fun W => by
          by_cases h1 : xk = yk
          · by_cases h2 : xn = yn
            · by_cases h4 : xs.toList = ys.toList
              · exact absurd ⟨h1, h2, h4⟩ hne
              · simp [h1, h2, h4]
            · simp [h1, h2]
          · simp [h1]
        clear hq HZ HO2 hne HO4
        go_wp2_with fail
        refine wp_region_quiet (C := fun w' => Below w.heap.size w w' ∧ Below w1.heap.size w1 w') (by kernel_rfl) (by kernel_rfl) ⟨HBw.out.drew, HB.out.drew⟩ ?_
        dsimp only
        repeat (first
          | go_big_quiet_skip
          | (go_big_quiet_want
             apply Exists.intro
             refine ⟨fun W' hW' => ?_, ?_⟩
             · obtain ⟨hw, hw1⟩ : Below w.heap.size w W' ∧ Below w1.heap.size w1 W' := hW'
               obtain ⟨g0, g1, g2⟩ := HY.out W' hw
               have hk := C1.out W' hw1
               have k0 : W'.cell? ⟨w.heap.size, 0, none⟩ = some (.int .i64 xk) := by rw [Lib.cell_of_heap hk]; rfl
               have k1 : W'.cell? ⟨w.heap.size, 1, none⟩ = some (.int .i64 xn) := by rw [Lib.cell_of_heap hk]; rfl
               have k2 : W'.cell? ⟨w.heap.size, 2, none⟩ = some (.string xs) := by rw [Lib.cell_of_heap hk]; rfl
               clear hk
               go_simp
               first
                 | done
                 | rfl
                 | (rw [HE.out W']; exact ⟨rfl, rfl⟩)
             go_big_quiet_on
             try simp only [Act.put, List.setIfInBounds_toArray, List.set_cons_zero, List.set_cons_succ]))
        refine wpQuiet_nil ?_
        intro w2 hqw2
        have H2 : Hid (Below w.heap.size w w2) := hqw2.1
        have H3 : Hid (Below w1.heap.size w1 w2) := hqw2.2
        clear hqw2
        go_wp2
        go_roundw
        case rel => exact ⟨j + 1, by omega, by simp, HO5, H3⟩
        case measure => simp [intOf]; omega
    · have dj : decide ((j : Int) < (l.length : Int)) = false := by simp; omega
      have HZ : Hid (Z = -1) := HN0.out fun i hi => HO.out i hi (by omega)
      clear HO HA HN0 HU
      go_wp2
      go_ret
      exact ⟨by rw [HZ.out]; rfl, HBw.out⟩
set_option maxRecDepth 100000 in
set_option maxHeartbeats 1000000 in
theorem containsV_any (u : Value) (l : List It) (x : It) (w : World) (hu : IsRow w 3 u l.length (itCells l)) (hl : l.length ≤ 1000000) :
    Calls Tryz.prog 91 #[u, itV x] w fun e w' => e = .returned (.bool (inV l x)) ∧ Below w.heap.size w w' := by
  obtain ⟨a0, c0, rfl⟩ := hu.form
  have HI : Hid (∀ W, Below w.heap.size w W → Calls Tryz.prog 118 #[.slice a0 l.length c0, itV x] W fun e w' => e = .returned (.int .i64 (ixV l x 0)) ∧ Below W.heap.size W w') := fun W hb => indexV_any _ l x W (hu.below hb) hl
  have HD : Hid (decide (0 ≤ ixV l x 0) = inV l x) := ixV_in l x 0
  clear hu
  generalize ixV l x 0 = Z at *
  generalize inV l x = X at *
  obtain ⟨xk, xn, xs⟩ := x
  try dsimp only at *
  obtain ⟨w1, hw1⟩ : ∃ w1, w1 = w.alloc (.cells #[.int .i64 xk, .int .i64 xn, .string xs] 52) := ⟨_, rfl⟩
  have B1 : Hid (Below w.heap.size w w1) := by show Below _ _ _; rw [hw1]; exact al_b _ _
  have hn1 : w1.heap[w.heap.size]? = some (.cells #[.int .i64 xk, .int .i64 xn, .string xs] 52 (0, 0)) := by rw [hw1]; exact new_at _ _
  have C1 : Hid (∀ W, Below w1.heap.size w1 W → W.heap[w.heap.size]? = some (.cells #[.int .i64 xk, .int .i64 xn, .string xs] 52 (0, 0))) := fun W h => (h.block _ (Array.getElem?_eq_some_iff.1 hn1).1).trans hn1
  clear hn1
  have hk := C1.out w1 (Below.refl _ _)
  have c1_0 : w1.cell? ⟨w.heap.size, 0, none⟩ = some (.int .i64 xk) := by rw [Lib.cell_of_heap hk]; rfl
  have c1_1 : w1.cell? ⟨w.heap.size, 1, none⟩ = some (.int .i64 xn) := by rw [Lib.cell_of_heap hk]; rfl
  have c1_2 : w1.cell? ⟨w.heap.size, 2, none⟩ = some (.string xs) := by rw [Lib.cell_of_heap hk]; rfl
  clear hk
  rw [hw1] at c1_0 c1_1 c1_2
  go_enter Tryz.func91, Tryz.ntmps91
  go_wp2_with fail
  rw [← hw1]
  clear hw1
  clear c1_0 c1_1 c1_2
  refine (HI.out _ B1.out).mono ?_
  rintro e w2 ⟨rfl, hb⟩
  have B2 : Hid (Below w1.heap.size w1 w2) := hb
  clear hb 
  go_wp2
  go_ret
  exact ⟨by rw [← HD.out]; rfl, (bT B1.out B2.out)⟩
end Go.Proofs.YtjamkfkbajhefaaGreatDoor.F
/- one: a walk. -/
namespace Go.Proofs.YtjamkfkbajhefaaGreatDoor.F
open Go.RowKit

theorem results_tc {fn : Func} {p q : Tmp} {ty : TypeId} (h : fn.results = #[.tmp q, .cell p ty]) (tmps : Array Value) (P : Program) (w : World) :
    (results fn tmps).run P w = ((asAddr (tmps.getD p undef)).run P w).andThen fun a w₁ => ((loadVar ty a).run P w₁).andThen fun v w₂ => .ok (.tuple #[tmps.getD q undef, v]) w₂ := by
  simp only [results, h]
  simp [Sem.run_bind, Result.andThen]
theorem Sr.setf {g : Nat} (w : World) (j : Nat) (u : Value) : Sr g w (w.setCell ⟨g, j, none⟩ u) := (Sr.refl g w).set (.inl rfl) j u
theorem row_set {w : World} {sz : Nat} {a : Option Addr} {n c : Nat} {xs : List Value} (hr : IsRow w sz (.slice a n c) n xs) {g : Nat} (hn : ∀ d, a = some d → d.block ≠ g) (j : Nat) (u : Value) : IsRow (w.setCell ⟨g, j, none⟩ u) sz (.slice a n c) n xs := (Sr.setf w j u).row hr hn
theorem row_v1 {w : World} {g : Nat} {k n : Int} {s : ByteArray} {ty : TypeId} {z : Nat × Nat} (h : w.heap[g]? = some (.cells #[.int .i64 k, .int .i64 n, .string s] ty z)) : IsRow w 3 (.slice (some ⟨g, 0, none⟩) 1 1) 1 (itCells [⟨k, n, s⟩]) := by
  refine ⟨rfl, .inr ⟨g, 0, 1, rfl, (Array.getElem?_eq_some_iff.1 h).1, Nat.le_refl _, by decide, fun j u hu => ?_⟩⟩
  rw [Nat.zero_add, Lib.cell_of_heap h]
  have e : itCells [⟨k, n, s⟩] = [.int .i64 k, .int .i64 n, .string s] := rfl
  rw [e] at hu
  rw [← hu]
  simp
def FrA (B : Nat) (a : Option Addr) : Prop := ∀ d, a = some d → B ≤ d.block
/-- The one value that is asked so, or what is wrong. -/
def oneR (o : Int) : Pc → List It × Int × Int
  | .lit p k n s => if tkB o k then ([⟨k, n, s⟩], 0, 0) else ([], p, 8)
  | x => ([], x.at, 3)
def OneQ (w0 : World) (R : Nat) (T : List Ft) (z : Int) (r : List It × Int × Int) (w : World) (e : Ending) (w' : World) : Prop := ∃ a c, e = .returned (.tuple #[.slice a r.1.length c, ftV r.2.1 r.2.2]) ∧ IsRow w' 3 (.slice a r.1.length c) r.1.length (itCells r.1) ∧ FrA w.heap.size a ∧ Sr R w w' ∧ Rd w0 R T z w'
set_option maxRecDepth 100000 in
set_option maxHeartbeats 2000000 in
theorem one_any (w0 : World) (R : Nat) (l : List Ft) (z o : Int) (w : World) (h0 : Sr R w0 w) (h : Rd w0 R l z w) (hR : R < w0.heap.size) (hl : l.length ≤ 1000000) :
    Calls Tryz.prog 127 #[.pointer (some ⟨R, 0, none⟩), .int .i64 o] w fun e w' => OneQ w0 R l.tail z (oneR o (pcF l z)) w e w' := by
  have HRl : Hid (R < w.heap.size) := Nat.lt_of_lt_of_le hR h0.size
  have HNx : Hid (∀ W, Sr R w0 W → Rd w0 R l z W → Calls Tryz.prog 66 #[.pointer (some ⟨R, 0, none⟩)] W fun e w' => e = .returned (pcF l z).v ∧ Sr R W w' ∧ Rd w0 R l.tail z w') := fun W a b => next_any w0 R l z W a b hl
  have HW : Hid (∀ (x : Pc) (c : Int) W, Calls Tryz.prog 97 #[x.v, .int .i64 c] W fun e w' => e = .returned (ftV x.at c) ∧ Below W.heap.size W w') := fun x c W => wrong_any x c W
  have HTk : Hid (∀ (k : Int) W, Calls Tryz.prog 112 #[.int .i64 o, .int .i64 k] W fun e w' => e = .returned (.bool (tkB o k)) ∧ w' = W) := fun k W => takes_any o k W
  have H0 : Hid (Sr R w0 w) := h0
  have HR0 : Hid (Rd w0 R l z w) := h
  clear h0 h hl hR
  obtain ⟨RR, HRR⟩ : ∃ RR, Hid (oneR o (pcF l z) = RR) := ⟨_, rfl⟩
  rw [HRR.out]
  generalize pcF l z = x at *
  generalize l.tail = T at *
  obtain ⟨w1, hw1⟩ : ∃ w1, w1 = w.alloc (.cells #[.int .i64 0, .int .i64 0] 83) := ⟨_, rfl⟩
  have B1 : Hid (Sr R w w1) := by show Sr _ _ _; rw [hw1]; exact Sr.of (al_f _ _)
  have hn1 : w1.heap[w.heap.size]? = some (.cells #[.int .i64 0, .int .i64 0] 83 (0, 0)) := by rw [hw1]; exact nw_at _ _
  have N1 : Hid (R < w.heap.size) := HRl.out
  have C1 : Hid (∀ W, Sr R w1 W → W.heap[w.heap.size]? = some (.cells #[.int .i64 0, .int .i64 0] 83 (0, 0))) := fun W h => h.box hn1 (Nat.ne_of_gt N1.out)
  clear hn1
  have hx1 : w1.heap.size = w.heap.size + 1 := by rw [hw1]; simp
  have HR1 : Hid (Rd w0 R l z w1) := by show Rd _ _ _ _ _; rw [hw1]; exact HR0.out.al _
  go_enter Tryz.func127, Tryz.ntmps127
  go_wp2_with fail
  rw [← hw1]
  clear hw1
  refine (HNx.out _ (H0.out.trans B1.out) HR1.out).mono ?_
  rintro e w2 ⟨rfl, hb, hrd⟩
  have B2 : Hid (Sr R w1 w2) := hb
  clear hb 
  have HR2 : Hid (Rd w0 R T z w2) := hrd
  clear hrd HNx
  cases x with
  | word p s =>
    have ha := ta_word_literal p s
    have HWx : Hid (∀ (c : Int) W, Calls Tryz.prog 97 #[.iface 156 (.agg #[.int .i64 p, .string s]), .int .i64 c] W fun e w' => e = .returned (ftV p c) ∧ Below W.heap.size W w') := fun c W => HW.out (.word p s) c W
    clear HW
    have hRe : RR = ([], p, 3) := HRR.out.symm
    subst hRe
    dsimp only [Pc.v]
    obtain ⟨w3, hw3⟩ : ∃ w3, w3 = w2.alloc (.cells #[.int .i64 0, .int .i64 0, .int .i64 0, .string ⟨#[]⟩] 159) := ⟨_, rfl⟩
    have B3 : Hid (Sr R w2 w3) := by show Sr _ _ _; rw [hw3]; exact Sr.of (al_f _ _)
    have hn3 : w3.heap[w2.heap.size]? = some (.cells #[.int .i64 0, .int .i64 0, .int .i64 0, .string ⟨#[]⟩] 159 (0, 0)) := by rw [hw3]; exact nw_at _ _
    have N3 : Hid (R < w2.heap.size) := (Nat.lt_of_lt_of_le HRl.out (B1.out.trans B2.out).size)
    have C3 : Hid (∀ W, Sr R w3 W → W.heap[w2.heap.size]? = some (.cells #[.int .i64 0, .int .i64 0, .int .i64 0, .string ⟨#[]⟩] 159 (0, 0))) := fun W h => h.box hn3 (Nat.ne_of_gt N3.out)
    clear hn3
    have HR3 : Hid (Rd w0 R T z w3) := by show Rd _ _ _ _ _; rw [hw3]; exact HR2.out.al _
    go_wp2_with fail
    rw [← hw3]
    clear hw3
    refine (HWx.out 3 w3).mono ?_
    rintro e w4 ⟨rfl, hb⟩
    have HRz : Hid (Rd w0 R T z w4) := HR3.out.below hb
    have B4 : Hid (Sr R w3 w4) := Sr.of hb
    clear hb 
    
    have hk := C1.out w4 ((B2.out.trans B3.out).trans B4.out)
    have c1_0 : w4.cell? ⟨w.heap.size, 0, none⟩ = some (.int .i64 0) := by rw [Lib.cell_of_heap hk]; rfl
    have c1_1 : w4.cell? ⟨w.heap.size, 1, none⟩ = some (.int .i64 0) := by rw [Lib.cell_of_heap hk]; rfl
    have fz1 : ∀ j, w4.frozen? ⟨w.heap.size, j, none⟩ = false := fun j => Lib.frozen_of_heap hk j
    clear hk
    go_wp2
    refine bodyPost_ret (v := .tuple #[.slice none 0 0, ftV p 3]) ?_ rfl ⟨none, 0, rfl, IsRow.nil _ _, (fun d hd => by cases hd), ((((B1.out.trans B2.out).trans B3.out).trans B4.out).set (.inr (Nat.le_refl _)) 0 _).set (.inr (Nat.le_refl _)) 1 _, (HRz.out.set HRl.out 0 _).set HRl.out 1 _⟩
    rw [results_tc rfl]; go_simp
  | mark p s =>
    have ha := ta_mark_literal p s
    have HWx : Hid (∀ (c : Int) W, Calls Tryz.prog 97 #[.iface 157 (.agg #[.int .i64 p, .string s]), .int .i64 c] W fun e w' => e = .returned (ftV p c) ∧ Below W.heap.size W w') := fun c W => HW.out (.mark p s) c W
    clear HW
    have hRe : RR = ([], p, 3) := HRR.out.symm
    subst hRe
    dsimp only [Pc.v]
    obtain ⟨w3, hw3⟩ : ∃ w3, w3 = w2.alloc (.cells #[.int .i64 0, .int .i64 0, .int .i64 0, .string ⟨#[]⟩] 159) := ⟨_, rfl⟩
    have B3 : Hid (Sr R w2 w3) := by show Sr _ _ _; rw [hw3]; exact Sr.of (al_f _ _)
    have hn3 : w3.heap[w2.heap.size]? = some (.cells #[.int .i64 0, .int .i64 0, .int .i64 0, .string ⟨#[]⟩] 159 (0, 0)) := by rw [hw3]; exact nw_at _ _
    have N3 : Hid (R < w2.heap.size) := (Nat.lt_of_lt_of_le HRl.out (B1.out.trans B2.out).size)
    have C3 : Hid (∀ W, Sr R w3 W → W.heap[w2.heap.size]? = some (.cells #[.int .i64 0, .int .i64 0, .int .i64 0, .string ⟨#[]⟩] 159 (0, 0))) := fun W h => h.box hn3 (Nat.ne_of_gt N3.out)
    clear hn3
    have HR3 : Hid (Rd w0 R T z w3) := by show Rd _ _ _ _ _; rw [hw3]; exact HR2.out.al _
    go_wp2_with fail
    rw [← hw3]
    clear hw3
    refine (HWx.out 3 w3).mono ?_
    rintro e w4 ⟨rfl, hb⟩
    have HRz : Hid (Rd w0 R T z w4) := HR3.out.below hb
    have B4 : Hid (Sr R w3 w4) := Sr.of hb
    clear hb 
    
    have hk := C1.out w4 ((B2.out.trans B3.out).trans B4.out)
    have c1_0 : w4.cell? ⟨w.heap.size, 0, none⟩ = some (.int .i64 0) := by rw [Lib.cell_of_heap hk]; rfl
    have c1_1 : w4.cell? ⟨w.heap.size, 1, none⟩ = some (.int .i64 0) := by rw [Lib.cell_of_heap hk]; rfl
    have fz1 : ∀ j, w4.frozen? ⟨w.heap.size, j, none⟩ = false := fun j => Lib.frozen_of_heap hk j
    clear hk
    go_wp2
    refine bodyPost_ret (v := .tuple #[.slice none 0 0, ftV p 3]) ?_ rfl ⟨none, 0, rfl, IsRow.nil _ _, (fun d hd => by cases hd), ((((B1.out.trans B2.out).trans B3.out).trans B4.out).set (.inr (Nat.le_refl _)) 0 _).set (.inr (Nat.le_refl _)) 1 _, (HRz.out.set HRl.out 0 _).set HRl.out 1 _⟩
    rw [results_tc rfl]; go_simp
  | lit p k n s =>
    have ha := ta_literal_literal p k n s
    have HWx : Hid (∀ (c : Int) W, Calls Tryz.prog 97 #[.iface 159 (.agg #[.int .i64 p, .int .i64 k, .int .i64 n, .string s]), .int .i64 c] W fun e w' => e = .returned (ftV p c) ∧ Below W.heap.size W w') := fun c W => HW.out (.lit p k n s) c W
    clear HW
    dsimp only [Pc.v]
    obtain ⟨w3, hw3⟩ : ∃ w3, w3 = w2.alloc (.cells #[.int .i64 p, .int .i64 k, .int .i64 n, .string s] 159) := ⟨_, rfl⟩
    have B3 : Hid (Sr R w2 w3) := by show Sr _ _ _; rw [hw3]; exact Sr.of (al_f _ _)
    have hn3 : w3.heap[w2.heap.size]? = some (.cells #[.int .i64 p, .int .i64 k, .int .i64 n, .string s] 159 (0, 0)) := by rw [hw3]; exact nw_at _ _
    have N3 : Hid (R < w2.heap.size) := (Nat.lt_of_lt_of_le HRl.out (B1.out.trans B2.out).size)
    have C3 : Hid (∀ W, Sr R w3 W → W.heap[w2.heap.size]? = some (.cells #[.int .i64 p, .int .i64 k, .int .i64 n, .string s] 159 (0, 0))) := fun W h => h.box hn3 (Nat.ne_of_gt N3.out)
    clear hn3
    have HR3 : Hid (Rd w0 R T z w3) := by show Rd _ _ _ _ _; rw [hw3]; exact HR2.out.al _
    have hk := C3.out w3 (Sr.refl _ _)
    have c3_0 : w3.cell? ⟨w2.heap.size, 0, none⟩ = some (.int .i64 p) := by rw [Lib.cell_of_heap hk]; rfl
    have c3_1 : w3.cell? ⟨w2.heap.size, 1, none⟩ = some (.int .i64 k) := by rw [Lib.cell_of_heap hk]; rfl
    have c3_2 : w3.cell? ⟨w2.heap.size, 2, none⟩ = some (.int .i64 n) := by rw [Lib.cell_of_heap hk]; rfl
    have c3_3 : w3.cell? ⟨w2.heap.size, 3, none⟩ = some (.string s) := by rw [Lib.cell_of_heap hk]; rfl
    clear hk
    rw [hw3] at c3_0 c3_1 c3_2 c3_3
    go_wp2_with fail
    rw [← hw3]
    clear hw3
    refine (HTk.out k _).mono ?_
    rintro e w9 ⟨rfl, hw9⟩
    obtain rfl := hw9.symm
    have hRR : RR = if tkB o k then ([⟨k, n, s⟩], 0, 0) else ([], p, 8) := HRR.out.symm
    clear HTk HRR
    generalize tkB o k = X at *
    cases X
    · skip
      obtain rfl : RR = ([], p, 8) := hRR
      clear c3_0 c3_1 c3_2 c3_3
      go_wp2_with fail
      refine (HWx.out 8 w3).mono ?_
      rintro e w4 ⟨rfl, hb⟩
      have HRz : Hid (Rd w0 R T z w4) := HR3.out.below hb
      have B4 : Hid (Sr R w3 w4) := Sr.of hb
      clear hb 
      have hk := C1.out w4 ((B2.out.trans B3.out).trans B4.out)
      have c1_0 : w4.cell? ⟨w.heap.size, 0, none⟩ = some (.int .i64 0) := by rw [Lib.cell_of_heap hk]; rfl
      have c1_1 : w4.cell? ⟨w.heap.size, 1, none⟩ = some (.int .i64 0) := by rw [Lib.cell_of_heap hk]; rfl
      have fz1 : ∀ j, w4.frozen? ⟨w.heap.size, j, none⟩ = false := fun j => Lib.frozen_of_heap hk j
      clear hk
      go_wp2
      refine bodyPost_ret (v := .tuple #[.slice none 0 0, ftV p 8]) ?_ rfl ⟨none, 0, rfl, IsRow.nil _ _, (fun d hd => by cases hd), ((((B1.out.trans B2.out).trans B3.out).trans B4.out).set (.inr (Nat.le_refl _)) 0 _).set (.inr (Nat.le_refl _)) 1 _, (HRz.out.set HRl.out 0 _).set HRl.out 1 _⟩
      rw [results_tc rfl]; go_simp
    · obtain rfl : RR = ([⟨k, n, s⟩], 0, 0) := hRR
      clear c3_0 c3_1 c3_2 c3_3
      have hk := C3.out w3 (Sr.refl _ _)
      have c3_0 : w3.cell? ⟨w2.heap.size, 0, none⟩ = some (.int .i64 p) := by rw [Lib.cell_of_heap hk]; rfl
      have c3_1 : w3.cell? ⟨w2.heap.size, 1, none⟩ = some (.int .i64 k) := by rw [Lib.cell_of_heap hk]; rfl
      have c3_2 : w3.cell? ⟨w2.heap.size, 2, none⟩ = some (.int .i64 n) := by rw [Lib.cell_of_heap hk]; rfl
      have c3_3 : w3.cell? ⟨w2.heap.size, 3, none⟩ = some (.string s) := by rw [Lib.cell_of_heap hk]; rfl
      clear hk
      obtain ⟨w4, hw4⟩ : ∃ w4, w4 = w3.alloc (.cells #[.int .i64 k, .int .i64 n, .string s] 52) := ⟨_, rfl⟩
      have B4 : Hid (Sr R w3 w4) := by show Sr _ _ _; rw [hw4]; exact Sr.of (al_f _ _)
      have hn4 : w4.heap[w3.heap.size]? = some (.cells #[.int .i64 k, .int .i64 n, .string s] 52 (0, 0)) := by rw [hw4]; exact nw_at _ _
      have N4 : Hid (R < w3.heap.size) := (Nat.lt_of_lt_of_le HRl.out ((B1.out.trans B2.out).trans B3.out).size)
      have C4 : Hid (∀ W, Sr R w4 W → W.heap[w3.heap.size]? = some (.cells #[.int .i64 k, .int .i64 n, .string s] 52 (0, 0))) := fun W h => h.box hn4 (Nat.ne_of_gt N4.out)
      clear hn4
      have hk := C1.out w4 ((B2.out.trans B3.out).trans B4.out)
      have c1_0 : w4.cell? ⟨w.heap.size, 0, none⟩ = some (.int .i64 0) := by rw [Lib.cell_of_heap hk]; rfl
      have c1_1 : w4.cell? ⟨w.heap.size, 1, none⟩ = some (.int .i64 0) := by rw [Lib.cell_of_heap hk]; rfl
      have fz1 : ∀ j, w4.frozen? ⟨w.heap.size, j, none⟩ = false := fun j => Lib.frozen_of_heap hk j
      clear hk
      have HR4 : Hid (Rd w0 R T z w4) := by show Rd _ _ _ _ _; rw [hw4]; exact HR3.out.al _
      have hr4 : IsRow w4 3 (.slice (some ⟨w3.heap.size, 0, none⟩) 1 1) 1 (itCells [⟨k, n, s⟩]) := row_v1 (C4.out _ (Sr.refl _ _))
      have hlt : w.heap.size < w3.heap.size := Nat.lt_of_lt_of_le (by rw [hx1]; exact Nat.lt_succ_self _) (B2.out.trans B3.out).size
      have hne : ∀ d, (some (⟨w3.heap.size, 0, none⟩ : Addr)) = some d → d.block ≠ w.heap.size := fun d hd => by cases hd; exact Nat.ne_of_gt hlt
      have HE : Hid (OneQ w0 R T z ([⟨k, n, s⟩], 0, 0) w (.returned (.tuple #[.slice (some ⟨w3.heap.size, 0, none⟩) 1 1, ftV 0 0])) ((w4.setCell ⟨w.heap.size, 0, none⟩ (.int .i64 0)).setCell ⟨w.heap.size, 1, none⟩ (.int .i64 0))) :=
        ⟨_, _, rfl, row_set (row_set hr4 hne 0 _) hne 1 _, fun d hd => by cases hd; exact Nat.le_of_lt hlt, ((((B1.out.trans B2.out).trans B3.out).trans B4.out).set (.inr (Nat.le_refl _)) 0 _).set (.inr (Nat.le_refl _)) 1 _, (HR4.out.set HRl.out 0 _).set HRl.out 1 _⟩
      clear hr4 hlt hne
      rw [hw4] at c1_0 c1_1 fz1
      rw [hw4] at HE
      clear hw4
      go_wp2
      refine bodyPost_ret (v := .tuple #[.slice (some ⟨w3.heap.size, 0, none⟩) 1 1, ftV 0 0]) ?_ rfl HE.out
      rw [results_tc rfl]; go_simp
  | fin p =>
    have ha := ta_end_literal p
    have HWx : Hid (∀ (c : Int) W, Calls Tryz.prog 97 #[.iface 154 (.agg #[.int .i64 p]), .int .i64 c] W fun e w' => e = .returned (ftV p c) ∧ Below W.heap.size W w') := fun c W => HW.out (.fin p) c W
    clear HW
    have hRe : RR = ([], p, 3) := HRR.out.symm
    subst hRe
    dsimp only [Pc.v]
    obtain ⟨w3, hw3⟩ : ∃ w3, w3 = w2.alloc (.cells #[.int .i64 0, .int .i64 0, .int .i64 0, .string ⟨#[]⟩] 159) := ⟨_, rfl⟩
    have B3 : Hid (Sr R w2 w3) := by show Sr _ _ _; rw [hw3]; exact Sr.of (al_f _ _)
    have hn3 : w3.heap[w2.heap.size]? = some (.cells #[.int .i64 0, .int .i64 0, .int .i64 0, .string ⟨#[]⟩] 159 (0, 0)) := by rw [hw3]; exact nw_at _ _
    have N3 : Hid (R < w2.heap.size) := (Nat.lt_of_lt_of_le HRl.out (B1.out.trans B2.out).size)
    have C3 : Hid (∀ W, Sr R w3 W → W.heap[w2.heap.size]? = some (.cells #[.int .i64 0, .int .i64 0, .int .i64 0, .string ⟨#[]⟩] 159 (0, 0))) := fun W h => h.box hn3 (Nat.ne_of_gt N3.out)
    clear hn3
    have HR3 : Hid (Rd w0 R T z w3) := by show Rd _ _ _ _ _; rw [hw3]; exact HR2.out.al _
    go_wp2_with fail
    rw [← hw3]
    clear hw3
    refine (HWx.out 3 w3).mono ?_
    rintro e w4 ⟨rfl, hb⟩
    have HRz : Hid (Rd w0 R T z w4) := HR3.out.below hb
    have B4 : Hid (Sr R w3 w4) := Sr.of hb
    clear hb 
    
    have hk := C1.out w4 ((B2.out.trans B3.out).trans B4.out)
    have c1_0 : w4.cell? ⟨w.heap.size, 0, none⟩ = some (.int .i64 0) := by rw [Lib.cell_of_heap hk]; rfl
    have c1_1 : w4.cell? ⟨w.heap.size, 1, none⟩ = some (.int .i64 0) := by rw [Lib.cell_of_heap hk]; rfl
    have fz1 : ∀ j, w4.frozen? ⟨w.heap.size, j, none⟩ = false := fun j => Lib.frozen_of_heap hk j
    clear hk
    go_wp2
    refine bodyPost_ret (v := .tuple #[.slice none 0 0, ftV p 3]) ?_ rfl ⟨none, 0, rfl, IsRow.nil _ _, (fun d hd => by cases hd), ((((B1.out.trans B2.out).trans B3.out).trans B4.out).set (.inr (Nat.le_refl _)) 0 _).set (.inr (Nat.le_refl _)) 1 _, (HRz.out.set HRl.out 0 _).set HRl.out 1 _⟩
    rw [results_tc rfl]; go_simp
end Go.Proofs.YtjamkfkbajhefaaGreatDoor.F
