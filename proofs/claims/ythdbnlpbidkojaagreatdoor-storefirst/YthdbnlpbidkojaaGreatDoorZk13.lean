/- Forests joined: plainly; cmp.Compare of ints, cmp.Or of three, forest.Order, earlier: walks. -/
import Derived.Test.YthdbnlpbidkojaaGreatDoorZk10
import Derived.Test.YthdbnlpbidkojaaGreatDoorZk9
namespace Go.Proofs.YthdbnlpbidkojaaGreatDoor
open Go.RowKit Go.ChangeMaps

def ordI (a b : Int) : Int := if a < b then -1 else if b < a then 1 else 0
def or3 (a b c : Int) : Int := if a = 0 then (if b = 0 then c else b) else a
/-- How the makers of two types stand. -/
def ordY (x y : Ty) : Int := or3 (ordI x.nd y.nd) (ordI x.lf y.lf) (ordI x.sq y.sq)
theorem ordI_zero {a b : Int} : ordI a b = 0 ↔ a = b := by
  unfold ordI
  constructor
  · intro h
    split at h
    · cases h
    · split at h
      · cases h
      · omega
  · rintro rfl
    rw [if_neg (by omega), if_neg (by omega)]
theorem ordI_anti (a b : Int) : ordI a b = - ordI b a := by
  unfold ordI
  by_cases h1 : a < b
  · have h2 : ¬ b < a := by omega
    simp [h1, h2]
  · by_cases h2 : b < a
    · simp [h1, h2]
    · simp [h1, h2]
theorem or3_zero {a b c : Int} : or3 a b c = 0 ↔ a = 0 ∧ b = 0 ∧ c = 0 := by
  unfold or3
  constructor
  · intro h
    split at h
    · split at h
      · exact ⟨by assumption, by assumption, h⟩
      · exact absurd h (by assumption)
    · exact absurd h (by assumption)
  · rintro ⟨rfl, rfl, rfl⟩
    rfl
theorem ordY_zero {x y : Ty} : ordY x y = 0 ↔ x.nd = y.nd ∧ x.lf = y.lf ∧ x.sq = y.sq := by
  unfold ordY
  rw [or3_zero, ordI_zero, ordI_zero, ordI_zero]
theorem ordY_anti (x y : Ty) : ordY x y = - ordY y x := by
  unfold ordY or3
  rw [ordI_anti x.nd y.nd, ordI_anti x.lf y.lf, ordI_anti x.sq y.sq]
  generalize ordI y.nd x.nd = a
  generalize ordI y.lf x.lf = b
  generalize ordI y.sq x.sq = c
  by_cases h1 : a = 0
  · rw [if_pos (by omega), if_pos h1]
    by_cases h2 : b = 0
    · rw [if_pos (by omega), if_pos h2]
    · rw [if_neg (by omega), if_neg h2]
  · rw [if_neg (by omega), if_neg h1]
/-- The one that was made first. -/
def earl (x y : LT) : LT := if ordY y.t x.t < 0 then y else x
def earT (x y : Ty) : Ty := if ordY y x < 0 then y else x
theorem earl_t (x y : LT) : (earl x y).t = earT x.t y.t := by
  unfold earl earT
  split <;> rfl
/-- Two rows of types by their names. -/
def jnL : List LT → List LT → List LT
  | [], b => b
  | x :: a, [] => x :: a
  | x :: a, y :: b => if nmC x.t y.t.n < 0 then x :: jnL a (y :: b) else if 0 < nmC x.t y.t.n then y :: jnL (x :: a) b else earl x y :: jnL a b
termination_by a b => a.length + b.length
def jnT : List Ty → List Ty → List Ty
  | [], b => b
  | x :: a, [] => x :: a
  | x :: a, y :: b => if nmC x y.n < 0 then x :: jnT a (y :: b) else if 0 < nmC x y.n then y :: jnT (x :: a) b else earT x y :: jnT a b
termination_by a b => a.length + b.length
theorem jnT_nil (a : List Ty) : jnT a [] = a := by
  cases a <;> simp [jnT]
theorem jnL_nil (a : List LT) : jnL a [] = a := by
  cases a <;> simp [jnL]
theorem jn_tys (a b : List LT) : tys (jnL a b) = jnT (tys a) (tys b) := by
  induction a, b using jnL.induct with
  | case1 b => simp [jnL, jnT, tys]
  | case2 x a => simp [jnL, jnT, tys]
  | case3 x a y b h ih =>
    have e : tys (x :: a) = x.t :: tys a := rfl
    have e2 : tys (y :: b) = y.t :: tys b := rfl
    rw [jnL, if_pos h, e, e2, jnT, if_pos h, ← e2, ← ih]
    rfl
  | case4 x a y b h1 h2 ih =>
    have e : tys (x :: a) = x.t :: tys a := rfl
    have e2 : tys (y :: b) = y.t :: tys b := rfl
    rw [jnL, if_neg h1, if_pos h2, e, e2, jnT, if_neg h1, if_pos h2, ← e, ← ih]
    rfl
  | case5 x a y b h1 h2 ih =>
    have e : tys (x :: a) = x.t :: tys a := rfl
    have e2 : tys (y :: b) = y.t :: tys b := rfl
    rw [jnL, if_neg h1, if_neg h2, e, e2, jnT, if_neg h1, if_neg h2, ← ih, ← earl_t]
    rfl
theorem nmC_self (x : Ty) : nmC x x.n = 0 := cmpL_irr _
theorem earT_self (x : Ty) : earT x x = x := by
  unfold earT
  split <;> rfl
theorem jn_self : ∀ a : List Ty, jnT a a = a
  | [] => by simp [jnT]
  | x :: a => by
    rw [jnT, if_neg (by rw [nmC_self]; omega), if_neg (by rw [nmC_self]; omega), earT_self, jn_self a]
theorem jn_comm (a b : List Ty) : (∀ x ∈ a, ∀ y ∈ b, nmC x y.n = 0 → ordY x y = 0 → x = y) → jnT a b = jnT b a := by
  induction a, b using jnT.induct with
  | case1 b => intro _; rw [jnT_nil]; simp [jnT]
  | case2 x a => intro _; rw [jnT_nil]; simp [jnT]
  | case3 x a y b h ih =>
    intro hp
    have h' : nmC y x.n = - nmC x y.n := cmpL_anti _ _
    rw [jnT, if_pos h, jnT, if_neg (by omega), if_pos (by omega), ih (fun u hu v hv => hp u (by simp [hu]) v hv)]
  | case4 x a y b h1 h2 ih =>
    intro hp
    have h' : nmC y x.n = - nmC x y.n := cmpL_anti _ _
    rw [jnT, if_neg h1, if_pos h2, jnT, if_pos (by omega), ih (fun u hu v hv => hp u hu v (by simp [hv]))]
  | case5 x a y b h1 h2 ih =>
    intro hp
    have h' : nmC y x.n = - nmC x y.n := cmpL_anti _ _
    have h0 : nmC x y.n = 0 := by omega
    rw [jnT, if_neg h1, if_neg h2, jnT, if_neg (by omega), if_neg (by omega), ih (fun u hu v hv => hp u (by simp [hu]) v (by simp [hv]))]
    congr 1
    unfold earT
    have ha := ordY_anti x y
    by_cases g1 : ordY y x < 0
    · rw [if_pos g1, if_neg (by omega)]
    · rw [if_neg g1]
      by_cases g2 : ordY x y < 0
      · rw [if_pos g2]
      · rw [if_neg g2]
        exact hp x (by simp) y (by simp) h0 (by omega)
theorem jn_again (a b : List Ty) : jnT (jnT a b) b = jnT a b := by
  induction a, b using jnT.induct with
  | case1 b => rw [show jnT [] b = b by simp [jnT], jn_self]
  | case2 x a => rw [jnT_nil, jnT_nil]
  | case3 x a y b h ih => rw [jnT, if_pos h, jnT, if_pos h, ih]
  | case4 x a y b h1 h2 ih =>
    rw [jnT, if_neg h1, if_pos h2, jnT, if_neg (by rw [nmC_self]; omega), if_neg (by rw [nmC_self]; omega), earT_self, ih]
  | case5 x a y b h1 h2 ih =>
    have h0 : nmC x y.n = 0 := by omega
    rw [jnT, if_neg h1, if_neg h2]
    have he : nmC (earT x y) y.n = 0 := by
      unfold earT
      split
      · exact nmC_self y
      · exact h0
    rw [jnT, if_neg (by omega), if_neg (by omega), ih]
    congr 1
    unfold earT
    by_cases g : ordY y x < 0
    · rw [if_pos g]; split <;> rfl
    · rw [if_neg g, if_neg g]
theorem jn_len (a b : List LT) : (jnL a b).length ≤ a.length + b.length := by
  induction a, b using jnL.induct with
  | case1 b => simp [jnL]
  | case2 x a => simp [jnL]
  | case3 x a y b h ih => rw [jnL, if_pos h]; simp at ih ⊢; omega
  | case4 x a y b h1 h2 ih => rw [jnL, if_neg h1, if_pos h2]; simp at ih ⊢; omega
  | case5 x a y b h1 h2 ih => rw [jnL, if_neg h1, if_neg h2]; simp at ih ⊢; omega
theorem jn_mem (a b : List LT) : ∀ z ∈ jnL a b, z ∈ a ∨ z ∈ b := by
  induction a, b using jnL.induct with
  | case1 b => intro z hz; rw [show jnL [] b = b by simp [jnL]] at hz; exact .inr hz
  | case2 x a => intro z hz; rw [jnL_nil] at hz; exact .inl hz
  | case3 x a y b h ih =>
    intro z hz
    rw [jnL, if_pos h] at hz
    rcases List.mem_cons.1 hz with rfl | hz
    · exact .inl (by simp)
    · rcases ih z hz with h | h
      · exact .inl (by simp [h])
      · exact .inr h
  | case4 x a y b h1 h2 ih =>
    intro z hz
    rw [jnL, if_neg h1, if_pos h2] at hz
    rcases List.mem_cons.1 hz with rfl | hz
    · exact .inr (by simp)
    · rcases ih z hz with h | h
      · exact .inl h
      · exact .inr (by simp [h])
  | case5 x a y b h1 h2 ih =>
    intro z hz
    rw [jnL, if_neg h1, if_neg h2] at hz
    rcases List.mem_cons.1 hz with rfl | hz
    · unfold earl
      split
      · exact .inr (by simp)
      · exact .inl (by simp)
    · rcases ih z hz with h | h
      · exact .inl (by simp [h])
      · exact .inr (by simp [h])
theorem nanJ (x : Int) (w : World) : Calls Tryz.prog 83 #[.int .i64 x] w fun e w' => e = .returned (.bool false) ∧ w' = w := by
  go_enter Tryz.func83, Tryz.ntmps83
  go_wp2
  go_ret
  exact ⟨by simp, rfl⟩
set_option maxHeartbeats 1000000 in
theorem compI (a b : Int) (w : World) :
    Calls Tryz.prog 52 #[.int .i64 a, .int .i64 b] w fun e w' => e = .returned (.int .i64 (ordI a b)) ∧ w' = w := by
  by_cases h1 : a < b
  · have e : ordI a b = -1 := if_pos h1
    rw [e]
    go_enter Tryz.func52, Tryz.ntmps52
    go_wp2_with (go_at_call 83; refine (nanJ _ _).mono ?_; rintro e w' ⟨rfl, rfl⟩)
    go_ret
    exact ⟨rfl, rfl⟩
  · by_cases h2 : b < a
    · have e : ordI a b = 1 := by rw [ordI, if_neg h1, if_pos h2]
      rw [e]
      go_enter Tryz.func52, Tryz.ntmps52
      go_wp2_with (go_at_call 83; refine (nanJ _ _).mono ?_; rintro e w' ⟨rfl, rfl⟩)
      go_ret
      exact ⟨rfl, rfl⟩
    · have e : ordI a b = 0 := by rw [ordI, if_neg h1, if_neg h2]
      rw [e]
      go_enter Tryz.func52, Tryz.ntmps52
      go_wp2_with (go_at_call 83; refine (nanJ _ _).mono ?_; rintro e w' ⟨rfl, rfl⟩)
      go_ret
      exact ⟨rfl, rfl⟩
set_option maxRecDepth 100000 in
set_option maxHeartbeats 1000000 in
theorem or3_any (g : Nat) (a b c : Int) (w : World) (h0 : w.cell? ⟨g, 0, none⟩ = some (.int .i64 a)) (h1 : w.cell? ⟨g, 1, none⟩ = some (.int .i64 b)) (h2 : w.cell? ⟨g, 2, none⟩ = some (.int .i64 c)) :
    Calls Tryz.prog 51 #[.slice (some ⟨g, 0, none⟩) 3 3] w fun e w' => e = .returned (.int .i64 (or3 a b c)) ∧ w' = w := by
  have HD : Hid (or3 a b c = if a = 0 then (if b = 0 then c else b) else a) := rfl
  generalize or3 a b c = R at *
  go_enter Tryz.func51, Tryz.ntmps51
  go_wp2_with fail
  go_loopw [2, 5, 8] (fun r _ i wr => r = .int .i64 0 ∧ ∃ k : Nat, k ≤ 3 ∧ i = .int .i64 (k : Int) ∧ Hid ((0 < k → a = 0) ∧ (1 < k → b = 0) ∧ (2 < k → c = 0)) ∧ w = wr) (fun _ _ i _ => 3 - (intOf i).toNat)
  case atStart => exact ⟨rfl, 0, by omega, rfl, ⟨fun h => absurd h (by omega), fun h => absurd h (by omega), fun h => absurd h (by omega)⟩, rfl⟩
  case round =>
    obtain ⟨rfl, k, hk, rfl, HO, rfl⟩ := hrel
    obtain rfl | rfl | rfl | rfl : k = 0 ∨ k = 1 ∨ k = 2 ∨ k = 3 := by omega
    · by_cases ha : a = 0
      · rw [ha] at h0
        have HO2 : Hid ((0 < 1 → a = 0) ∧ (1 < 1 → b = 0) ∧ (2 < 1 → c = 0)) := ⟨fun _ => ha, fun h => absurd h (by omega), fun h => absurd h (by omega)⟩
        clear ha
        go_wp2
        go_roundw
        case rel => exact ⟨rfl, 1, by omega, by simp, HO2, trivial⟩
        case measure => simp [intOf]
      · have HR : Hid (R = a) := by show R = a; rw [HD.out, if_neg ha]
        have d0 : (a == 0) = false := by simp [ha]
        have d1 : (a != 0) = true := by simp [ha]
        clear HD ha
        go_wp2
        go_ret
        exact ⟨by rw [HR.out]; rfl, rfl⟩
    · have ha := HO.out.1 (by omega)
      by_cases hb : b = 0
      · rw [hb] at h1
        have HO2 : Hid ((0 < 2 → a = 0) ∧ (1 < 2 → b = 0) ∧ (2 < 2 → c = 0)) := ⟨fun _ => ha, fun _ => hb, fun h => absurd h (by omega)⟩
        clear ha hb
        go_wp2
        go_roundw
        case rel => exact ⟨rfl, 2, by omega, by simp, HO2, trivial⟩
        case measure => simp [intOf]
      · have HR : Hid (R = b) := by show R = b; rw [HD.out, if_pos ha, if_neg hb]
        have d0 : (b == 0) = false := by simp [hb]
        have d1 : (b != 0) = true := by simp [hb]
        clear HD hb ha
        go_wp2
        go_ret
        exact ⟨by rw [HR.out]; rfl, rfl⟩
    · have ha := HO.out.1 (by omega)
      have hb := HO.out.2.1 (by omega)
      by_cases hc : c = 0
      · rw [hc] at h2
        have HO2 : Hid ((0 < 3 → a = 0) ∧ (1 < 3 → b = 0) ∧ (2 < 3 → c = 0)) := ⟨fun _ => ha, fun _ => hb, fun _ => hc⟩
        clear ha hb hc
        go_wp2
        go_roundw
        case rel => exact ⟨rfl, 3, by omega, by simp, HO2, trivial⟩
        case measure => simp [intOf]
      · have HR : Hid (R = c) := by show R = c; rw [HD.out, if_pos ha, if_pos hb]
        have d0 : (c == 0) = false := by simp [hc]
        have d1 : (c != 0) = true := by simp [hc]
        clear HD hb ha hc
        go_wp2
        go_ret
        exact ⟨by rw [HR.out]; rfl, rfl⟩
    · have HR : Hid (R = 0) := by show R = 0; rw [HD.out, if_pos (HO.out.1 (by omega)), if_pos (HO.out.2.1 (by omega))]; exact HO.out.2.2 (by omega)
      clear HD HO
      go_wp2
      go_ret
      exact ⟨by rw [HR.out]; rfl, rfl⟩
/-- The two identities' cells. -/
def TwI (g : Nat) (a b c a' b' c' : Int) (w : World) : Prop := (w.cell? ⟨g, 0, none⟩ = some (.int .i64 a) ∧ w.cell? ⟨g, 1, none⟩ = some (.int .i64 b) ∧ w.cell? ⟨g, 2, none⟩ = some (.int .i64 c)) ∧ w.cell? ⟨g + 1, 0, none⟩ = some (.int .i64 a') ∧ w.cell? ⟨g + 1, 1, none⟩ = some (.int .i64 b') ∧ w.cell? ⟨g + 1, 2, none⟩ = some (.int .i64 c')
set_option maxRecDepth 100000 in
set_option maxHeartbeats 2000000 in
theorem order_any (a b c a' b' c' : Int) (w : World) : Calls Tryz.prog 19 #[idV a b c, idV a' b' c'] w fun e w' => e = .returned (.int .i64 (or3 (ordI a a') (ordI b b') (ordI c c'))) ∧ Below w.heap.size w w' := by
  obtain ⟨W0, hW0⟩ : ∃ W0, W0 = (w.alloc (.cells #[.int .i64 a, .int .i64 b, .int .i64 c] 33)).alloc (.cells #[.int .i64 a', .int .i64 b', .int .i64 c'] 33) := ⟨_, rfl⟩
  have hA : Below w.heap.size w W0 := by rw [hW0]; exact (al_b w _).trans ((al_b _ _).mono (by simp))
  have hz : W0.heap.size = w.heap.size + 2 := by rw [hW0]; simp
  have hn0 : W0.heap[w.heap.size]? = some (.cells #[.int .i64 a, .int .i64 b, .int .i64 c] 33 (0, 0)) := by
    rw [hW0]
    show ((w.heap.push _).push _)[w.heap.size]? = _
    rw [Array.getElem?_push, if_neg (by simp), Array.getElem?_push, if_pos rfl]
  have hn1 : W0.heap[w.heap.size + 1]? = some (.cells #[.int .i64 a', .int .i64 b', .int .i64 c'] 33 (0, 0)) := by
    rw [hW0]
    show ((w.heap.push _).push _)[w.heap.size + 1]? = _
    rw [Array.getElem?_push, if_pos (by simp)]
  have HX : Hid (∀ W, Below W0.heap.size W0 W → TwI w.heap.size a b c a' b' c' W) := fun W h => by
    have e : ∀ j, W.cell? ⟨w.heap.size, j, none⟩ = (#[.int .i64 a, .int .i64 b, .int .i64 c] : Array Value)[j]? := fun j => by rw [Lib.cell_of_heap ((h.block _ (by omega)).trans hn0)]
    have e2 : ∀ j, W.cell? ⟨w.heap.size + 1, j, none⟩ = (#[.int .i64 a', .int .i64 b', .int .i64 c'] : Array Value)[j]? := fun j => by rw [Lib.cell_of_heap ((h.block _ (by omega)).trans hn1)]
    exact ⟨⟨e 0, e 1, e 2⟩, e2 0, e2 1, e2 2⟩
  have HBw : Hid (∀ W, Below W0.heap.size W0 W → Below w.heap.size w W) := fun W h => hA.trans (h.mono hA.size)
  have HC : Hid (∀ (x y : Int) (w : World), Calls Tryz.prog 52 #[.int .i64 x, .int .i64 y] w fun e w' => e = .returned (.int .i64 (ordI x y)) ∧ w' = w) := fun x y w => compI x y w
  have HO : Hid (∀ (x y z : Int) (W : World), Calls Tryz.prog 51 #[.slice (some ⟨W.heap.size, 0, none⟩) 3 3] (W.alloc (.cells #[.int .i64 x, .int .i64 y, .int .i64 z] 3)) fun e w' => e = .returned (.int .i64 (or3 x y z)) ∧ w' = W.alloc (.cells #[.int .i64 x, .int .i64 y, .int .i64 z] 3)) := fun x y z W => by
    have hn := new_at W (.cells #[.int .i64 x, .int .i64 y, .int .i64 z] 3)
    exact or3_any _ x y z _ (by rw [Lib.cell_of_heap hn]; rfl) (by rw [Lib.cell_of_heap hn]; rfl) (by rw [Lib.cell_of_heap hn]; rfl)
  have HR1 : Hid (Below W0.heap.size W0 W0.drew) := (Below.refl _ _).drew
  have HAl : Hid (∀ W o, Below W0.heap.size W0 W → Below W0.heap.size W0 (W.alloc o)) := fun W o h => h.trans ((al_b _ o).mono h.size)
  clear hA hn0 hn1
  go_enter Tryz.func19, Tryz.ntmps19
  go_wp2_with fail
  rw [← hW0]
  clear hW0
  refine wp_region_held_drew (S := fun w' => TwI w.heap.size a b c a' b' c' w') (by kernel_rfl) (HX.out _ HR1.out) (fun hHeld => ?_)
  generalize W0.drew = wd at *
  refine wpAnyH_take (i := 0) (v := ?_) rfl (by kernel_rfl) (by kernel_rfl) (by kernel_rfl) (fun _ _ _ h => h) (Or.inl ⟨by rfl, ?_⟩) hHeld ?_
  rotate_left 1
  · intro w9 hSw; obtain ⟨⟨g0, g1, g2⟩, k0, k1, k2⟩ := hSw; go_simp; try with_reducible rfl
  change wpAnyH _ _ _ _ _ _ _ (Act.put _ (some 5) _) _
  simp only [Act.put, List.setIfInBounds_toArray, List.set_cons_zero, List.set_cons_succ]
  refine wpAnyH_take (i := 1) (v := ?_) rfl (by kernel_rfl) (by kernel_rfl) (by kernel_rfl) (fun _ _ _ h => h) (Or.inl ⟨by rfl, ?_⟩) hHeld ?_
  rotate_left 1
  · intro w9 hSw; obtain ⟨⟨g0, g1, g2⟩, k0, k1, k2⟩ := hSw; go_simp; try with_reducible rfl
  change wpAnyH _ _ _ _ _ _ _ (Act.put _ (some 6) _) _
  simp only [Act.put, List.setIfInBounds_toArray, List.set_cons_zero, List.set_cons_succ]
  refine wpAnyH_take (i := 2) (v := ?_) rfl (by kernel_rfl) (by kernel_rfl) (by kernel_rfl) (fun _ _ _ h => h) (Or.inl ⟨by rfl, ?_⟩) hHeld ?_
  rotate_left 1
  · intro w9 hSw; obtain ⟨⟨g0, g1, g2⟩, k0, k1, k2⟩ := hSw; go_simp; try with_reducible rfl
  change wpAnyH _ _ _ _ _ _ _ (Act.put _ (some 7) _) _
  simp only [Act.put, List.setIfInBounds_toArray, List.set_cons_zero, List.set_cons_succ]
  refine wpAnyH_take (i := 3) (v := ?_) rfl (by kernel_rfl) (by kernel_rfl) (by kernel_rfl) (fun _ _ _ h => h) (Or.inl ⟨by rfl, ?_⟩) hHeld ?_
  rotate_left 1
  · intro w9 hSw; obtain ⟨⟨g0, g1, g2⟩, k0, k1, k2⟩ := hSw; go_simp; try with_reducible rfl
  change wpAnyH _ _ _ _ _ _ _ (Act.put _ (some 8) _) _
  simp only [Act.put, List.setIfInBounds_toArray, List.set_cons_zero, List.set_cons_succ]
  refine wpAnyH_take (i := 5) (v := ?_) rfl (by kernel_rfl) (by kernel_rfl) (by kernel_rfl) (fun _ _ _ h => h) (Or.inl ⟨by rfl, ?_⟩) hHeld ?_
  rotate_left 1
  · intro w9 hSw; obtain ⟨⟨g0, g1, g2⟩, k0, k1, k2⟩ := hSw; go_simp; try with_reducible rfl
  change wpAnyH _ _ _ _ _ _ _ (Act.put _ (some 10) _) _
  simp only [Act.put, List.setIfInBounds_toArray, List.set_cons_zero, List.set_cons_succ]
  refine wpAnyH_take (i := 6) (v := ?_) rfl (by kernel_rfl) (by kernel_rfl) (by kernel_rfl) (fun _ _ _ h => h) (Or.inl ⟨by rfl, ?_⟩) hHeld ?_
  rotate_left 1
  · intro w9 hSw; obtain ⟨⟨g0, g1, g2⟩, k0, k1, k2⟩ := hSw; go_simp; try with_reducible rfl
  change wpAnyH _ _ _ _ _ _ _ (Act.put _ (some 11) _) _
  simp only [Act.put, List.setIfInBounds_toArray, List.set_cons_zero, List.set_cons_succ]
  refine wpAnyH_take (i := 7) (v := ?_) rfl (by kernel_rfl) (by kernel_rfl) (by kernel_rfl) (fun _ _ _ h => h) (Or.inl ⟨by rfl, ?_⟩) hHeld ?_
  rotate_left 1
  · intro w9 hSw; obtain ⟨⟨g0, g1, g2⟩, k0, k1, k2⟩ := hSw; go_simp; try with_reducible rfl
  change wpAnyH _ _ _ _ _ _ _ (Act.put _ (some 12) _) _
  simp only [Act.put, List.setIfInBounds_toArray, List.set_cons_zero, List.set_cons_succ]
  refine wpAnyH_take (i := 8) (v := ?_) rfl (by kernel_rfl) (by kernel_rfl) (by kernel_rfl) (fun _ _ _ h => h) (Or.inl ⟨by rfl, ?_⟩) hHeld ?_
  rotate_left 1
  · intro w9 hSw; obtain ⟨⟨g0, g1, g2⟩, k0, k1, k2⟩ := hSw; go_simp; try with_reducible rfl
  change wpAnyH _ _ _ _ _ _ _ (Act.put _ (some 13) _) _
  simp only [Act.put, List.setIfInBounds_toArray, List.set_cons_zero, List.set_cons_succ]
  refine wpAnyH_take (i := 10) (v := ?_) rfl (by kernel_rfl) (by kernel_rfl) (by kernel_rfl) (fun _ _ _ h => h) (Or.inl ⟨by rfl, ?_⟩) hHeld ?_
  rotate_left 1
  · intro w9 hSw; obtain ⟨⟨g0, g1, g2⟩, k0, k1, k2⟩ := hSw; go_simp; try with_reducible rfl
  change wpAnyH _ _ _ _ _ _ _ (Act.put _ (some 15) _) _
  simp only [Act.put, List.setIfInBounds_toArray, List.set_cons_zero, List.set_cons_succ]
  refine wpAnyH_take (i := 11) (v := ?_) rfl (by kernel_rfl) (by kernel_rfl) (by kernel_rfl) (fun _ _ _ h => h) (Or.inl ⟨by rfl, ?_⟩) hHeld ?_
  rotate_left 1
  · intro w9 hSw; obtain ⟨⟨g0, g1, g2⟩, k0, k1, k2⟩ := hSw; go_simp; try with_reducible rfl
  change wpAnyH _ _ _ _ _ _ _ (Act.put _ (some 16) _) _
  simp only [Act.put, List.setIfInBounds_toArray, List.set_cons_zero, List.set_cons_succ]
  refine wpAnyH_take (i := 12) (v := ?_) rfl (by kernel_rfl) (by kernel_rfl) (by kernel_rfl) (fun _ _ _ h => h) (Or.inl ⟨by rfl, ?_⟩) hHeld ?_
  rotate_left 1
  · intro w9 hSw; obtain ⟨⟨g0, g1, g2⟩, k0, k1, k2⟩ := hSw; go_simp; try with_reducible rfl
  change wpAnyH _ _ _ _ _ _ _ (Act.put _ (some 17) _) _
  simp only [Act.put, List.setIfInBounds_toArray, List.set_cons_zero, List.set_cons_succ]
  refine wpAnyH_take (i := 13) (v := ?_) rfl (by kernel_rfl) (by kernel_rfl) (by kernel_rfl) (fun _ _ _ h => h) (Or.inl ⟨by rfl, ?_⟩) hHeld ?_
  rotate_left 1
  · intro w9 hSw; obtain ⟨⟨g0, g1, g2⟩, k0, k1, k2⟩ := hSw; go_simp; try with_reducible rfl
  change wpAnyH _ _ _ _ _ _ _ (Act.put _ (some 18) _) _
  simp only [Act.put, List.setIfInBounds_toArray, List.set_cons_zero, List.set_cons_succ]
  refine wpAnyH_ready (rs := [4]) (by kernel_rfl) (by simp) ?_
  refine AllReadyH.cons rfl (fun K hK => ?_) AllReadyH.nil
  go_simp
  refine (HC.out _ _ _).mono ?_
  rintro e v4 ⟨rfl, rfl⟩
  go_simp
  refine hK.out _ _ (HX.out _ HR1.out) (fun hHeld => ?_)
  clear hK K
  refine wpAnyH_ready (rs := [9]) (by kernel_rfl) (by simp) ?_
  refine AllReadyH.cons rfl (fun K hK => ?_) AllReadyH.nil
  go_simp
  refine (HC.out _ _ _).mono ?_
  rintro e v4 ⟨rfl, rfl⟩
  go_simp
  refine hK.out _ _ (HX.out _ HR1.out) (fun hHeld => ?_)
  clear hK K
  refine wpAnyH_ready (rs := [14]) (by kernel_rfl) (by simp) ?_
  refine AllReadyH.cons rfl (fun K hK => ?_) AllReadyH.nil
  go_simp
  refine (HC.out _ _ _).mono ?_
  rintro e v4 ⟨rfl, rfl⟩
  go_simp
  refine hK.out _ _ (HX.out _ HR1.out) (fun hHeld => ?_)
  clear hK K
  refine wpAnyH_ready (rs := [15]) (by kernel_rfl) (by simp) ?_
  refine AllReadyH.cons rfl (fun K hK => ?_) AllReadyH.nil
  go_simp
  refine hK.out _ _ (HX.out _ (HAl.out _ _ HR1.out)) (fun hHeld => ?_)
  clear hK K
  refine wpAnyH_ready (rs := [16]) (by kernel_rfl) (by simp) ?_
  refine AllReadyH.cons rfl (fun K hK => ?_) AllReadyH.nil
  go_simp
  refine (HO.out _ _ _ _).mono ?_
  rintro e v4 ⟨rfl, rfl⟩
  go_simp
  refine hK.out _ _ (HX.out _ (HAl.out _ _ HR1.out)) (fun hHeld => ?_)
  clear hK K
  refine wpAnyH_take (i := 17) (v := ?_) rfl (by kernel_rfl) (by kernel_rfl) (by kernel_rfl) (fun _ _ _ h => h) (Or.inl ⟨by rfl, ?_⟩) hHeld ?_
  rotate_left 1
  · intro w9 hSw; obtain ⟨⟨g0, g1, g2⟩, k0, k1, k2⟩ := hSw; go_simp; try with_reducible rfl
  change wpAnyH _ _ _ _ _ _ _ (Act.put _ (some 4) _) _
  simp only [Act.put, List.setIfInBounds_toArray, List.set_cons_zero, List.set_cons_succ]
  refine wpAnyH_done (by kernel_rfl) ?_ _
  go_wp2
  go_ret
  exact ⟨rfl, HBw.out _ (HAl.out _ _ HR1.out)⟩
end Go.Proofs.YthdbnlpbidkojaaGreatDoor
