/- Forests joined: plainly; cmp.Compare of ints, cmp.Or of three, forest.Order, earlier: walks. -/
import Derived.Test.YtacpllmlpmllbaaGreatDoorZk14
import Derived.Test.YtacpllmlpmllbaaGreatDoorZk9
import Derived.Test.YtacpllmlpmllbaaGreatDoorZk18
import Derived.Test.YtacpllmlpmllbaaGreatDoorZk4
import Derived.Deep.QuietTactic
import Derived.BigQuiet
import Derived.Test.YtacpllmlpmllbaaGreatDoorZk1
import Derived.Lib.OthersKept
import Derived.Lib.FrozenHead2
namespace Go.Proofs.YtacpllmlpmllbaaGreatDoor
open Go.RowKit Go.ChangeMaps

def ordI (a b : Int) : Int := if a < b then -1 else if b < a then 1 else 0
def or3 (a b c : Int) : Int := if a = 0 then (if b = 0 then c else b) else a
/-- How the makers of two types stand. -/
def ordY (x y : Ty) : Int := or3 (ordI x.nd y.nd) (ordI x.lf y.lf) (ordI x.sq y.sq)
theorem ordI_zero {a b : Int} : ordI a b = 0 ↔ a = b := by
  unfold ordI
  constructor
  · intro h
    split at h
    · cases h
    · split at h
      · cases h
      · omega
  · rintro rfl
    rw [if_neg (by omega), if_neg (by omega)]
theorem ordI_anti (a b : Int) : ordI a b = - ordI b a := by
  unfold ordI
  by_cases h1 : a < b
  · have h2 : ¬ b < a := by omega
    simp [h1, h2]
  · by_cases h2 : b < a
    · simp [h1, h2]
    · simp [h1, h2]
theorem or3_zero {a b c : Int} : or3 a b c = 0 ↔ a = 0 ∧ b = 0 ∧ c = 0 := by
  unfold or3
  constructor
  · intro h
    split at h
    · split at h
      · exact ⟨by assumption, by assumption, h⟩
      · exact absurd h (by assumption)
    · exact absurd h (by assumption)
  · rintro ⟨rfl, rfl, rfl⟩
    rfl
theorem ordY_zero {x y : Ty} : ordY x y = 0 ↔ x.nd = y.nd ∧ x.lf = y.lf ∧ x.sq = y.sq := by
  unfold ordY
  rw [or3_zero, ordI_zero, ordI_zero, ordI_zero]
theorem ordY_anti (x y : Ty) : ordY x y = - ordY y x := by
  unfold ordY or3
  rw [ordI_anti x.nd y.nd, ordI_anti x.lf y.lf, ordI_anti x.sq y.sq]
  generalize ordI y.nd x.nd = a
  generalize ordI y.lf x.lf = b
  generalize ordI y.sq x.sq = c
  by_cases h1 : a = 0
  · rw [if_pos (by omega), if_pos h1]
    by_cases h2 : b = 0
    · rw [if_pos (by omega), if_pos h2]
    · rw [if_neg (by omega), if_neg h2]
  · rw [if_neg (by omega), if_neg h1]
/-- The one that was made first. -/
def earl (x y : LT) : LT := if ordY y.t x.t < 0 then y else x
def earT (x y : Ty) : Ty := if ordY y x < 0 then y else x
theorem earl_t (x y : LT) : (earl x y).t = earT x.t y.t := by
  unfold earl earT
  split <;> rfl
/-- Two rows of types by their names. -/
def jnL : List LT → List LT → List LT
  | [], b => b
  | x :: a, [] => x :: a
  | x :: a, y :: b => if nmC x.t y.t.n < 0 then x :: jnL a (y :: b) else if 0 < nmC x.t y.t.n then y :: jnL (x :: a) b else earl x y :: jnL a b
termination_by a b => a.length + b.length
def jnT : List Ty → List Ty → List Ty
  | [], b => b
  | x :: a, [] => x :: a
  | x :: a, y :: b => if nmC x y.n < 0 then x :: jnT a (y :: b) else if 0 < nmC x y.n then y :: jnT (x :: a) b else earT x y :: jnT a b
termination_by a b => a.length + b.length
theorem jnT_nil (a : List Ty) : jnT a [] = a := by
  cases a <;> simp [jnT]
theorem jnL_nil (a : List LT) : jnL a [] = a := by
  cases a <;> simp [jnL]
theorem jn_tys (a b : List LT) : tys (jnL a b) = jnT (tys a) (tys b) := by
  induction a, b using jnL.induct with
  | case1 b => simp [jnL, jnT, tys]
  | case2 x a => simp [jnL, jnT, tys]
  | case3 x a y b h ih =>
    have e : tys (x :: a) = x.t :: tys a := rfl
    have e2 : tys (y :: b) = y.t :: tys b := rfl
    rw [jnL, if_pos h, e, e2, jnT, if_pos h, ← e2, ← ih]
    rfl
  | case4 x a y b h1 h2 ih =>
    have e : tys (x :: a) = x.t :: tys a := rfl
    have e2 : tys (y :: b) = y.t :: tys b := rfl
    rw [jnL, if_neg h1, if_pos h2, e, e2, jnT, if_neg h1, if_pos h2, ← e, ← ih]
    rfl
  | case5 x a y b h1 h2 ih =>
    have e : tys (x :: a) = x.t :: tys a := rfl
    have e2 : tys (y :: b) = y.t :: tys b := rfl
    rw [jnL, if_neg h1, if_neg h2, e, e2, jnT, if_neg h1, if_neg h2, ← ih, ← earl_t]
    rfl
theorem nmC_self (x : Ty) : nmC x x.n = 0 := cmpL_irr _
theorem earT_self (x : Ty) : earT x x = x := by
  unfold earT
  split <;> rfl
theorem jn_self : ∀ a : List Ty, jnT a a = a
  | [] => by simp [jnT]
  | x :: a => by
    rw [jnT, if_neg (by rw [nmC_self]; omega), if_neg (by rw [nmC_self]; omega), earT_self, jn_self a]
theorem jn_comm (a b : List Ty) : (∀ x ∈ a, ∀ y ∈ b, nmC x y.n = 0 → ordY x y = 0 → x = y) → jnT a b = jnT b a := by
  induction a, b using jnT.induct with
  | case1 b => intro _; rw [jnT_nil]; simp [jnT]
  | case2 x a => intro _; rw [jnT_nil]; simp [jnT]
  | case3 x a y b h ih =>
    intro hp
    have h' : nmC y x.n = - nmC x y.n := cmpL_anti _ _
    rw [jnT, if_pos h, jnT, if_neg (by omega), if_pos (by omega), ih (fun u hu v hv => hp u (by simp [hu]) v hv)]
  | case4 x a y b h1 h2 ih =>
    intro hp
    have h' : nmC y x.n = - nmC x y.n := cmpL_anti _ _
    rw [jnT, if_neg h1, if_pos h2, jnT, if_pos (by omega), ih (fun u hu v hv => hp u hu v (by simp [hv]))]
  | case5 x a y b h1 h2 ih =>
    intro hp
    have h' : nmC y x.n = - nmC x y.n := cmpL_anti _ _
    have h0 : nmC x y.n = 0 := by omega
    rw [jnT, if_neg h1, if_neg h2, jnT, if_neg (by omega), if_neg (by omega), ih (fun u hu v hv => hp u (by simp [hu]) v (by simp [hv]))]
    congr 1
    unfold earT
    have ha := ordY_anti x y
    by_cases g1 : ordY y x < 0
    · rw [if_pos g1, if_neg (by omega)]
    · rw [if_neg g1]
      by_cases g2 : ordY x y < 0
      · rw [if_pos g2]
      · rw [if_neg g2]
        exact hp x (by simp) y (by simp) h0 (by omega)
theorem jn_again (a b : List Ty) : jnT (jnT a b) b = jnT a b := by
  induction a, b using jnT.induct with
  | case1 b => rw [show jnT [] b = b by simp [jnT], jn_self]
  | case2 x a => rw [jnT_nil, jnT_nil]
  | case3 x a y b h ih => rw [jnT, if_pos h, jnT, if_pos h, ih]
  | case4 x a y b h1 h2 ih =>
    rw [jnT, if_neg h1, if_pos h2, jnT, if_neg (by rw [nmC_self]; omega), if_neg (by rw [nmC_self]; omega), earT_self, ih]
  | case5 x a y b h1 h2 ih =>
    have h0 : nmC x y.n = 0 := by omega
    rw [jnT, if_neg h1, if_neg h2]
    have he : nmC (earT x y) y.n = 0 := by
      unfold earT
      split
      · exact nmC_self y
      · exact h0
    rw [jnT, if_neg (by omega), if_neg (by omega), ih]
    congr 1
    unfold earT
    by_cases g : ordY y x < 0
    · rw [if_pos g]; split <;> rfl
    · rw [if_neg g, if_neg g]
theorem jn_len (a b : List LT) : (jnL a b).length ≤ a.length + b.length := by
  induction a, b using jnL.induct with
  | case1 b => simp [jnL]
  | case2 x a => simp [jnL]
  | case3 x a y b h ih => rw [jnL, if_pos h]; simp at ih ⊢; omega
  | case4 x a y b h1 h2 ih => rw [jnL, if_neg h1, if_pos h2]; simp at ih ⊢; omega
  | case5 x a y b h1 h2 ih => rw [jnL, if_neg h1, if_neg h2]; simp at ih ⊢; omega
theorem jn_mem (a b : List LT) : ∀ z ∈ jnL a b, z ∈ a ∨ z ∈ b := by
  induction a, b using jnL.induct with
  | case1 b => intro z hz; rw [show jnL [] b = b by simp [jnL]] at hz; exact .inr hz
  | case2 x a => intro z hz; rw [jnL_nil] at hz; exact .inl hz
  | case3 x a y b h ih =>
    intro z hz
    rw [jnL, if_pos h] at hz
    rcases List.mem_cons.1 hz with rfl | hz
    · exact .inl (by simp)
    · rcases ih z hz with h | h
      · exact .inl (by simp [h])
      · exact .inr h
  | case4 x a y b h1 h2 ih =>
    intro z hz
    rw [jnL, if_neg h1, if_pos h2] at hz
    rcases List.mem_cons.1 hz with rfl | hz
    · exact .inr (by simp)
    · rcases ih z hz with h | h
      · exact .inl h
      · exact .inr (by simp [h])
  | case5 x a y b h1 h2 ih =>
    intro z hz
    rw [jnL, if_neg h1, if_neg h2] at hz
    rcases List.mem_cons.1 hz with rfl | hz
    · unfold earl
      split
      · exact .inr (by simp)
      · exact .inl (by simp)
    · rcases ih z hz with h | h
      · exact .inl (by simp [h])
      · exact .inr (by simp [h])
theorem nanJ (x : Int) (w : World) : Calls Tryz.prog 136 #[.int .i64 x] w fun e w' => e = .returned (.bool false) ∧ w' = w := by
  go_enter Tryz.func136, Tryz.ntmps136
  go_wp2
  go_ret
  exact ⟨by simp, rfl⟩
set_option maxHeartbeats 1000000 in
theorem compI (a b : Int) (w : World) :
    Calls Tryz.prog 85 #[.int .i64 a, .int .i64 b] w fun e w' => e = .returned (.int .i64 (ordI a b)) ∧ w' = w := by
  by_cases h1 : a < b
  · have e : ordI a b = -1 := if_pos h1
    rw [e]
    go_enter Tryz.func85, Tryz.ntmps85
    go_wp2_with (go_at_call 136; refine (nanJ _ _).mono ?_; rintro e w' ⟨rfl, rfl⟩)
    go_ret
    exact ⟨rfl, rfl⟩
  · by_cases h2 : b < a
    · have e : ordI a b = 1 := by rw [ordI, if_neg h1, if_pos h2]
      rw [e]
      go_enter Tryz.func85, Tryz.ntmps85
      go_wp2_with (go_at_call 136; refine (nanJ _ _).mono ?_; rintro e w' ⟨rfl, rfl⟩)
      go_ret
      exact ⟨rfl, rfl⟩
    · have e : ordI a b = 0 := by rw [ordI, if_neg h1, if_neg h2]
      rw [e]
      go_enter Tryz.func85, Tryz.ntmps85
      go_wp2_with (go_at_call 136; refine (nanJ _ _).mono ?_; rintro e w' ⟨rfl, rfl⟩)
      go_ret
      exact ⟨rfl, rfl⟩
set_option maxRecDepth 100000 in
set_option maxHeartbeats 1000000 in
theorem or3_any (g : Nat) (a b c : Int) (w : World) (h0 : w.cell? ⟨g, 0, none⟩ = some (.int .i64 a)) (h1 : w.cell? ⟨g, 1, none⟩ = some (.int .i64 b)) (h2 : w.cell? ⟨g, 2, none⟩ = some (.int .i64 c)) :
    Calls Tryz.prog 84 #[.slice (some ⟨g, 0, none⟩) 3 3] w fun e w' => e = .returned (.int .i64 (or3 a b c)) ∧ w' = w := by
  have HD : Hid (or3 a b c = if a = 0 then (if b = 0 then c else b) else a) := rfl
  generalize or3 a b c = R at *
  go_enter Tryz.func84, Tryz.ntmps84
  go_wp2_with fail
  go_loopw [2, 5, 8] (fun r _ i wr => r = .int .i64 0 ∧ ∃ k : Nat, k ≤ 3 ∧ i = .int .i64 (k : Int) ∧ Hid ((0 < k → a = 0) ∧ (1 < k → b = 0) ∧ (2 < k → c = 0)) ∧ w = wr) (fun _ _ i _ => 3 - (intOf i).toNat)
  case atStart => exact ⟨rfl, 0, by omega, rfl, ⟨fun h => absurd h (by omega), fun h => absurd h (by omega), fun h => absurd h (by omega)⟩, rfl⟩
  case round =>
    obtain ⟨rfl, k, hk, rfl, HO, rfl⟩ := hrel
    obtain rfl | rfl | rfl | rfl : k = 0 ∨ k = 1 ∨ k = 2 ∨ k = 3 := by omega
    · by_cases ha : a = 0
      · rw [ha] at h0
        have HO2 : Hid ((0 < 1 → a = 0) ∧ (1 < 1 → b = 0) ∧ (2 < 1 → c = 0)) := ⟨fun _ => ha, fun h => absurd h (by omega), fun h => absurd h (by omega)⟩
        clear ha
        go_wp2
        go_roundw
        case rel => exact ⟨rfl, 1, by omega, by simp, HO2, trivial⟩
        case measure => simp [intOf]
      · have HR : Hid (R = a) := by show R = a; rw [HD.out, if_neg ha]
        have d0 : (a == 0) = false := by simp [ha]
        have d1 : (a != 0) = true := by simp [ha]
        clear HD ha
        go_wp2
        go_ret
        exact ⟨by rw [HR.out]; rfl, rfl⟩
    · have ha := HO.out.1 (by omega)
      by_cases hb : b = 0
      · rw [hb] at h1
        have HO2 : Hid ((0 < 2 → a = 0) ∧ (1 < 2 → b = 0) ∧ (2 < 2 → c = 0)) := ⟨fun _ => ha, fun _ => hb, fun h => absurd h (by omega)⟩
        clear ha hb
        go_wp2
        go_roundw
        case rel => exact ⟨rfl, 2, by omega, by simp, HO2, trivial⟩
        case measure => simp [intOf]
      · have HR : Hid (R = b) := by show R = b; rw [HD.out, if_pos ha, if_neg hb]
        have d0 : (b == 0) = false := by simp [hb]
        have d1 : (b != 0) = true := by simp [hb]
        clear HD hb ha
        go_wp2
        go_ret
        exact ⟨by rw [HR.out]; rfl, rfl⟩
    · have ha := HO.out.1 (by omega)
      have hb := HO.out.2.1 (by omega)
      by_cases hc : c = 0
      · rw [hc] at h2
        have HO2 : Hid ((0 < 3 → a = 0) ∧ (1 < 3 → b = 0) ∧ (2 < 3 → c = 0)) := ⟨fun _ => ha, fun _ => hb, fun _ => hc⟩
        clear ha hb hc
        go_wp2
        go_roundw
        case rel => exact ⟨rfl, 3, by omega, by simp, HO2, trivial⟩
        case measure => simp [intOf]
      · have HR : Hid (R = c) := by show R = c; rw [HD.out, if_pos ha, if_pos hb]
        have d0 : (c == 0) = false := by simp [hc]
        have d1 : (c != 0) = true := by simp [hc]
        clear HD hb ha hc
        go_wp2
        go_ret
        exact ⟨by rw [HR.out]; rfl, rfl⟩
    · have HR : Hid (R = 0) := by show R = 0; rw [HD.out, if_pos (HO.out.1 (by omega)), if_pos (HO.out.2.1 (by omega))]; exact HO.out.2.2 (by omega)
      clear HD HO
      go_wp2
      go_ret
      exact ⟨by rw [HR.out]; rfl, rfl⟩
/-- The two identities' cells. -/
def TwI (g : Nat) (a b c a' b' c' : Int) (w : World) : Prop := (w.cell? ⟨g, 0, none⟩ = some (.int .i64 a) ∧ w.cell? ⟨g, 1, none⟩ = some (.int .i64 b) ∧ w.cell? ⟨g, 2, none⟩ = some (.int .i64 c)) ∧ w.cell? ⟨g + 1, 0, none⟩ = some (.int .i64 a') ∧ w.cell? ⟨g + 1, 1, none⟩ = some (.int .i64 b') ∧ w.cell? ⟨g + 1, 2, none⟩ = some (.int .i64 c')
set_option maxRecDepth 100000 in
set_option maxHeartbeats 2000000 in
theorem order_any (a b c a' b' c' : Int) (w : World) : Calls Tryz.prog 40 #[idV a b c, idV a' b' c'] w fun e w' => e = .returned (.int .i64 (or3 (ordI a a') (ordI b b') (ordI c c'))) ∧ Below w.heap.size w w' := by
  obtain ⟨W0, hW0⟩ : ∃ W0, W0 = (w.alloc (.cells #[.int .i64 a, .int .i64 b, .int .i64 c] 23)).alloc (.cells #[.int .i64 a', .int .i64 b', .int .i64 c'] 23) := ⟨_, rfl⟩
  have hA : Below w.heap.size w W0 := by rw [hW0]; exact (al_b w _).trans ((al_b _ _).mono (by simp))
  have hz : W0.heap.size = w.heap.size + 2 := by rw [hW0]; simp
  have hn0 : W0.heap[w.heap.size]? = some (.cells #[.int .i64 a, .int .i64 b, .int .i64 c] 23 (0, 0)) := by
    rw [hW0]
    show ((w.heap.push _).push _)[w.heap.size]? = _
    rw [Array.getElem?_push, if_neg (by simp), Array.getElem?_push, if_pos rfl]
  have hn1 : W0.heap[w.heap.size + 1]? = some (.cells #[.int .i64 a', .int .i64 b', .int .i64 c'] 23 (0, 0)) := by
    rw [hW0]
    show ((w.heap.push _).push _)[w.heap.size + 1]? = _
    rw [Array.getElem?_push, if_pos (by simp)]
  have HX : Hid (∀ W, Below W0.heap.size W0 W → TwI w.heap.size a b c a' b' c' W) := fun W h => by
    have e : ∀ j, W.cell? ⟨w.heap.size, j, none⟩ = (#[.int .i64 a, .int .i64 b, .int .i64 c] : Array Value)[j]? := fun j => by rw [Lib.cell_of_heap ((h.block _ (by omega)).trans hn0)]
    have e2 : ∀ j, W.cell? ⟨w.heap.size + 1, j, none⟩ = (#[.int .i64 a', .int .i64 b', .int .i64 c'] : Array Value)[j]? := fun j => by rw [Lib.cell_of_heap ((h.block _ (by omega)).trans hn1)]
    exact ⟨⟨e 0, e 1, e 2⟩, e2 0, e2 1, e2 2⟩
  have HBw : Hid (∀ W, Below W0.heap.size W0 W → Below w.heap.size w W) := fun W h => hA.trans (h.mono hA.size)
  have HC : Hid (∀ (x y : Int) (w : World), Calls Tryz.prog 85 #[.int .i64 x, .int .i64 y] w fun e w' => e = .returned (.int .i64 (ordI x y)) ∧ w' = w) := fun x y w => compI x y w
  have HO : Hid (∀ (x y z : Int) (W : World), Calls Tryz.prog 84 #[.slice (some ⟨W.heap.size, 0, none⟩) 3 3] (W.alloc (.cells #[.int .i64 x, .int .i64 y, .int .i64 z] 3)) fun e w' => e = .returned (.int .i64 (or3 x y z)) ∧ w' = W.alloc (.cells #[.int .i64 x, .int .i64 y, .int .i64 z] 3)) := fun x y z W => by
    have hn := new_at W (.cells #[.int .i64 x, .int .i64 y, .int .i64 z] 3)
    exact or3_any _ x y z _ (by rw [Lib.cell_of_heap hn]; rfl) (by rw [Lib.cell_of_heap hn]; rfl) (by rw [Lib.cell_of_heap hn]; rfl)
  have HR1 : Hid (Below W0.heap.size W0 W0.drew) := (Below.refl _ _).drew
  have HAl : Hid (∀ W o, Below W0.heap.size W0 W → Below W0.heap.size W0 (W.alloc o)) := fun W o h => h.trans ((al_b _ o).mono h.size)
  clear hA hn0 hn1
  go_enter Tryz.func40, Tryz.ntmps40
  go_wp2_with fail
  rw [← hW0]
  clear hW0
  refine wp_region_held_drew (S := fun w' => TwI w.heap.size a b c a' b' c' w') (by kernel_rfl) (HX.out _ HR1.out) (fun hHeld => ?_)
  generalize W0.drew = wd at *
  refine wpAnyH_take (i := 0) (v := ?_) rfl (by kernel_rfl) (by kernel_rfl) (by kernel_rfl) (fun _ _ _ h => h) (Or.inl ⟨by rfl, ?_⟩) hHeld ?_
  rotate_left 1
  · intro w9 hSw; obtain ⟨⟨g0, g1, g2⟩, k0, k1, k2⟩ := hSw; go_simp; try with_reducible rfl
  change wpAnyH _ _ _ _ _ _ _ (Act.put _ (some 5) _) _
  simp only [Act.put, List.setIfInBounds_toArray, List.set_cons_zero, List.set_cons_succ]
  refine wpAnyH_take (i := 1) (v := ?_) rfl (by kernel_rfl) (by kernel_rfl) (by kernel_rfl) (fun _ _ _ h => h) (Or.inl ⟨by rfl, ?_⟩) hHeld ?_
  rotate_left 1
  · intro w9 hSw; obtain ⟨⟨g0, g1, g2⟩, k0, k1, k2⟩ := hSw; go_simp; try with_reducible rfl
  change wpAnyH _ _ _ _ _ _ _ (Act.put _ (some 6) _) _
  simp only [Act.put, List.setIfInBounds_toArray, List.set_cons_zero, List.set_cons_succ]
  refine wpAnyH_take (i := 2) (v := ?_) rfl (by kernel_rfl) (by kernel_rfl) (by kernel_rfl) (fun _ _ _ h => h) (Or.inl ⟨by rfl, ?_⟩) hHeld ?_
  rotate_left 1
  · intro w9 hSw; obtain ⟨⟨g0, g1, g2⟩, k0, k1, k2⟩ := hSw; go_simp; try with_reducible rfl
  change wpAnyH _ _ _ _ _ _ _ (Act.put _ (some 7) _) _
  simp only [Act.put, List.setIfInBounds_toArray, List.set_cons_zero, List.set_cons_succ]
  refine wpAnyH_take (i := 3) (v := ?_) rfl (by kernel_rfl) (by kernel_rfl) (by kernel_rfl) (fun _ _ _ h => h) (Or.inl ⟨by rfl, ?_⟩) hHeld ?_
  rotate_left 1
  · intro w9 hSw; obtain ⟨⟨g0, g1, g2⟩, k0, k1, k2⟩ := hSw; go_simp; try with_reducible rfl
  change wpAnyH _ _ _ _ _ _ _ (Act.put _ (some 8) _) _
  simp only [Act.put, List.setIfInBounds_toArray, List.set_cons_zero, List.set_cons_succ]
  refine wpAnyH_take (i := 5) (v := ?_) rfl (by kernel_rfl) (by kernel_rfl) (by kernel_rfl) (fun _ _ _ h => h) (Or.inl ⟨by rfl, ?_⟩) hHeld ?_
  rotate_left 1
  · intro w9 hSw; obtain ⟨⟨g0, g1, g2⟩, k0, k1, k2⟩ := hSw; go_simp; try with_reducible rfl
  change wpAnyH _ _ _ _ _ _ _ (Act.put _ (some 10) _) _
  simp only [Act.put, List.setIfInBounds_toArray, List.set_cons_zero, List.set_cons_succ]
  refine wpAnyH_take (i := 6) (v := ?_) rfl (by kernel_rfl) (by kernel_rfl) (by kernel_rfl) (fun _ _ _ h => h) (Or.inl ⟨by rfl, ?_⟩) hHeld ?_
  rotate_left 1
  · intro w9 hSw; obtain ⟨⟨g0, g1, g2⟩, k0, k1, k2⟩ := hSw; go_simp; try with_reducible rfl
  change wpAnyH _ _ _ _ _ _ _ (Act.put _ (some 11) _) _
  simp only [Act.put, List.setIfInBounds_toArray, List.set_cons_zero, List.set_cons_succ]
  refine wpAnyH_take (i := 7) (v := ?_) rfl (by kernel_rfl) (by kernel_rfl) (by kernel_rfl) (fun _ _ _ h => h) (Or.inl ⟨by rfl, ?_⟩) hHeld ?_
  rotate_left 1
  · intro w9 hSw; obtain ⟨⟨g0, g1, g2⟩, k0, k1, k2⟩ := hSw; go_simp; try with_reducible rfl
  change wpAnyH _ _ _ _ _ _ _ (Act.put _ (some 12) _) _
  simp only [Act.put, List.setIfInBounds_toArray, List.set_cons_zero, List.set_cons_succ]
  refine wpAnyH_take (i := 8) (v := ?_) rfl (by kernel_rfl) (by kernel_rfl) (by kernel_rfl) (fun _ _ _ h => h) (Or.inl ⟨by rfl, ?_⟩) hHeld ?_
  rotate_left 1
  · intro w9 hSw; obtain ⟨⟨g0, g1, g2⟩, k0, k1, k2⟩ := hSw; go_simp; try with_reducible rfl
  change wpAnyH _ _ _ _ _ _ _ (Act.put _ (some 13) _) _
  simp only [Act.put, List.setIfInBounds_toArray, List.set_cons_zero, List.set_cons_succ]
  refine wpAnyH_take (i := 10) (v := ?_) rfl (by kernel_rfl) (by kernel_rfl) (by kernel_rfl) (fun _ _ _ h => h) (Or.inl ⟨by rfl, ?_⟩) hHeld ?_
  rotate_left 1
  · intro w9 hSw; obtain ⟨⟨g0, g1, g2⟩, k0, k1, k2⟩ := hSw; go_simp; try with_reducible rfl
  change wpAnyH _ _ _ _ _ _ _ (Act.put _ (some 15) _) _
  simp only [Act.put, List.setIfInBounds_toArray, List.set_cons_zero, List.set_cons_succ]
  refine wpAnyH_take (i := 11) (v := ?_) rfl (by kernel_rfl) (by kernel_rfl) (by kernel_rfl) (fun _ _ _ h => h) (Or.inl ⟨by rfl, ?_⟩) hHeld ?_
  rotate_left 1
  · intro w9 hSw; obtain ⟨⟨g0, g1, g2⟩, k0, k1, k2⟩ := hSw; go_simp; try with_reducible rfl
  change wpAnyH _ _ _ _ _ _ _ (Act.put _ (some 16) _) _
  simp only [Act.put, List.setIfInBounds_toArray, List.set_cons_zero, List.set_cons_succ]
  refine wpAnyH_take (i := 12) (v := ?_) rfl (by kernel_rfl) (by kernel_rfl) (by kernel_rfl) (fun _ _ _ h => h) (Or.inl ⟨by rfl, ?_⟩) hHeld ?_
  rotate_left 1
  · intro w9 hSw; obtain ⟨⟨g0, g1, g2⟩, k0, k1, k2⟩ := hSw; go_simp; try with_reducible rfl
  change wpAnyH _ _ _ _ _ _ _ (Act.put _ (some 17) _) _
  simp only [Act.put, List.setIfInBounds_toArray, List.set_cons_zero, List.set_cons_succ]
  refine wpAnyH_take (i := 13) (v := ?_) rfl (by kernel_rfl) (by kernel_rfl) (by kernel_rfl) (fun _ _ _ h => h) (Or.inl ⟨by rfl, ?_⟩) hHeld ?_
  rotate_left 1
  · intro w9 hSw; obtain ⟨⟨g0, g1, g2⟩, k0, k1, k2⟩ := hSw; go_simp; try with_reducible rfl
  change wpAnyH _ _ _ _ _ _ _ (Act.put _ (some 18) _) _
  simp only [Act.put, List.setIfInBounds_toArray, List.set_cons_zero, List.set_cons_succ]
  refine wpAnyH_ready (rs := [4]) (by kernel_rfl) (by simp) ?_
  refine AllReadyH.cons rfl (fun K hK => ?_) AllReadyH.nil
  go_simp
  refine (HC.out _ _ _).mono ?_
  rintro e v4 ⟨rfl, rfl⟩
  go_simp
  refine hK.out _ _ (HX.out _ HR1.out) (fun hHeld => ?_)
  clear hK K
  refine wpAnyH_ready (rs := [9]) (by kernel_rfl) (by simp) ?_
  refine AllReadyH.cons rfl (fun K hK => ?_) AllReadyH.nil
  go_simp
  refine (HC.out _ _ _).mono ?_
  rintro e v4 ⟨rfl, rfl⟩
  go_simp
  refine hK.out _ _ (HX.out _ HR1.out) (fun hHeld => ?_)
  clear hK K
  refine wpAnyH_ready (rs := [14]) (by kernel_rfl) (by simp) ?_
  refine AllReadyH.cons rfl (fun K hK => ?_) AllReadyH.nil
  go_simp
  refine (HC.out _ _ _).mono ?_
  rintro e v4 ⟨rfl, rfl⟩
  go_simp
  refine hK.out _ _ (HX.out _ HR1.out) (fun hHeld => ?_)
  clear hK K
  refine wpAnyH_ready (rs := [15]) (by kernel_rfl) (by simp) ?_
  refine AllReadyH.cons rfl (fun K hK => ?_) AllReadyH.nil
  go_simp
  refine hK.out _ _ (HX.out _ (HAl.out _ _ HR1.out)) (fun hHeld => ?_)
  clear hK K
  refine wpAnyH_ready (rs := [16]) (by kernel_rfl) (by simp) ?_
  refine AllReadyH.cons rfl (fun K hK => ?_) AllReadyH.nil
  go_simp
  refine (HO.out _ _ _ _).mono ?_
  rintro e v4 ⟨rfl, rfl⟩
  go_simp
  refine hK.out _ _ (HX.out _ (HAl.out _ _ HR1.out)) (fun hHeld => ?_)
  clear hK K
  refine wpAnyH_take (i := 17) (v := ?_) rfl (by kernel_rfl) (by kernel_rfl) (by kernel_rfl) (fun _ _ _ h => h) (Or.inl ⟨by rfl, ?_⟩) hHeld ?_
  rotate_left 1
  · intro w9 hSw; obtain ⟨⟨g0, g1, g2⟩, k0, k1, k2⟩ := hSw; go_simp; try with_reducible rfl
  change wpAnyH _ _ _ _ _ _ _ (Act.put _ (some 4) _) _
  simp only [Act.put, List.setIfInBounds_toArray, List.set_cons_zero, List.set_cons_succ]
  refine wpAnyH_done (by kernel_rfl) ?_ _
  go_wp2
  go_ret
  exact ⟨rfl, HBw.out _ (HAl.out _ _ HR1.out)⟩
end Go.Proofs.YtacpllmlpmllbaaGreatDoor
/- Identities stand in one order: plain mathematics. -/
namespace Go.Proofs.YtacpllmlpmllbaaGreatDoor
open Go.RowKit

def ordV (a b c a' b' c' : Int) : Int := or3 (ordI a a') (ordI b b') (ordI c c')
theorem ordI_cases (a b : Int) : (a < b ∧ ordI a b = -1) ∨ (a = b ∧ ordI a b = 0) ∨ (b < a ∧ ordI a b = 1) := by
  unfold ordI
  by_cases h1 : a < b
  · exact .inl ⟨h1, if_pos h1⟩
  · by_cases h2 : b < a
    · exact .inr (.inr ⟨h2, by rw [if_neg h1, if_pos h2]⟩)
    · exact .inr (.inl ⟨by omega, by rw [if_neg h1, if_neg h2]⟩)
theorem ordV_cases (a b c a' b' c' : Int) : ((a < a' ∨ a = a' ∧ (b < b' ∨ b = b' ∧ c < c')) ∧ ordV a b c a' b' c' = -1) ∨ ((a = a' ∧ b = b' ∧ c = c') ∧ ordV a b c a' b' c' = 0) ∨ ((a' < a ∨ a = a' ∧ (b' < b ∨ b = b' ∧ c' < c)) ∧ ordV a b c a' b' c' = 1) := by
  unfold ordV or3
  rcases ordI_cases a a' with ⟨h, e⟩ | ⟨h, e⟩ | ⟨h, e⟩ <;> rw [e]
  · exact .inl ⟨.inl h, by rw [if_neg (by decide)]⟩
  · rw [if_pos rfl]
    rcases ordI_cases b b' with ⟨h2, e2⟩ | ⟨h2, e2⟩ | ⟨h2, e2⟩ <;> rw [e2]
    · exact .inl ⟨.inr ⟨h, .inl h2⟩, by rw [if_neg (by decide)]⟩
    · rw [if_pos rfl]
      rcases ordI_cases c c' with ⟨h3, e3⟩ | ⟨h3, e3⟩ | ⟨h3, e3⟩ <;> rw [e3]
      · exact .inl ⟨.inr ⟨h, .inr ⟨h2, h3⟩⟩, rfl⟩
      · exact .inr (.inl ⟨⟨h, h2, h3⟩, rfl⟩)
      · exact .inr (.inr ⟨.inr ⟨h, .inr ⟨h2, h3⟩⟩, rfl⟩)
    · exact .inr (.inr ⟨.inr ⟨h, .inl h2⟩, by rw [if_neg (by decide)]⟩)
  · exact .inr (.inr ⟨.inl h, by rw [if_neg (by decide)]⟩)
theorem ordV_anti (a b c a' b' c' : Int) : ordV a b c a' b' c' = - ordV a' b' c' a b c := by
  rcases ordV_cases a b c a' b' c' with ⟨h, e⟩ | ⟨h, e⟩ | ⟨h, e⟩ <;> rcases ordV_cases a' b' c' a b c with ⟨h', e'⟩ | ⟨h', e'⟩ | ⟨h', e'⟩ <;> rw [e, e'] <;> omega
theorem ordV_zero (a b c a' b' c' : Int) : ordV a b c a' b' c' = 0 ↔ a = a' ∧ b = b' ∧ c = c' := by
  rcases ordV_cases a b c a' b' c' with ⟨h, e⟩ | ⟨h, e⟩ | ⟨h, e⟩ <;> rw [e] <;> constructor <;> intro h' <;> omega
theorem ordV_trans (a b c a' b' c' x y z : Int) : 0 ≤ ordV a b c a' b' c' ∨ 0 ≤ ordV a' b' c' x y z ∨ ordV a b c x y z < 0 := by
  rcases ordV_cases a b c a' b' c' with ⟨h, e⟩ | ⟨h, e⟩ | ⟨h, e⟩ <;> rcases ordV_cases a' b' c' x y z with ⟨h', e'⟩ | ⟨h', e'⟩ | ⟨h', e'⟩ <;> rcases ordV_cases a b c x y z with ⟨h2, e2⟩ | ⟨h2, e2⟩ | ⟨h2, e2⟩ <;> rw [e, e', e2] <;> omega
theorem ordV_same (a b c a' b' c' x y z : Int) (h : ordV a b c a' b' c' = 0) : ordV a' b' c' x y z = ordV a b c x y z := by
  obtain ⟨rfl, rfl, rfl⟩ := (ordV_zero _ _ _ _ _ _).1 h
  rfl
end Go.Proofs.YtacpllmlpmllbaaGreatDoor
/- EventOrder: its walk, where the example's call answers true. -/
namespace Go.Proofs.YtacpllmlpmllbaaGreatDoor
open Go.RowKit Go.ChangeMaps

set_option maxRecDepth 100000 in
theorem eqA_nil (w : World) : Calls Tryz.prog 47 #[.slice none 0 0, .slice none 0 0] w fun e w' => e = .returned (.bool true) ∧ w' = w := by
  go_enter Tryz.func47, Tryz.ntmps47
  go_wp2_with fail
  go_loopw [5, 13] (fun _ i wr => i = .int .i64 0 ∧ wr = w) (fun _ _ _ => 0)
  case atStart => exact ⟨rfl, rfl⟩
  case round =>
    obtain ⟨rfl, rfl⟩ := hrel
    go_wp2
    go_ret
    exact ⟨rfl, rfl⟩
set_option maxRecDepth 100000 in
theorem eqF_nil (w : World) : Calls Tryz.prog 49 #[.slice none 0 0, .slice none 0 0, .func (.func 50) #[] #[]] w fun e w' => e = .returned (.bool true) ∧ w' = w := by
  go_enter Tryz.func49, Tryz.ntmps49
  go_wp2_with fail
  go_loopw [7, 8, 9, 17] (fun _ _ _ i wr => i = .int .i64 0 ∧ wr = w) (fun _ _ _ _ _ => 0)
  case atStart => exact ⟨rfl, rfl⟩
  case round =>
    obtain ⟨rfl, rfl⟩ := hrel
    go_wp2
    go_ret
    exact ⟨rfl, rfl⟩
abbrev evN (a b c : Int) (k : ByteArray) : Value := .agg (evA a b c k (.slice none 0 0))
theorem two_boxes (a b c : Int) (k : ByteArray) (a' b' c' : Int) (k' : ByteArray) (w : World) : ∃ W0, W0 = (w.alloc (.cells (evA a b c k (.slice none 0 0)) 26)).alloc (.cells (evA a' b' c' k' (.slice none 0 0)) 26) ∧ Below w.heap.size w W0 ∧ ∀ W, Below W0.heap.size W0 W → BxV w.heap.size a b c k (.slice none 0 0) W ∧ BxV (w.heap.size + 1) a' b' c' k' (.slice none 0 0) W := by
  refine ⟨_, rfl, (al_b w _).trans ((al_b _ _).mono (by simp)), fun W h => ⟨BxV.of (ty := 26) (z := (0, 0)) ((h.block _ (by simp; omega)).trans ?_), BxV.of (ty := 26) (z := (0, 0)) ((h.block _ (by simp)).trans ?_)⟩⟩
  · show ((w.heap.push _).push _)[w.heap.size]? = _
    rw [Array.getElem?_push, if_neg (by simp), Array.getElem?_push, if_pos rfl]
  · show ((w.heap.push _).push _)[w.heap.size + 1]? = _
    rw [Array.getElem?_push, if_pos (by simp)]
set_option maxRecDepth 100000 in
set_option maxHeartbeats 1000000 in
theorem evSame_self (a b c : Int) (k : ByteArray) (w : World) : Calls Tryz.prog 13 #[evN a b c k, evN a b c k] w fun e w' => e = .returned (.bool true) ∧ Below w.heap.size w w' := by
  obtain ⟨W0, hW0, hB, hX⟩ := two_boxes a b c k a b c k w
  obtain ⟨⟨⟨g0, g1, g2⟩, g3, g4⟩, ⟨k0, k1, k2⟩, k3, k4⟩ := hX W0 (Below.refl _ _)
  have HB : Hid (Below w.heap.size w W0) := hB
  have HE : Hid (Calls Tryz.prog 47 #[.slice none 0 0, .slice none 0 0] W0 fun e w' => e = .returned (.bool true) ∧ w' = W0) := eqA_nil W0
  have e1 : (k.toList == k.toList) = true := by simp
  clear hB hX
  go_enter Tryz.func13, Tryz.ntmps13
  go_wp2_with fail
  rw [← hW0]
  clear hW0
  go_wp2_with fail
  refine HE.out.mono ?_
  rintro e w1 ⟨rfl, rfl⟩
  go_wp2
  go_ret
  exact ⟨rfl, HB.out⟩
set_option maxRecDepth 100000 in
set_option maxHeartbeats 2000000 in
theorem evSame_no (a b c a' b' c' : Int) (w : World) : Calls Tryz.prog 13 #[evN a b c ⟨#[116]⟩, evN a' b' c' ⟨#[84]⟩] w fun e w' => e = .returned (.bool false) ∧ Below w.heap.size w w' := by
  obtain ⟨W0, hW0, hB, hX⟩ := two_boxes a b c ⟨#[116]⟩ a' b' c' ⟨#[84]⟩ w
  obtain ⟨⟨⟨g0, g1, g2⟩, g3, g4⟩, ⟨k0, k1, k2⟩, k3, k4⟩ := hX W0 (Below.refl _ _)
  have HB : Hid (Below w.heap.size w W0) := hB
  clear hB hX
  by_cases e1 : a = a'
  · by_cases e2 : b = b'
    · by_cases e3 : c = c'
      · subst e1 e2 e3
        go_enter Tryz.func13, Tryz.ntmps13
        go_wp2_with fail
        rw [← hW0]
        clear hW0
        go_wp2
        go_ret
        exact ⟨rfl, HB.out⟩
      · subst e1 e2
        go_enter Tryz.func13, Tryz.ntmps13
        go_wp2_with fail
        rw [← hW0]
        clear hW0
        go_wp2
        go_ret
        exact ⟨rfl, HB.out⟩
    · subst e1
      go_enter Tryz.func13, Tryz.ntmps13
      go_wp2_with fail
      rw [← hW0]
      clear hW0
      go_wp2
      go_ret
      exact ⟨rfl, HB.out⟩
  · go_enter Tryz.func13, Tryz.ntmps13
    go_wp2_with fail
    rw [← hW0]
    clear hW0
    go_wp2
    go_ret
    exact ⟨rfl, HB.out⟩
theorem same_tT : sameL (⟨#[116]⟩ : ByteArray).data.toList (⟨#[84]⟩ : ByteArray).data.toList = true := by kernel_rfl
set_option maxRecDepth 100000 in
set_option maxHeartbeats 2000000 in
theorem evAlike_yes (a b c a' b' c' : Int) (w : World) (hT : UT w) : Calls Tryz.prog 15 #[evN a b c ⟨#[116]⟩, evN a' b' c' ⟨#[84]⟩] w fun e w' => e = .returned (.bool true) ∧ Below w.heap.size w w' := by
  obtain ⟨W0, hW0, hB, hX⟩ := two_boxes a b c ⟨#[116]⟩ a' b' c' ⟨#[84]⟩ w
  obtain ⟨⟨⟨g0, g1, g2⟩, g3, g4⟩, ⟨k0, k1, k2⟩, k3, k4⟩ := hX W0 (Below.refl _ _)
  have HB : Hid (Below w.heap.size w W0) := hB
  have HX : Hid (∀ W, Below W0.heap.size W0 W → BxV w.heap.size a b c ⟨#[116]⟩ (.slice none 0 0) W ∧ BxV (w.heap.size + 1) a' b' c' ⟨#[84]⟩ (.slice none 0 0) W) := hX
  have HS : Hid (Calls Tryz.prog 48 #[.string ⟨#[116]⟩, .string ⟨#[84]⟩] W0 fun e w' => e = .returned (.bool true) ∧ Below W0.heap.size W0 w') := by
    have := same_any ⟨#[116]⟩ ⟨#[84]⟩ W0 (by decide) (by decide) (Utf8Tabs_below hT hB)
    rw [same_tT] at this
    exact this
  have HE : Hid (∀ W, Calls Tryz.prog 49 #[.slice none 0 0, .slice none 0 0, .func (.func 50) #[] #[]] W fun e w' => e = .returned (.bool true) ∧ w' = W) := fun W => eqF_nil W
  clear hB hX hT
  go_enter Tryz.func15, Tryz.ntmps15
  go_wp2_with fail
  rw [← hW0]
  clear hW0
  go_wp2_with fail
  refine HS.out.mono ?_
  rintro e w1 ⟨rfl, hb⟩
  obtain ⟨⟨⟨p0, p1, p2⟩, p3, p4⟩, ⟨r0, r1, r2⟩, r3, r4⟩ := HX.out w1 hb
  have HB1 : Hid (Below w.heap.size w w1) := HB.out.trans (hb.mono HB.out.size)
  clear hb g0 g1 g2 g3 g4 k0 k1 k2 k3 k4
  go_wp2_with fail
  refine (HE.out _).mono ?_
  rintro e w2 ⟨rfl, rfl⟩
  go_wp2
  go_ret
  exact ⟨rfl, HB1.out⟩
end Go.Proofs.YtacpllmlpmllbaaGreatDoor
/- A strings.Builder that the call itself has made: copyCheck, WriteByte, WriteString, WriteRune at this program, with the frame that reaches above it. -/
namespace Go.Proofs.YtacpllmlpmllbaaGreatDoor.V
open Go.RowKit

theorem info_u8 : (Tryz.prog.info? 5).map (fun i => (i.zero, i.size, i.bytes)) = some (some (.int .u8 0), 1, 1) := by kernel_rfl
theorem bSize : (Tryz.prog.info? 94).map (·.size) = some 2 := by kernel_rfl
theorem bLies : liesAt Tryz.prog Tryz.prog.depth 94 (2 / Tryz.prog.cellsOf 94) 0 94 1 = true := by kernel_rfl

set_option maxRecDepth 100000 in
set_option maxHeartbeats 1000000 in
theorem copyCheck_used (b : Nat) (w : World) (h0 : w.cell? ⟨b, 0, none⟩ = some (.pointer (some ⟨b, 0, none⟩))) :
    Calls Tryz.prog 95 #[.pointer (some ⟨b, 0, none⟩)] w fun e w' => e = .returned (.tuple #[]) ∧ w' = w := by
  obtain ⟨j, hj, _⟩ := Option.map_eq_some_iff.1 bSize
  go_enter Tryz.func95, Tryz.ntmps95
  go_wp2
  rw [Lib.run_neq_ptr_same w _ Tryz.underlying91 hj]
  go_wp2
  go_end0
  exact ⟨rfl, rfl⟩

set_option maxRecDepth 100000 in
set_option maxHeartbeats 1000000 in
theorem copyCheck_fresh (b : Nat) (w : World) (h0 : w.cell? ⟨b, 0, none⟩ = some (.pointer none)) (hsh : w.shape? b = some (94, 2)) (hfz : w.frozen? ⟨b, 0, none⟩ = false) :
    Calls Tryz.prog 95 #[.pointer (some ⟨b, 0, none⟩)] w fun e w' => e = .returned (.tuple #[]) ∧ w' = w.setCell ⟨b, 0, none⟩ (.pointer (some ⟨b, 0, none⟩)) := by
  obtain ⟨j, hj, hjs⟩ := Option.map_eq_some_iff.1 bSize
  go_enter Tryz.func95, Tryz.ntmps95
  go_wp2
  rw [Lib.run_to_unsafe w ⟨b, 0, none⟩ Tryz.underlying91 Tryz.underlying179 hj (by rw [hjs]; decide) hsh (Nat.zero_lt_succ 1)]
  simp only [Result.andThen]
  rw [Oper.upon_value]
  go_wp2
  rw [run_callFunc_extern Tryz.func143 (by kernel_rfl) (by kernel_rfl) (by kernel_rfl) (e := Extern.AbiNoEscape.same) (by kernel_rfl)]
  rw [Lib.run_noEscape]
  simp only [Result.andThen]
  rw [Oper.upon_value]
  go_wp2
  rw [Lib.run_from_unsafe w ⟨b, 0, none⟩ Tryz.underlying179 Tryz.underlying91 hj hsh bLies]
  simp only [Result.andThen]
  rw [Oper.upon_value]
  go_wp2
  go_end0
  exact ⟨rfl, rfl⟩

theorem rowF_cells {w : World} {base : Nat} {e : TypeId} {sz : Nat} {v : Value} {n : Nat} {xs : List Value} (h : w.ownsRowF base e sz v n xs) (g : Nat) (hg : v.ownBlock = some g) : ∃ c fz, w.heap[g]? = some (.cells c e fz) := by
  rcases h.2 with ⟨hv, _⟩ | ⟨g', cap, cur, fz, hv, _, hgg, _⟩
  · rw [hv] at hg; cases hg
  · rw [hv] at hg
    cases hg
    exact ⟨_, _, hgg⟩
abbrev IsB (B b : Nat) (bs : List Value) (w : World) : Prop := Lib.IsBuilderF 94 5 B b bs w

theorem copyCheck_any (B b : Nat) (bs : List Value) (w : World) (h : IsB B b bs w) :
    Calls Tryz.prog 95 #[.pointer (some ⟨b, 0, none⟩)] w fun e w' => e = .returned (.tuple #[]) ∧ Lib.BuilderAtF 94 5 B b (.pointer (some ⟨b, 0, none⟩)) bs w' ∧ Below B w w' ∧ Lib.OthersKept 5 (some b) w w' := by
  rcases h with h | h
  · refine (copyCheck_fresh b w h.cell0 h.shape h.frozen0).mono ?_
    rintro e w' ⟨rfl, rfl⟩
    exact ⟨rfl, h.used _, (Below.refl B w).setCell (p := ⟨b, 0, none⟩) h.1 _, Lib.OthersKept.setCell (b := b) (Lib.OthersKept.refl _ _ _) ⟨b, 0, none⟩ rfl _⟩
  · refine (copyCheck_used b w h.cell0).mono ?_
    rintro e w' ⟨rfl, rfl⟩
    exact ⟨rfl, h, Below.refl B _, Lib.OthersKept.refl _ _ _⟩

set_option maxRecDepth 100000 in
set_option maxHeartbeats 1000000 in
theorem writeByte_k (B b : Nat) (bs : List Value) (c : Int) (w : World) (h : IsB B b bs w) (hlen : bs.length + 1 ≤ 140737488355328) (hBw : B ≤ w.heap.size) :
    Calls Tryz.prog 145 #[.pointer (some ⟨b, 0, none⟩), .int .u8 c] w fun e w' => e = .returned .nilIface ∧ IsB B b (bs ++ [.int .u8 c]) w' ∧ Below B w w' ∧ Lib.OthersKept 5 (some b) w w' := by
  obtain ⟨i0, hi, hz0, hz1, hz2⟩ := info_parts info_u8
  go_enter Tryz.func145, Tryz.ntmps145
  go_wp2_with (go_at_call 95; refine (copyCheck_any B b bs _ h).mono ?_)
  rintro e w1 ⟨rfl, h1, hb1, ok1⟩
  obtain ⟨hB, v, hbk, hown, hne⟩ := h1
  have c0 : w1.cell? ⟨b, 0, none⟩ = some (.pointer (some ⟨b, 0, none⟩)) := by rw [Lib.cell_of_heap hbk]; rfl
  have c1 : w1.cell? ⟨b, 1, none⟩ = some v := by rw [Lib.cell_of_heap hbk]; rfl
  go_wp2_with (at_builtin; refine wpList_append_ownF _ rfl _ _ 92 rfl B 5 i0 (.int .u8 0) 1 1 Tryz.underlying92 hi hz0 hz1 hz2 rfl (by decide) _ _ _ rfl (hown.alloc _) ⟨w1.heap.size, 0, none⟩ 1 1 [.int .u8 c] rfl rfl ?c1 ?c2 ?c3 ?c4 ?c5 ?_)
  case c1 =>
    intro j u hj
    match j, hj with
    | 0, hj => simp at hj; subst hj; simp [Addr.add]
  case c2 => intro u hu; simp at hu; subst hu; rfl
  case c3 => unfold maxLen; omega
  case c4 => omega
  case c5 => have := hb1.size; simp; omega
  intro v' w2 hown' hgrow _
  have hlt : b < w1.heap.size := (Array.getElem?_eq_some_iff.1 hbk).1
  have hb2 : w2.heap[b]? = some (.cells #[.pointer (some ⟨b, 0, none⟩), v] 94 (0, 0)) := by
    rw [hgrow.block b (by simp; omega) (fun e => hne e.symm), Lib.alloc_old w1 _ b hlt]
    exact hbk
  have d0 : w2.cell? ⟨b, 0, none⟩ = some (.pointer (some ⟨b, 0, none⟩)) := by rw [Lib.cell_of_heap hb2]; rfl
  have d1 : w2.cell? ⟨b, 1, none⟩ = some v := by rw [Lib.cell_of_heap hb2]; rfl
  have f1 : w2.frozen? ⟨b, 1, none⟩ = false := Lib.frozen_of_heap hb2 1
  obtain ⟨g, cap, rfl⟩ : ∃ g cap, v' = .slice (some ⟨g, 0, none⟩) (bs.length + 1) cap := by
    rcases hown'.2 with ⟨_, h0⟩ | ⟨g, cap, cur, fz, hv, _⟩
    · omega
    · exact ⟨g, cap, hv⟩
  go_wp2
  go_ret
  refine ⟨rfl, .inr ?_, ?_, ?_⟩
  · exact Lib.BuilderAtF.put (T := 94) (e := 5) hB hb2 (bs' := bs ++ [.int .u8 c]) (by simpa using hown') (by decide)
  · exact ((hb1.alloc (by have := hb1.size; omega) _).grown hgrow (by have := hb1.size; simp; omega) (fun k hk => (hown.lt k hk).1)).setCell (p := ⟨b, 1, none⟩) hB _
  · exact ((ok1.alloc _).grown hgrow (fun g hg => by obtain ⟨c, fz, h⟩ := rowF_cells hown g hg; exact ⟨c, fz, by rw [Lib.alloc_old w1 _ g (Array.getElem?_eq_some_iff.1 h).1]; exact h⟩)).setCell _ rfl _

set_option maxRecDepth 100000 in
set_option maxHeartbeats 1000000 in
theorem writeString_k (B b : Nat) (bs : List Value) (s : ByteArray) (w : World) (h : IsB B b bs w) (hlen : bs.length + s.size ≤ 140737488355328) (hBw : B ≤ w.heap.size) :
    Calls Tryz.prog 52 #[.pointer (some ⟨b, 0, none⟩), .string s] w fun e w' => e = .returned (.tuple #[.int .i64 s.size, .nilIface]) ∧ IsB B b (bs ++ Lib.strCells s) w' ∧ Below B w w' ∧ Lib.OthersKept 5 (some b) w w' := by
  obtain ⟨i0, hi, hz0, hz1, hz2⟩ := info_parts info_u8
  go_enter Tryz.func52, Tryz.ntmps52
  go_wp2_with (go_at_call 95; refine (copyCheck_any B b bs _ h).mono ?_)
  rintro e w1 ⟨rfl, h1, hb1, ok1⟩
  obtain ⟨hB, v, hbk, hown, hne⟩ := h1
  have c0 : w1.cell? ⟨b, 0, none⟩ = some (.pointer (some ⟨b, 0, none⟩)) := by rw [Lib.cell_of_heap hbk]; rfl
  have c1 : w1.cell? ⟨b, 1, none⟩ = some v := by rw [Lib.cell_of_heap hbk]; rfl
  go_wp2_with (at_builtin; refine Lib.wpList_append_own_stringF _ rfl _ _ 92 9 rfl B 5 i0 Tryz.underlying92 Tryz.underlying9 hi hz0 hz1 hz2 _ _ _ rfl hown s rfl ?c3 ?c4 ?c5 ?_)
  case c3 => unfold maxLen; omega
  case c4 => omega
  case c5 => have := hb1.size; omega
  intro v' w2 hown' hgrow _
  have hlt : b < w1.heap.size := (Array.getElem?_eq_some_iff.1 hbk).1
  have hb2 : w2.heap[b]? = some (.cells #[.pointer (some ⟨b, 0, none⟩), v] 94 (0, 0)) := by
    rw [hgrow.block b hlt (fun e => hne e.symm)]
    exact hbk
  have d0 : w2.cell? ⟨b, 0, none⟩ = some (.pointer (some ⟨b, 0, none⟩)) := by rw [Lib.cell_of_heap hb2]; rfl
  have d1 : w2.cell? ⟨b, 1, none⟩ = some v := by rw [Lib.cell_of_heap hb2]; rfl
  have f1 : w2.frozen? ⟨b, 1, none⟩ = false := Lib.frozen_of_heap hb2 1
  obtain ⟨ao, n', cap, rfl⟩ : ∃ ao n' cap, v' = .slice ao n' cap := by
    rcases hown'.2 with ⟨hv, _⟩ | ⟨g, cap, cur, fz, hv, _⟩
    · exact ⟨_, _, _, hv⟩
    · exact ⟨_, _, _, hv⟩
  go_wp2
  go_ret2
  refine ⟨rfl, .inr ?_, ?_, ?_⟩
  · exact Lib.BuilderAtF.put (T := 94) (e := 5) hB hb2 (bs' := bs ++ Lib.strCells s) (by simpa [Lib.strCells_length] using hown') (by decide)
  · exact (hb1.grown hgrow (by have := hb1.size; omega) (fun k hk => (hown.lt k hk).1)).setCell (p := ⟨b, 1, none⟩) hB _
  · exact (ok1.grown hgrow (fun g hg => rowF_cells hown g hg)).setCell _ rfl _

/-- What AppendRune leaves. -/
def ArPost (B : Nat) (xs : List Value) (w : World) (e : Ending) (w' : World) : Prop :=
  ∃ v, e = .returned v ∧ w'.ownsRowF B 5 1 v xs.length xs ∧ Below B w w' ∧ Lib.OthersKept 5 none w w'
set_option maxRecDepth 100000 in
set_option maxHeartbeats 1000000 in
theorem appendRune_ascii (B : Nat) (v : Value) (n : Nat) (xs : List Value) (r : Nat) (w : World) (hr : r < 128) (hown : w.ownsRowF B 5 1 v n xs) (hlen : n + 1 ≤ 140737488355328) (hBw : B ≤ w.heap.size) :
    Calls Tryz.prog 235 #[v, .int .i32 (r : Int)] w fun e w' => ArPost B (xs ++ [.int .u8 (r : Int)]) w e w' := by
  obtain ⟨i0, hi, hz0, hz1, hz2⟩ := info_parts info_u8
  have hxl : xs.length = n := by have := hown.1; omega
  go_enter Tryz.func235, Tryz.ntmps235
  go_wp2_with (at_builtin; refine wpList_append_ownF _ rfl _ _ 92 rfl B 5 i0 (.int .u8 0) 1 1 Tryz.underlying92 hi hz0 hz1 hz2 rfl (by decide) _ _ _ rfl (hown.alloc _) ⟨w.heap.size, 0, none⟩ 1 1 [.int .u8 (r : Int)] rfl rfl ?c1 ?c2 ?c3 ?c4 ?c5 ?_)
  case c1 =>
    intro j u hj
    match j, hj with
    | 0, hj => simp at hj; subst hj; simp [Addr.add]
  case c2 => intro u hu; simp at hu; subst hu; rfl
  case c3 => unfold maxLen; omega
  case c4 => omega
  case c5 => simp; omega
  intro v' w2 hown' hgrow _
  have HR : Hid (ArPost B (xs ++ [.int .u8 (r : Int)]) w (.returned v') w2) := by
    refine ⟨v', rfl, ?_, ((Below.refl _ _).alloc hBw _).grown hgrow (by simp; omega) (fun k hk => (hown.lt k hk).1), ((Lib.OthersKept.refl _ _ _).alloc _).grown hgrow (fun g hg => by obtain ⟨c, fz, h⟩ := rowF_cells hown g hg; exact ⟨c, fz, by rw [Lib.alloc_old w _ g (Array.getElem?_eq_some_iff.1 h).1]; exact h⟩)⟩
    rw [List.length_append, hxl]
    exact hown'
  clear hgrow hown' hown
  go_wp2
  go_ret
  exact HR.out
set_option maxRecDepth 100000 in
set_option maxHeartbeats 1000000 in
theorem writeRune_ascii (B b : Nat) (bs : List Value) (r : Nat) (w : World) (hr : r < 128) (h : IsB B b bs w) (hlen : bs.length + 1 ≤ 140737488355328) (hBw : B ≤ w.heap.size) :
    Calls Tryz.prog 212 #[.pointer (some ⟨b, 0, none⟩), .int .i32 (r : Int)] w fun e w' => e = .returned (.tuple #[.int .i64 1, .nilIface]) ∧ IsB B b (bs ++ [.int .u8 (r : Int)]) w' ∧ Below B w w' ∧ Lib.OthersKept 5 (some b) w w' := by
  go_enter Tryz.func212, Tryz.ntmps212
  go_wp2_with (go_at_call 95; refine (copyCheck_any B b bs _ h).mono ?_)
  rintro e w1 ⟨rfl, h1, hb1, ok1⟩
  obtain ⟨hB, v, hbk, hown, hne⟩ := h1
  have c0 : w1.cell? ⟨b, 0, none⟩ = some (.pointer (some ⟨b, 0, none⟩)) := by rw [Lib.cell_of_heap hbk]; rfl
  have c1 : w1.cell? ⟨b, 1, none⟩ = some v := by rw [Lib.cell_of_heap hbk]; rfl
  obtain ⟨ao, cap, rfl⟩ : ∃ ao cap, v = .slice ao bs.length cap := by
    rcases hown.2 with ⟨hv, h0⟩ | ⟨g, cap, cur, fz, hv, _⟩
    · exact ⟨none, 0, by rw [h0]; exact hv⟩
    · exact ⟨_, _, hv⟩
  have hs1 := hb1.size
  go_wp2_with fail
  refine (appendRune_ascii B _ bs.length bs r _ hr hown hlen (by omega)).mono ?_
  rintro e w2 ⟨v', rfl, hown', hb2, ok2⟩
  have hb2k : w2.heap[b]? = some (.cells #[.pointer (some ⟨b, 0, none⟩), .slice ao bs.length cap] 94 (0, 0)) := ok2 b _ hbk (by simp) (fun c fz e => by cases e)
  have d0 : w2.cell? ⟨b, 0, none⟩ = some (.pointer (some ⟨b, 0, none⟩)) := by rw [Lib.cell_of_heap hb2k]; rfl
  have d1 : w2.cell? ⟨b, 1, none⟩ = some (.slice ao bs.length cap) := by rw [Lib.cell_of_heap hb2k]; rfl
  have f1 : w2.frozen? ⟨b, 1, none⟩ = false := Lib.frozen_of_heap hb2k 1
  obtain ⟨g, cap', rfl⟩ : ∃ g cap', v' = .slice (some ⟨g, 0, none⟩) (bs ++ [Value.int .u8 (r : Int)]).length cap' := by
    rcases hown'.2 with ⟨_, h0⟩ | ⟨g, cap, cur, fz, hv, _⟩
    · simp at h0
    · exact ⟨g, cap, hv⟩
  have HR : Hid (IsB B b (bs ++ [.int .u8 (r : Int)]) (w2.setCell ⟨b, 1, none⟩ (.slice (some ⟨g, 0, none⟩) (bs ++ [Value.int .u8 (r : Int)]).length cap')) ∧ Below B w (w2.setCell ⟨b, 1, none⟩ (.slice (some ⟨g, 0, none⟩) (bs ++ [Value.int .u8 (r : Int)]).length cap')) ∧ Lib.OthersKept 5 (some b) w (w2.setCell ⟨b, 1, none⟩ (.slice (some ⟨g, 0, none⟩) (bs ++ [Value.int .u8 (r : Int)]).length cap'))) := by
    refine ⟨.inr (Lib.BuilderAtF.put (T := 94) (e := 5) hB hb2k hown' (by decide)), (hb1.trans hb2).setCell (p := ⟨b, 1, none⟩) hB _, Lib.OthersKept.setCell (b := b) (ok1.trans (fun k o hk _ ho => ok2 k o hk (by simp) ho)) ⟨b, 1, none⟩ rfl _⟩
  rw [List.length_append, List.length_singleton] at HR ⊢
  clear hown' hown hb2 ok2 hbk hne
  go_wp2
  go_ret2
  refine ⟨by simp; omega, HR.out.1, HR.out.2.1, HR.out.2.2⟩
end Go.Proofs.YtacpllmlpmllbaaGreatDoor.V
