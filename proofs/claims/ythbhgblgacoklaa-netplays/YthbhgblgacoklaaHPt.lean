/- The reference's Part: its walk. -/
import Derived.Test.YthbhgblgacoklaaHCt
namespace Go.Proofs.Ythbhgblgacoklaa
open Go.RowKit

/-- Those that are apart still, of the first k. -/
def stA (A : List (Int × Int)) (f t : Int) (k : Nat) : List (Int × Int) := (A.take k).filter fun x => !eqH x f t
theorem stA_yes {A : List (Int × Int)} {f t : Int} {k : Nat} (hk : k < A.length) (h : eqH A[k] f t = false) : stA A f t (k + 1) = stA A f t k ++ [A[k]] := by
  unfold stA
  rw [List.take_succ_eq_append_getElem hk, List.filter_append]
  simp [h]
theorem stA_no {A : List (Int × Int)} {f t : Int} {k : Nat} (hk : k < A.length) (h : eqH A[k] f t = true) : stA A f t (k + 1) = stA A f t k := by
  unfold stA
  rw [List.take_succ_eq_append_getElem hk, List.filter_append]
  simp [h]
theorem stA_len (A : List (Int × Int)) (f t : Int) (k : Nat) : (stA A f t k).length ≤ k := by
  unfold stA
  have := List.length_filter_le (fun x => !eqH x f t) (A.take k)
  rw [List.length_take] at this
  omega
theorem h2V_snoc (l : List (Int × Int)) (x : Int × Int) : h2V (l ++ [x]) = h2V l ++ [.int .i64 x.1, .int .i64 x.2] := by simp [h2V]
theorem info_rh : (Try.prog.info? 40).map (fun i => (i.zero, i.size, i.bytes)) = some (some (.agg #[.int .i64 0, .int .i64 0]), 2, 16) := by kernel_rfl
def prtR (A : List (Int × Int)) (f t : Int) (on : Bool) : List (Int × Int) × Int := if hopB f t = true then (stA A f t A.length ++ (if on = true then [(f, t)] else []), 0) else (A, 1)
def PtPost (r : List (Int × Int) × Int) (v u0 : Value) (w : World) (e : Ending) (w' : World) : Prop := ∃ u, e = .returned (.tuple #[.agg #[v, u], .int .i64 r.2]) ∧ IsRow w' 2 u r.1.length (h2V r.1) ∧ Below w.heap.size w w' ∧ FrB w u u0
abbrev box4 (w : World) (v u : Value) (f t : Int) : World := ((w.alloc (.cells #[v, u] 28)).alloc (.cells #[.int .i64 f, .int .i64 t] 40)).alloc (.cells #[.slice none 0 0, .slice none 0 0] 28)
theorem box4_facts {w : World} {v u : Value} {f t : Int} {l : List (Int × Int)} (hr : IsRow w 2 u l.length (h2V l)) :
    w.heap.size + 2 < (box4 w v u f t).heap.size ∧ ∀ w', Below (box4 w v u f t).heap.size (box4 w v u f t) w' → w'.heap[w.heap.size]? = some (.cells #[v, u] 28) ∧ w'.heap[w.heap.size + 1]? = some (.cells #[.int .i64 f, .int .i64 t] 40) ∧ w'.heap[w.heap.size + 2]? = some (.cells #[.slice none 0 0, .slice none 0 0] 28) ∧ IsRow w' 2 u l.length (h2V l) ∧ Below w.heap.size w w' := by
  have b1 : Below w.heap.size w ((w.alloc (.cells #[v, u] 28)).alloc (.cells #[.int .i64 f, .int .i64 t] 40)) := (al_b w _).trans ((al_b _ _).mono (al_b w _).size)
  have b0 : Below w.heap.size w (box4 w v u f t) := b1.trans ((al_b _ _).mono b1.size)
  have hn : w.heap.size + 2 < (box4 w v u f t).heap.size := by simp [box4]
  refine ⟨hn, fun w' h => ⟨?_, ?_, ?_, hr.below (b0.trans (h.mono b0.size)), b0.trans (h.mono b0.size)⟩⟩
  · rw [h.block _ (by omega)]
    show (((w.heap.push _).push _).push _)[w.heap.size]? = _
    rw [Array.getElem?_push, if_neg (by first | (simp; done) | (simp; omega)), Array.getElem?_push, if_neg (by first | (simp; done) | (simp; omega)), Array.getElem?_push, if_pos rfl]
  · rw [h.block _ (by omega)]
    show (((w.heap.push _).push _).push _)[w.heap.size + 1]? = _
    rw [Array.getElem?_push, if_neg (by first | (simp; done) | (simp; omega)), Array.getElem?_push, if_pos (by simp)]
  · rw [h.block _ hn]
    show (((w.heap.push _).push _).push _)[w.heap.size + 2]? = _
    rw [Array.getElem?_push, if_pos (by simp)]
set_option maxRecDepth 100000 in
set_option maxHeartbeats 8000000 in
theorem part_any (av : Option Addr) (nv cv : Nat) (u : Value) (A : List (Int × Int)) (f t : Int) (on : Bool) (w : World) (hr : IsRow w 2 u A.length (h2V A)) (hl : A.length ≤ 100000) :
    Calls Try.prog 31 #[.agg #[.slice av nv cv, u], hV f t, .bool on] w fun e w' => PtPost (prtR A f t on) (.slice av nv cv) u w e w' := by
  obtain ⟨a0, cap0, rfl⟩ := hr.form
  obtain ⟨i0, hi0, hz0, hz1, hz2⟩ := info_parts info_rh
  obtain ⟨hn1, hG⟩ := box4_facts (v := .slice av nv cv) (f := f) (t := t) hr
  obtain ⟨W0, hW0⟩ : ∃ W0, W0 = box4 w (.slice av nv cv) (.slice a0 A.length cap0) f t := ⟨_, rfl⟩
  rw [← hW0] at hn1 hG
  have HG : Hid _ := hG
  have HC : Hid (Calls Try.prog 14 #[hV f t] W0 fun e w' => e = .returned (.bool (hopB f t)) ∧ Below W0.heap.size W0 w') := refIs_any f t W0
  have HRw : Hid (∀ w', Below w.heap.size w w' → IsRow w' 2 (.slice a0 A.length cap0) A.length (h2V A)) := fun w' h => hr.below h
  clear hG hr
  cases hc : hopB f t with
  | false =>
    have HE : Hid (prtR A f t on = (A, 1)) := by show _ = _; unfold prtR; rw [hc]; rfl
    rw [hc] at HC
    clear hc
    go_enter Try.func31, Try.ntmps31
    go_wp2_with fail
    unfold box4 at hW0
    rw [← hW0]
    clear hW0
    refine HC.out.mono ?_
    rintro e w1 ⟨rfl, hb1⟩
    obtain ⟨x0, -, x2, -, hbw⟩ := HG.out w1 hb1
    obtain ⟨g0, g1, f0, f1⟩ := two_at x0
    obtain ⟨g2, g3, f2, f3⟩ := two_at x2
    have HX : Hid (∀ y z, Below w.heap.size w ((w1.setCell ⟨w.heap.size + 2, 0, none⟩ y).setCell ⟨w.heap.size + 2, 1, none⟩ z)) := fun y z => (hbw.setCell (p := ⟨w.heap.size + 2, 0, none⟩) (Nat.le_add_right _ 2) y).setCell (p := ⟨w.heap.size + 2, 1, none⟩) (Nat.le_add_right _ 2) z
    clear hb1 x0 x2 hbw HG
    go_wp2_with fail
    try simp only [Exit.inBlock, Exit.then]
    refine bodyPost_ret (v := .tuple #[.agg #[.slice av nv cv, .slice a0 A.length cap0], .int .i64 1]) ?_ rfl ⟨_, by rw [HE.out], by rw [HE.out]; exact HRw.out _ (HX.out _ _), HX.out _ _, .inl rfl⟩
    rw [results_cs rfl]; go_simp
  | true =>
    rw [hc] at HC
    have HE : Hid (prtR A f t on = (stA A f t A.length ++ (if on = true then [(f, t)] else []), 0)) := by show _ = _; unfold prtR; rw [if_pos hc]
    clear hc
    go_enter Try.func31, Try.ntmps31
    go_wp2_with fail
    unfold box4 at hW0
    rw [← hW0]
    clear hW0
    refine HC.out.mono ?_
    rintro e w1 ⟨rfl, hb1⟩
    go_wp2_with fail
    go_loopw [8, 9] (fun o i wr => ∃ k : Nat, k ≤ A.length ∧ i = .int .i64 (k : Int) ∧ wr.ownsRow W0.heap.size 40 2 o (stA A f t k).length (h2V (stA A f t k)) ∧ Below W0.heap.size W0 wr) (fun _ i _ => A.length - (intOf i).toNat)
    case atStart => exact ⟨0, Nat.zero_le _, rfl, World.ownsRow_nil _ _ _ _, hb1⟩
    case round =>
      clear hb1
      obtain ⟨k, hk, rfl, hown, hB⟩ := hrel
      have hsz := hB.size
      obtain ⟨x0, x1, x2, hrow, hbw⟩ := HG.out wr hB
      obtain ⟨g0, g1, f0, f1⟩ := two_at x0
      obtain ⟨k0, k1, -, -⟩ := two_at x1
      by_cases hlk : k < A.length
      · obtain ⟨b, off, rfl, hlt, hcap, hc⟩ := hp_at hrow (by omega)
        obtain ⟨c0, c1⟩ := hc k hlk
        have q1 : (0 : Int) ≤ (k : Int) := by omega
        have q2 : (k : Int) < (A.length : Int) := by omega
        have HB : Hid (Below W0.heap.size W0 wr) := hB
        have HO : Hid (wr.ownsRow W0.heap.size 40 2 u8 (stA A f t k).length (h2V (stA A f t k))) := hown
        have HKy : Hid (eqH A[k] f t = false → stA A f t (k + 1) = stA A f t k ++ [A[k]]) := stA_yes hlk
        have HKn : Hid (eqH A[k] f t = true → stA A f t (k + 1) = stA A f t k) := stA_no hlk
        have hpl := stA_len A f t k
        generalize A[k]'hlk = x at *
        obtain ⟨y, z⟩ := x
        dsimp only at c0 c1
        have HQ : Hid (eqH (y, z) f t = (((y == f) && (z == t)) || ((y == t) && (z == f)))) := rfl
        clear hB hbw hrow hc hown x0 x1 x2 f0 f1
        by_cases h1 : y = f
        · subst h1
          by_cases h2 : z = t
          · subst h2
            have HT : Hid (stA A y z (k + 1) = stA A y z k) := HKn.out (by rw [HQ.out]; simp)
            clear HKy HKn HQ
            go_wp2_with fail
            go_quiet (fail)
            go_wp2
            go_roundw
            case rel => exact ⟨k + 1, by omega, by simp, by rw [HT.out]; exact HO.out.kept (row := none) ⟨rfl, rfl, rfl, Nat.le_refl _, fun _ _ _ => rfl⟩ (by cases hv : u8.ownBlock <;> simp), drewN_b HB.out _⟩
            case measure => simp [intOf]; omega
          · have e2 : (z == t) = false := by rw [beq_eq_false_iff_ne]; exact h2
            by_cases h3 : y = t
            · subst h3
              clear h2
              have HT : Hid (stA A y y (k + 1) = stA A y y k ++ [(y, z)]) := HKy.out (by rw [HQ.out]; simp [e2])
              clear HKy HKn HQ
              have HO2 : Hid (∀ n, (wr.drewN n).ownsRow W0.heap.size 40 2 u8 (stA A y y k).length (h2V (stA A y y k)) ∧ Below W0.heap.size W0 (wr.drewN n) ∧ (wr.drewN n).cell? ⟨w.heap.size, 1, none⟩ = some (.slice (some ⟨b, off, none⟩) A.length cap0) ∧ (wr.drewN n).cell? ⟨b, off + k * 2, none⟩ = some (.int .i64 y) ∧ (wr.drewN n).cell? ⟨b, off + k * 2 + 1, none⟩ = some (.int .i64 z)) := fun n => ⟨HO.out.kept (row := none) ⟨rfl, rfl, rfl, Nat.le_refl _, fun _ _ _ => rfl⟩ (by cases hv : u8.ownBlock <;> simp), drewN_b HB.out n, g1, c0, c1⟩
              go_wp2_with fail
              go_quiet (fail)
              obtain ⟨hO2, hB2, g1', c0', c1'⟩ := HO2.out nq
              have HO3 : Hid _ := hO2
              have HB3 : Hid _ := hB2
              have hs3 := hB2.size
              clear HO HO2 hO2 hB2 g0 g1 k0 k1 c0 c1 HB
              generalize wr.drewN nq = w3 at *
              go_wp2_with (at_builtin; go_loud (refine wpl_appE w3 rfl (.tmp 41) (.tmp 47) 26 40 rfl i0 _ 2 16 Try.underlying26 hi0 hz0 hz1 hz2 rfl (by decide) W0.heap.size u8 (stA A y y k).length _ rfl HO3.out [.int .i64 y, .int .i64 z] rfl _ rfl rfl (by intro u hu; simp at hu; rcases hu with rfl | rfl <;> rfl) (by omega) (by unfold maxLen; omega) (by omega) ?_; intro v4 w4 hown4 hb4; clear g1' c0' c1'))
              have HO4 : Hid (w4.ownsRow W0.heap.size 40 2 v4 (stA A y y (k + 1)).length (h2V (stA A y y (k + 1)))) := by show World.ownsRow _ _ _ _ _ _ _; rw [HT.out, h2V_snoc, List.length_append]; exact hown4
              have HB4 : Hid (Below W0.heap.size W0 w4) := HB3.out.trans hb4
              clear hown4 hb4 HT HO3 HB3
              go_wp2
              go_roundw
              case rel => exact ⟨k + 1, by omega, by simp, HO4.out, HB4.out⟩
              case measure => simp [intOf]; omega
            · have e3 : (y == t) = false := by rw [beq_eq_false_iff_ne]; exact h3
              clear h2 h3
              have HT : Hid (stA A y t (k + 1) = stA A y t k ++ [(y, z)]) := HKy.out (by rw [HQ.out]; simp [e2, e3])
              clear HKy HKn HQ
              have HO2 : Hid (∀ n, (wr.drewN n).ownsRow W0.heap.size 40 2 u8 (stA A y t k).length (h2V (stA A y t k)) ∧ Below W0.heap.size W0 (wr.drewN n) ∧ (wr.drewN n).cell? ⟨w.heap.size, 1, none⟩ = some (.slice (some ⟨b, off, none⟩) A.length cap0) ∧ (wr.drewN n).cell? ⟨b, off + k * 2, none⟩ = some (.int .i64 y) ∧ (wr.drewN n).cell? ⟨b, off + k * 2 + 1, none⟩ = some (.int .i64 z)) := fun n => ⟨HO.out.kept (row := none) ⟨rfl, rfl, rfl, Nat.le_refl _, fun _ _ _ => rfl⟩ (by cases hv : u8.ownBlock <;> simp), drewN_b HB.out n, g1, c0, c1⟩
              go_wp2_with fail
              go_quiet (fail)
              obtain ⟨hO2, hB2, g1', c0', c1'⟩ := HO2.out nq
              have HO3 : Hid _ := hO2
              have HB3 : Hid _ := hB2
              have hs3 := hB2.size
              clear HO HO2 hO2 hB2 g0 g1 k0 k1 c0 c1 HB
              generalize wr.drewN nq = w3 at *
              go_wp2_with (at_builtin; go_loud (refine wpl_appE w3 rfl (.tmp 41) (.tmp 47) 26 40 rfl i0 _ 2 16 Try.underlying26 hi0 hz0 hz1 hz2 rfl (by decide) W0.heap.size u8 (stA A y t k).length _ rfl HO3.out [.int .i64 y, .int .i64 z] rfl _ rfl rfl (by intro u hu; simp at hu; rcases hu with rfl | rfl <;> rfl) (by omega) (by unfold maxLen; omega) (by omega) ?_; intro v4 w4 hown4 hb4; clear g1' c0' c1'))
              have HO4 : Hid (w4.ownsRow W0.heap.size 40 2 v4 (stA A y t (k + 1)).length (h2V (stA A y t (k + 1)))) := by show World.ownsRow _ _ _ _ _ _ _; rw [HT.out, h2V_snoc, List.length_append]; exact hown4
              have HB4 : Hid (Below W0.heap.size W0 w4) := HB3.out.trans hb4
              clear hown4 hb4 HT HO3 HB3
              go_wp2
              go_roundw
              case rel => exact ⟨k + 1, by omega, by simp, HO4.out, HB4.out⟩
              case measure => simp [intOf]; omega
        · have e1 : (y == f) = false := by rw [beq_eq_false_iff_ne]; exact h1
          by_cases h3 : y = t
          · subst h3
            by_cases h4 : z = f
            · subst h4
              clear h1
              have HT : Hid (stA A z y (k + 1) = stA A z y k) := HKn.out (by rw [HQ.out]; simp)
              clear HKy HKn HQ
              go_wp2_with fail
              go_quiet (fail)
              go_wp2
              go_roundw
              case rel => exact ⟨k + 1, by omega, by simp, by rw [HT.out]; exact HO.out.kept (row := none) ⟨rfl, rfl, rfl, Nat.le_refl _, fun _ _ _ => rfl⟩ (by cases hv : u8.ownBlock <;> simp), drewN_b HB.out _⟩
              case measure => simp [intOf]; omega
            · have e4 : (z == f) = false := by rw [beq_eq_false_iff_ne]; exact h4
              clear h1 h4
              have HT : Hid (stA A f y (k + 1) = stA A f y k ++ [(y, z)]) := HKy.out (by rw [HQ.out]; simp [e1, e4])
              clear HKy HKn HQ
              have HO2 : Hid (∀ n, (wr.drewN n).ownsRow W0.heap.size 40 2 u8 (stA A f y k).length (h2V (stA A f y k)) ∧ Below W0.heap.size W0 (wr.drewN n) ∧ (wr.drewN n).cell? ⟨w.heap.size, 1, none⟩ = some (.slice (some ⟨b, off, none⟩) A.length cap0) ∧ (wr.drewN n).cell? ⟨b, off + k * 2, none⟩ = some (.int .i64 y) ∧ (wr.drewN n).cell? ⟨b, off + k * 2 + 1, none⟩ = some (.int .i64 z)) := fun n => ⟨HO.out.kept (row := none) ⟨rfl, rfl, rfl, Nat.le_refl _, fun _ _ _ => rfl⟩ (by cases hv : u8.ownBlock <;> simp), drewN_b HB.out n, g1, c0, c1⟩
              go_wp2_with fail
              go_quiet (fail)
              obtain ⟨hO2, hB2, g1', c0', c1'⟩ := HO2.out nq
              have HO3 : Hid _ := hO2
              have HB3 : Hid _ := hB2
              have hs3 := hB2.size
              clear HO HO2 hO2 hB2 g0 g1 k0 k1 c0 c1 HB
              generalize wr.drewN nq = w3 at *
              go_wp2_with (at_builtin; go_loud (refine wpl_appE w3 rfl (.tmp 41) (.tmp 47) 26 40 rfl i0 _ 2 16 Try.underlying26 hi0 hz0 hz1 hz2 rfl (by decide) W0.heap.size u8 (stA A f y k).length _ rfl HO3.out [.int .i64 y, .int .i64 z] rfl _ rfl rfl (by intro u hu; simp at hu; rcases hu with rfl | rfl <;> rfl) (by omega) (by unfold maxLen; omega) (by omega) ?_; intro v4 w4 hown4 hb4; clear g1' c0' c1'))
              have HO4 : Hid (w4.ownsRow W0.heap.size 40 2 v4 (stA A f y (k + 1)).length (h2V (stA A f y (k + 1)))) := by show World.ownsRow _ _ _ _ _ _ _; rw [HT.out, h2V_snoc, List.length_append]; exact hown4
              have HB4 : Hid (Below W0.heap.size W0 w4) := HB3.out.trans hb4
              clear hown4 hb4 HT HO3 HB3
              go_wp2
              go_roundw
              case rel => exact ⟨k + 1, by omega, by simp, HO4.out, HB4.out⟩
              case measure => simp [intOf]; omega
          · have e3 : (y == t) = false := by rw [beq_eq_false_iff_ne]; exact h3
            clear h1 h3
            have HT : Hid (stA A f t (k + 1) = stA A f t k ++ [(y, z)]) := HKy.out (by rw [HQ.out]; simp [e1, e3])
            clear HKy HKn HQ
            have HO2 : Hid (∀ n, (wr.drewN n).ownsRow W0.heap.size 40 2 u8 (stA A f t k).length (h2V (stA A f t k)) ∧ Below W0.heap.size W0 (wr.drewN n) ∧ (wr.drewN n).cell? ⟨w.heap.size, 1, none⟩ = some (.slice (some ⟨b, off, none⟩) A.length cap0) ∧ (wr.drewN n).cell? ⟨b, off + k * 2, none⟩ = some (.int .i64 y) ∧ (wr.drewN n).cell? ⟨b, off + k * 2 + 1, none⟩ = some (.int .i64 z)) := fun n => ⟨HO.out.kept (row := none) ⟨rfl, rfl, rfl, Nat.le_refl _, fun _ _ _ => rfl⟩ (by cases hv : u8.ownBlock <;> simp), drewN_b HB.out n, g1, c0, c1⟩
            go_wp2_with fail
            go_quiet (fail)
            obtain ⟨hO2, hB2, g1', c0', c1'⟩ := HO2.out nq
            have HO3 : Hid _ := hO2
            have HB3 : Hid _ := hB2
            have hs3 := hB2.size
            clear HO HO2 hO2 hB2 g0 g1 k0 k1 c0 c1 HB
            generalize wr.drewN nq = w3 at *
            go_wp2_with (at_builtin; go_loud (refine wpl_appE w3 rfl (.tmp 41) (.tmp 47) 26 40 rfl i0 _ 2 16 Try.underlying26 hi0 hz0 hz1 hz2 rfl (by decide) W0.heap.size u8 (stA A f t k).length _ rfl HO3.out [.int .i64 y, .int .i64 z] rfl _ rfl rfl (by intro u hu; simp at hu; rcases hu with rfl | rfl <;> rfl) (by omega) (by unfold maxLen; omega) (by omega) ?_; intro v4 w4 hown4 hb4; clear g1' c0' c1'))
            have HO4 : Hid (w4.ownsRow W0.heap.size 40 2 v4 (stA A f t (k + 1)).length (h2V (stA A f t (k + 1)))) := by show World.ownsRow _ _ _ _ _ _ _; rw [HT.out, h2V_snoc, List.length_append]; exact hown4
            have HB4 : Hid (Below W0.heap.size W0 w4) := HB3.out.trans hb4
            clear hown4 hb4 HT HO3 HB3
            go_wp2
            go_roundw
            case rel => exact ⟨k + 1, by omega, by simp, HO4.out, HB4.out⟩
            case measure => simp [intOf]; omega
      · have hk' : k = A.length := by omega
        subst hk'
        cases on with
        | false =>
          have HE2 : Hid (prtR A f t false = (stA A f t A.length, 0)) := by show _ = _; rw [HE.out]; simp
          obtain ⟨g2, g3, f2, f3⟩ := two_at x2
          obtain ⟨a5, cap5, rfl⟩ := (IsRow.own hown).form
          have HX : Hid (∀ x y z, IsRow (((wr.setCell ⟨w.heap.size, 1, none⟩ x).setCell ⟨w.heap.size + 2, 0, none⟩ y).setCell ⟨w.heap.size + 2, 1, none⟩ z) 2 (.slice a5 (stA A f t A.length).length cap5) (stA A f t A.length).length (h2V (stA A f t A.length)) ∧ Below w.heap.size w (((wr.setCell ⟨w.heap.size, 1, none⟩ x).setCell ⟨w.heap.size + 2, 0, none⟩ y).setCell ⟨w.heap.size + 2, 1, none⟩ z)) := fun x y z =>
            ⟨IsRow.own (ownsRow_setCell_below (ownsRow_setCell_below (ownsRow_setCell_below hown (a := ⟨w.heap.size, 1, none⟩) (by show w.heap.size < _; omega) x) (a := ⟨w.heap.size + 2, 0, none⟩) hn1 y) (a := ⟨w.heap.size + 2, 1, none⟩) hn1 z), ((hbw.setCell (p := ⟨w.heap.size, 1, none⟩) (Nat.le_refl _) x).setCell (p := ⟨w.heap.size + 2, 0, none⟩) (Nat.le_add_right _ 2) y).setCell (p := ⟨w.heap.size + 2, 1, none⟩) (Nat.le_add_right _ 2) z⟩
          have HFr : Hid (FrR w (.slice a5 (stA A f t A.length).length cap5)) := fun k e => by have := (hown.lt k e).1; omega
          clear hown hB hrow hbw x0 x1 x2 HG k0 k1
          go_wp2_with fail
          try simp only [Exit.inBlock, Exit.then]
          refine bodyPost_ret (v := .tuple #[.agg #[.slice av nv cv, .slice a5 (stA A f t A.length).length cap5], .int .i64 0]) ?_ rfl ⟨_, by rw [HE2.out], by rw [HE2.out]; exact (HX.out _ _ _).1, (HX.out _ _ _).2, .inr HFr.out⟩
          rw [results_cs rfl]; go_simp
        | true =>
          have HE2 : Hid (prtR A f t true = (stA A f t A.length ++ [(f, t)], 0)) := by show _ = _; rw [HE.out]; simp
          have HO : Hid (wr.ownsRow W0.heap.size 40 2 u8 (stA A f t A.length).length (h2V (stA A f t A.length))) := hown
          have HB : Hid (Below W0.heap.size W0 wr) := hB
          have hpl := stA_len A f t A.length
          clear hown hB hrow hbw x0 x1 x2 f0 f1
          go_wp2_with (at_builtin; go_loud (refine wpl_appE wr rfl (.tmp 50) (.tmp 52) 26 40 rfl i0 _ 2 16 Try.underlying26 hi0 hz0 hz1 hz2 rfl (by decide) W0.heap.size u8 (stA A f t A.length).length _ rfl HO.out [.int .i64 f, .int .i64 t] rfl _ rfl rfl (by intro u hu; simp at hu; rcases hu with rfl | rfl <;> rfl) (by omega) (by unfold maxLen; omega) (by omega) ?_; intro v4 w4 hown4 hb4; have HFr : Hid (FrR w v4) := (fun k e => by have := (hown4.lt k e).1; omega); clear g0 g1 k0 k1; have HB4 := HB.out.trans hb4; obtain ⟨x0, x1, x2, -, hbw⟩ := HG.out w4 HB4; obtain ⟨g0, g1, f0, f1⟩ := two_at x0; obtain ⟨g2, g3, f2, f3⟩ := two_at x2; obtain ⟨a5, cap5, rfl⟩ := (IsRow.own hown4).form; have HX : Hid (∀ x y z, IsRow (((w4.setCell ⟨w.heap.size, 1, none⟩ x).setCell ⟨w.heap.size + 2, 0, none⟩ y).setCell ⟨w.heap.size + 2, 1, none⟩ z) 2 (.slice a5 ((stA A f t A.length).length + 1) cap5) (stA A f t A.length ++ [((f, t) : Int × Int)]).length (h2V (stA A f t A.length ++ [((f, t) : Int × Int)])) ∧ Below w.heap.size w (((w4.setCell ⟨w.heap.size, 1, none⟩ x).setCell ⟨w.heap.size + 2, 0, none⟩ y).setCell ⟨w.heap.size + 2, 1, none⟩ z)) := fun x y z => ⟨by rw [h2V_snoc, List.length_append]; exact IsRow.own (ownsRow_setCell_below (ownsRow_setCell_below (ownsRow_setCell_below hown4 (a := ⟨w.heap.size, 1, none⟩) (by show w.heap.size < _; omega) x) (a := ⟨w.heap.size + 2, 0, none⟩) hn1 y) (a := ⟨w.heap.size + 2, 1, none⟩) hn1 z), ((hbw.setCell (p := ⟨w.heap.size, 1, none⟩) (Nat.le_refl _) x).setCell (p := ⟨w.heap.size + 2, 0, none⟩) (Nat.le_add_right _ 2) y).setCell (p := ⟨w.heap.size + 2, 1, none⟩) (Nat.le_add_right _ 2) z⟩; clear hown4 hb4 HB4 x0 x1 x2 hbw HG HO HB))
          try simp only [Exit.inBlock, Exit.then]
          refine bodyPost_ret (v := .tuple #[.agg #[.slice av nv cv, .slice a5 ((stA A f t A.length).length + 1) cap5], .int .i64 0]) ?_ rfl ⟨_, by rw [HE2.out], by rw [HE2.out]; exact (HX.out _ _ _).1, (HX.out _ _ _).2, .inr HFr.out⟩
          rw [results_cs rfl]; go_simp
end Go.Proofs.Ythbhgblgacoklaa
