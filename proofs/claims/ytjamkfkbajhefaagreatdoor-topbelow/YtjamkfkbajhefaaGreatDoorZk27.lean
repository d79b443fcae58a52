/- forest.Is: its walk. -/
import Derived.Test.YtjamkfkbajhefaaGreatDoorZk26
import Derived.Test.YtjamkfkbajhefaaGreatDoorZk23
import Derived.Test.YtjamkfkbajhefaaGreatDoorZk25
import Derived.Laws.MakeOwn
import Derived.Laws.CopyOwn
import Derived.Laws.CopyRow
import Derived.Lib.AppendZeros
import Derived.Deep.WholeRow
namespace Go.Proofs.YtjamkfkbajhefaaGreatDoor
open Go.RowKit Go.ChangeMaps

theorem str0 (s : ByteArray) : (s.toList == ([] : List UInt8)) = decide (s.size = 0) := by
  rw [Bool.eq_iff_iff, beq_iff_eq, decide_eq_true_eq, ByteArray.toList_eq]
  constructor
  · intro h
    have e : s.data.toList.length = s.size := by simp
    rw [h] at e
    exact e.symm
  · intro h
    apply List.eq_nil_of_length_eq_zero
    have e : s.data.toList.length = s.size := by simp
    omega
theorem str0' (s : ByteArray) : (s.toList == (⟨#[]⟩ : ByteArray).toList) = decide (s.size = 0) := by rw [← str0, ByteArray.toList_eq ⟨#[]⟩]
theorem chk_ch {t : Ty} (h : chkT t = true) : 1 ≤ t.ch.length := by
  unfold chkT at h
  simp only [Bool.and_eq_true, decide_eq_true_eq] at h
  exact h.1
theorem parB_0 {l : List Ty} {t : Ty} (h : t.p.size = 0) : parB l t = true := by unfold parB; rw [decide_eq_true h, Bool.true_or]
theorem parB_1 {l : List Ty} {t : Ty} (h : ¬ t.p.size = 0) (hp : parN l t.p = none) : parB l t = false := by unfold parB; rw [decide_eq_false h, Bool.false_or, hp]
theorem parB_2 {l : List Ty} {t o : Ty} (h : ¬ t.p.size = 0) (hp : parN l t.p = some o) : parB l t = belB t o := by unfold parB; rw [decide_eq_false h, Bool.false_or, hp]
theorem nmN {L : List LT} (h : NmL L) : ∀ x ∈ L, x.t.n.size ≤ 1000000 := fun x hx => (h x hx).n
/-- The first so many types may be, and rise. -/
def OkK (L : List LT) (k : Nat) : Prop := ∀ (j : Nat) (h : j < L.length), j < k → chkT L[j].t = true ∧ ∀ (i : Nat) (e : i + 1 = j), nmC (L[i]'(by omega)).t L[j].t.n < 0
theorem okK_all {L : List LT} (h : OkK L L.length) : (tys L).all chkT = true ∧ Rise (tys L) := by
  constructor
  · rw [List.all_eq_true]
    intro t ht
    obtain ⟨k, hk, rfl⟩ := List.mem_iff_getElem.1 ht
    rw [tys_len] at hk
    rw [tys_at L k hk]
    exact (h k hk hk).1
  · rw [← riseB_iff]
    unfold riseB
    rw [decide_eq_true_eq]
    intro k hk
    rw [tys_len] at hk
    rw [tys_at L k (by omega), tys_at L (k + 1) (by omega)]
    exact (h (k + 1) (by omega) (by omega)).2 k rfl
theorem is_no1 {L : List LT} {k : Nat} (hk : k < L.length) (h : chkT L[k].t = false) : isB (tys L) = false := by
  cases e : isB (tys L)
  · rfl
  · unfold isB at e
    simp only [Bool.and_eq_true, List.all_eq_true] at e
    have := e.2.1 L[k].t (by rw [← tys_at L k hk]; exact List.getElem_mem _)
    rw [h] at this
    cases this
theorem is_no2 {L : List LT} {k : Nat} (hk : k + 1 < L.length) (h : ¬ nmC (L[k]'(by omega)).t L[k + 1].t.n < 0) : isB (tys L) = false := by
  cases e : isB (tys L)
  · rfl
  · unfold isB at e
    simp only [Bool.and_eq_true, riseB_iff] at e
    have := (List.pairwise_iff_getElem.1 e.2.2.1) k (k + 1) (by rw [tys_len]; omega) (by rw [tys_len]; omega) (by omega)
    rw [tys_at L k (by omega), tys_at L (k + 1) hk] at this
    exact absurd this h
theorem is_no3 {L : List LT} {k : Nat} (hk : k < L.length) (h : parB (tys L) L[k].t = false) : isB (tys L) = false := by
  cases e : isB (tys L)
  · rfl
  · unfold isB at e
    simp only [Bool.and_eq_true, List.all_eq_true] at e
    have := e.2.2.2 L[k].t (by rw [← tys_at L k hk]; exact List.getElem_mem _)
    rw [h] at this
    cases this
theorem is_yes {L : List LT} (h0 : L.length ≤ 200) (h1 : OkK L L.length) (h2 : ∀ (k : Nat) (h : k < L.length), parB (tys L) L[k].t = true) : isB (tys L) = true := by
  obtain ⟨a, b⟩ := okK_all h1
  unfold isB
  rw [a, (riseB_iff _).2 b, tys_len, decide_eq_true h0, Bool.true_and, Bool.true_and, Bool.true_and, List.all_eq_true]
  intro t ht
  obtain ⟨k, hk, rfl⟩ := List.mem_iff_getElem.1 ht
  rw [tys_len] at hk
  rw [tys_at L k hk]
  exact h2 k hk
set_option maxRecDepth 100000 in
set_option maxHeartbeats 4000000 in
theorem is_any (v : Value) (L : List LT) (w : World) (hr : IsTys w v L) (hl : L.length ≤ 1000000) (hn : NmL L) (hW : W3 w) :
    Calls Tryz.prog 8 #[v] w fun e w' => e = .returned (.bool (isB (tys L))) ∧ Below w.heap.size w w' := by
  obtain ⟨a0, cap0, rfl⟩ := hr.1.form
  by_cases h200 : 200 < L.length
  · have d1 : decide ((200 : Int) < (L.length : Int)) = true := by simp; omega
    have e0 : isB (tys L) = false := by unfold isB; rw [tys_len, decide_eq_false (by omega), Bool.false_and]
    rw [e0]
    clear hr
    go_enter Tryz.func8, Tryz.ntmps8
    go_wp2
    go_ret
    exact ⟨rfl, Below.refl _ _⟩
  have h200' : L.length ≤ 200 := by omega
  have d1 : decide ((200 : Int) < (L.length : Int)) = false := by simp; omega
  have HR : Hid (∀ W, Below w.heap.size w W → IsTys W (.slice a0 L.length cap0) L) := fun W h => hr.below h
  have HCk : Hid (∀ (k : Nat) (hk : k < L.length) W, Below w.heap.size w W → Calls Tryz.prog 20 #[ltV L[k]] W fun e w' => e = .returned (.bool (chkT L[k].t)) ∧ Below W.heap.size W w') := fun k hk W h => checkT_any _ _ _ _ W ((hr.2 _ (List.getElem_mem hk)).below h) (hn _ (List.getElem_mem hk)) (Utf8Tabs_below hW.t h) (ML_below hW.m h)
  have HCm : Hid (∀ (i j : Nat) (hi : i < L.length) (hj : j < L.length) W, Below w.heap.size w W → Calls Tryz.prog 21 #[.string L[i].t.n, .string L[j].t.n] W fun e w' => e = .returned (.int .i64 (nmC L[i].t L[j].t.n)) ∧ Below W.heap.size W w') := fun i j hi hj W h => compare_any _ _ W (hn _ (List.getElem_mem hi)).n (hn _ (List.getElem_mem hj)).n (Utf8Tabs_below hW.t h)
  have HPa : Hid (OkK L L.length → ∀ (k : Nat) (hk : k < L.length) W, Below w.heap.size w W → Calls Tryz.prog 22 #[.slice a0 L.length cap0, ltV L[k]] W fun e w' => PaP L L[k].t.p W e w') := fun ho k hk W h => parentOf_any _ L _ W (hr.below h).1 (by omega) (nmN hn) (hn _ (List.getElem_mem hk)).p (Utf8Tabs_below hW.t h) (okK_all ho).2
  have HBe : Hid (∀ (x y : LT), x ∈ L → y ∈ L → 1 ≤ x.t.ch.length → ∀ W, Below w.heap.size w W → Calls Tryz.prog 23 #[ltV x, ltV y] W fun e w' => e = .returned (.bool (belB x.t y.t)) ∧ Below W.heap.size W w') := fun x y hx hy h1 W h => isBelow_any x y W ((hr.2 _ hx).below h) ((hr.2 _ hy).below h) (hn _ hx) (hn _ hy) h1 (hW.below h)
  clear hr hn hW
  go_enter Tryz.func8, Tryz.ntmps8
  go_wp2_with fail
  go_loopw [3, 4, 14] (fun _ _ i wr => ∃ k : Nat, k ≤ L.length ∧ i = .int .i64 (k : Int) ∧ Hid (OkK L k) ∧ Hid (Below w.heap.size w wr)) (fun _ _ i _ => L.length - (intOf i).toNat)
  case atStart => exact ⟨0, Nat.zero_le _, rfl, (fun j h hj => absurd hj (Nat.not_lt_zero _)), Below.refl _ _⟩
  case round =>
    obtain ⟨k, hk, rfl, HO, HB⟩ := hrel
    have hsz := HB.out.size
    by_cases hlk : k < L.length
    · have dk : decide ((k : Int) < L.length) = true := by simp; omega
      obtain ⟨b, off, rfl, hbl, -, hcap, hc⟩ := t_at (HR.out _ HB.out).1 (by omega)
      obtain ⟨⟨y0, y1, y2, y3⟩, y4, y5, y6, y7⟩ := hc k hlk
      have HCk1 : Hid (∀ W, Below w.heap.size w W → Calls Tryz.prog 20 #[ltV L[k]] W fun e w' => e = .returned (.bool (chkT L[k].t)) ∧ Below W.heap.size W w') := fun W h => HCk.out k hlk W h
      have HN1 : Hid (chkT L[k].t = false → isB (tys L) = false) := is_no1 hlk
      obtain ⟨W1, hW1⟩ : ∃ W1, W1 = wr.alloc (.cells (tyA L[k].t L[k].vo L[k].va L[k].vc) 38) := ⟨_, rfl⟩
      have hA : Below wr.heap.size wr W1 := by rw [hW1]; exact al_b wr _
      have hnb : W1.heap[wr.heap.size]? = some (.cells (tyA L[k].t L[k].vo L[k].va L[k].vc) 38 (0, 0)) := by rw [hW1]; exact new_at wr _
      have hlt1 : wr.heap.size < W1.heap.size := (Array.getElem?_eq_some_iff.1 hnb).1
      have HX : Hid (∀ W, Below W1.heap.size W1 W → BxT wr.heap.size L[k].t L[k].vo L[k].va L[k].vc W) := fun W h => BxT.of ((h.block _ hlt1).trans hnb)
      have HW1 : Hid (∀ W, Below W1.heap.size W1 W → Below wr.heap.size wr W) := fun W h => hA.trans (h.mono hA.size)
      have HFin : Hid (∀ W, Below W1.heap.size W1 W → Below w.heap.size w W) := fun W h => HB.out.trans ((HW1.out W h).mono hsz)
      have HBd : Hid (Below W1.heap.size W1 W1.drew) := (Below.refl _ _).drew
      clear hnb hA
      cases hck : chkT L[k].t
      · have HE : Hid (isB (tys L) = false) := HN1.out hck
        rw [hck] at HCk1
        generalize L[k]'hlk = x at *
        clear hck HN1 hc HR HCk HCm HPa HBe HO
        go_wp2_with fail
        rw [← hW1]
        clear hW1
        refine wp_region_quiet (C := fun w' => Below W1.heap.size W1 w') (by kernel_rfl) (by kernel_rfl) HBd.out ?_
        dsimp only
        repeat (first
          | go_big_quiet_skip
          | (go_big_quiet_want
             apply Exists.intro
             refine ⟨fun W' hW' => ?_, ?_⟩
             · have hw : Below W1.heap.size W1 W' := hW'
               obtain ⟨⟨g0, g1, g2, g3⟩, g4, g5, g6, g7⟩ := HX.out W' hw
               go_simp
               first
                 | done
                 | rfl
                 | (go_at_call 20; refine (HCk1.out W' (HFin.out W' hw)).mono ?_; rintro e w'' ⟨rfl, hb⟩; exact ⟨rfl, hw.trans (hb.mono hw.size)⟩)
             go_big_quiet_on
             try simp only [Act.put, List.setIfInBounds_toArray, List.set_cons_zero, List.set_cons_succ]))
        refine wpQuiet_nil ?_
        intro w6 hqw6
        have HB6 : Hid (Below w.heap.size w w6) := HFin.out _ hqw6
        clear hqw6
        go_wp2
        go_ret
        exact ⟨by rw [HE.out]; rfl, HB6.out⟩
      rw [hck] at HCk1
      cases k with
      | zero =>
        have HO2 : Hid (OkK L 1) := fun j h hj => by
          have : j = 0 := by omega
          subst this
          exact ⟨hck, fun i e => by omega⟩
        rw [Nat.zero_mul, Nat.add_zero] at y0 y1 y2 y3 y4 y5 y6 y7
        generalize L[0]'hlk = x at *
        clear hck HN1 hc HR HCk HCm HPa HBe HO
        go_wp2_with fail
        rw [← hW1]
        clear hW1
        refine wp_region_quiet (C := fun w' => Below W1.heap.size W1 w') (by kernel_rfl) (by kernel_rfl) HBd.out ?_
        dsimp only
        repeat (first
          | go_big_quiet_skip
          | (go_big_quiet_want
             apply Exists.intro
             refine ⟨fun W' hW' => ?_, ?_⟩
             · have hw : Below W1.heap.size W1 W' := hW'
               obtain ⟨⟨g0, g1, g2, g3⟩, g4, g5, g6, g7⟩ := HX.out W' hw
               go_simp
               first
                 | done
                 | rfl
                 | (go_at_call 20; refine (HCk1.out W' (HFin.out W' hw)).mono ?_; rintro e w'' ⟨rfl, hb⟩; exact ⟨rfl, hw.trans (hb.mono hw.size)⟩)
             go_big_quiet_on
             try simp only [Act.put, List.setIfInBounds_toArray, List.set_cons_zero, List.set_cons_succ]))
        refine wpQuiet_nil ?_
        intro w6 hqw6
        have HB6 : Hid (Below w.heap.size w w6) := HFin.out _ hqw6
        clear hqw6
        go_wp2
        go_roundw
        case rel => exact ⟨1, by omega, by simp, HO2, HB6⟩
        case measure => simp [intOf]; omega
      | succ j =>
        have hj : j < L.length := by omega
        obtain ⟨⟨z0, -, -, -⟩, -, -, -, -⟩ := hc j hj
        have HZ : Hid (∀ W, Below W1.heap.size W1 W → W.cell? ⟨b, off + j * 8, none⟩ = some (.string L[j].t.n)) := fun W h => ((HW1.out W h).cell (p := ⟨b, off + j * 8, none⟩) hbl).trans z0
        have HCm1 : Hid (∀ W, Below w.heap.size w W → Calls Tryz.prog 21 #[.string L[j].t.n, .string L[j + 1].t.n] W fun e w' => e = .returned (.int .i64 (nmC L[j].t L[j + 1].t.n)) ∧ Below W.heap.size W w') := fun W h => HCm.out j (j + 1) hj hlk W h
        have HNo : Hid (¬ nmC L[j].t L[j + 1].t.n < 0 → isB (tys L) = false) := is_no2 hlk
        have HYes : Hid (nmC L[j].t L[j + 1].t.n < 0 → OkK L (j + 1 + 1)) := fun hlt i h hi => by
          by_cases e : i = j + 1
          · subst e
            exact ⟨hck, fun i' e' => by obtain rfl : i' = j := by omega
                                        exact hlt⟩
          · exact HO.out i h (by omega)
        have i1 : (0 : Int) ≤ (j : Int) := by omega
        have i2 : (j : Int) < (L.length : Int) := by omega
        have wj : IntKind.i64.wrap (j : Int) = (j : Int) := by rw [IntKind.wrap_i64]; omega
        generalize L[j + 1]'hlk = x at *
        generalize L[j]'hj = xj at *
        generalize nmC xj.t x.t.n = C at *
        clear hck HN1 hc HR HCk HCm HPa HBe HO z0
        by_cases hC : C < 0
        · have dC : decide ((0 : Int) ≤ C) = false := decide_eq_false (by omega)
          have HO2 : Hid (OkK L (j + 1 + 1)) := HYes.out hC
          clear HYes HNo hC
          go_wp2_with fail
          rw [← hW1]
          clear hW1
          refine wp_region_quiet (C := fun w' => Below W1.heap.size W1 w') (by kernel_rfl) (by kernel_rfl) HBd.out ?_
          dsimp only
          repeat (first
            | go_big_quiet_skip
            | (go_big_quiet_want
               apply Exists.intro
               refine ⟨fun W' hW' => ?_, ?_⟩
               · have hw : Below W1.heap.size W1 W' := hW'
                 obtain ⟨⟨g0, g1, g2, g3⟩, g4, g5, g6, g7⟩ := HX.out W' hw
                 have z0 := HZ.out W' hw
                 go_simp
                 first
                   | done
                   | rfl
                   | (go_at_call 20; refine (HCk1.out W' (HFin.out W' hw)).mono ?_; rintro e w'' ⟨rfl, hb⟩; exact ⟨rfl, hw.trans (hb.mono hw.size)⟩)
                   | (go_at_call 21; refine (HCm1.out W' (HFin.out W' hw)).mono ?_; rintro e w'' ⟨rfl, hb⟩; exact ⟨rfl, hw.trans (hb.mono hw.size)⟩)
               go_big_quiet_on
               try simp only [Act.put, List.setIfInBounds_toArray, List.set_cons_zero, List.set_cons_succ]))
          refine wpQuiet_nil ?_
          intro w6 hqw6
          have HB6 : Hid (Below w.heap.size w w6) := HFin.out _ hqw6
          clear hqw6
          go_wp2
          go_roundw
          case rel => exact ⟨j + 1 + 1, by omega, by simp, HO2, HB6⟩
          case measure => simp [intOf]; omega
        · have dC : decide ((0 : Int) ≤ C) = true := decide_eq_true (by omega)
          have HE : Hid (isB (tys L) = false) := HNo.out hC
          clear HYes HNo hC
          go_wp2_with fail
          rw [← hW1]
          clear hW1
          refine wp_region_quiet (C := fun w' => Below W1.heap.size W1 w') (by kernel_rfl) (by kernel_rfl) HBd.out ?_
          dsimp only
          repeat (first
            | go_big_quiet_skip
            | (go_big_quiet_want
               apply Exists.intro
               refine ⟨fun W' hW' => ?_, ?_⟩
               · have hw : Below W1.heap.size W1 W' := hW'
                 obtain ⟨⟨g0, g1, g2, g3⟩, g4, g5, g6, g7⟩ := HX.out W' hw
                 have z0 := HZ.out W' hw
                 go_simp
                 first
                   | done
                   | rfl
                   | (go_at_call 20; refine (HCk1.out W' (HFin.out W' hw)).mono ?_; rintro e w'' ⟨rfl, hb⟩; exact ⟨rfl, hw.trans (hb.mono hw.size)⟩)
                   | (go_at_call 21; refine (HCm1.out W' (HFin.out W' hw)).mono ?_; rintro e w'' ⟨rfl, hb⟩; exact ⟨rfl, hw.trans (hb.mono hw.size)⟩)
               go_big_quiet_on
               try simp only [Act.put, List.setIfInBounds_toArray, List.set_cons_zero, List.set_cons_succ]))
          refine wpQuiet_nil ?_
          intro w6 hqw6
          have HB6 : Hid (Below w.heap.size w w6) := HFin.out _ hqw6
          clear hqw6
          go_wp2
          go_ret
          exact ⟨by rw [HE.out]; rfl, HB6.out⟩
    · have hk' : k = L.length := by omega
      have dk : decide ((k : Int) < L.length) = false := by simp; omega
      have HAll : Hid (OkK L L.length) := fun j h hj => HO.out j h (by omega)
      obtain ⟨wa, rfl⟩ : ∃ wa, wa = wr := ⟨_, rfl⟩
      clear HO HCk HCm hk'
      have HPa2 : Hid (∀ (k : Nat) (hk : k < L.length) W, Below w.heap.size w W → Calls Tryz.prog 22 #[.slice a0 L.length cap0, ltV L[k]] W fun e w' => PaP L L[k].t.p W e w') := HPa.out HAll.out
      clear HPa
      go_wp2_with fail
      go_loopw [6, 7, 8, 41] (fun _ _ _ i wr => ∃ k : Nat, k ≤ L.length ∧ i = .int .i64 (k : Int) ∧ Hid (∀ (j : Nat) (h : j < L.length), j < k → parB (tys L) L[j].t = true) ∧ Hid (Below w.heap.size w wr)) (fun _ _ _ i _ => L.length - (intOf i).toNat)
      case atStart => exact ⟨0, Nat.zero_le _, rfl, (fun j h hj => absurd hj (Nat.not_lt_zero _)), HB⟩
      case round =>
        clear HB hsz dk
        obtain ⟨k, hk, rfl, HO, HB⟩ := hrel
        have hsz := HB.out.size
        by_cases hlk : k < L.length
        · have dk : decide ((k : Int) < L.length) = true := by simp; omega
          have HRx := HR.out _ HB.out
          obtain ⟨b, off, rfl, hbl, -, hcap, hc⟩ := t_at HRx.1 (by omega)
          obtain ⟨⟨y0, y1, y2, y3⟩, y4, y5, y6, y7⟩ := hc k hlk
          have HPk : Hid (∀ W, Below w.heap.size w W → Calls Tryz.prog 22 #[.slice (some ⟨b, off, none⟩) L.length cap0, ltV L[k]] W fun e w' => PaP L L[k].t.p W e w') := fun W h => HPa2.out k hlk W h
          have HBk : Hid (∀ (y : LT), y ∈ L → ∀ W, Below w.heap.size w W → Calls Tryz.prog 23 #[ltV L[k], ltV y] W fun e w' => e = .returned (.bool (belB L[k].t y.t)) ∧ Below W.heap.size W w') := fun y hy W h => HBe.out _ y (List.getElem_mem hlk) hy (chk_ch (HAll.out k hlk hlk).1) W h
          have HNo : Hid (parB (tys L) L[k].t = false → isB (tys L) = false) := is_no3 hlk
          have HYes : Hid (parB (tys L) L[k].t = true → ∀ (j : Nat) (h : j < L.length), j < k + 1 → parB (tys L) L[j].t = true) := fun hp j h hj => by
            by_cases e : j = k
            · subst e; exact hp
            · exact HO.out j h (by omega)
          obtain ⟨W1, hW1⟩ : ∃ W1, W1 = wr.alloc (.cells (tyA L[k].t L[k].vo L[k].va L[k].vc) 38) := ⟨_, rfl⟩
          have hA : Below wr.heap.size wr W1 := by rw [hW1]; exact al_b wr _
          have hnb : W1.heap[wr.heap.size]? = some (.cells (tyA L[k].t L[k].vo L[k].va L[k].vc) 38 (0, 0)) := by rw [hW1]; exact new_at wr _
          have hlt1 : wr.heap.size < W1.heap.size := (Array.getElem?_eq_some_iff.1 hnb).1
          have HX : Hid (∀ W, Below W1.heap.size W1 W → BxT wr.heap.size L[k].t L[k].vo L[k].va L[k].vc W) := fun W h => BxT.of ((h.block _ hlt1).trans hnb)
          have HFin : Hid (∀ W, Below W1.heap.size W1 W → Below w.heap.size w W) := fun W h => HB.out.trans ((hA.trans (h.mono hA.size)).mono hsz)
          have HSz : Hid (∀ W, Below W1.heap.size W1 W → wr.heap.size < W.heap.size) := fun W h => Nat.lt_of_lt_of_le hlt1 h.size
          clear hnb hA hc HRx HPa2 HBe HR HO HAll
          generalize L[k]'hlk = x at *
          go_wp2_with fail
          rw [← hW1]
          clear hW1
          refine (HPk.out _ (HFin.out _ (Below.refl _ _))).mono ?_
          rintro e w2 ⟨y, rfl, hy, hb2⟩
          have hs2 : wr.heap.size < w2.heap.size := HSz.out _ hb2
          obtain ⟨⟨g0, g1, g2, g3⟩, g4, g5, g6, g7⟩ := HX.out _ hb2
          have HB2 : Hid (Below w.heap.size w (w2.alloc (.cells (tyA y.t y.vo y.va y.vc) 38))) := (HFin.out _ hb2).alloc (HFin.out _ hb2).size _
          have eP := str0 x.t.p
          have eP2 := str0' x.t.p
          by_cases hp0 : x.t.p.size = 0
          · have HO2 : Hid (∀ (j : Nat) (h : j < L.length), j < k + 1 → parB (tys L) L[j].t = true) := HYes.out (parB_0 hp0)
            rw [decide_eq_true hp0] at eP eP2
            clear HNo HYes hy hp0 hb2 HPk HBk HX HFin HSz y0 y1 y2 y3 y4 y5 y6 y7
            generalize (parN (tys L) x.t.p).isSome = iss at *
            go_wp2
            go_roundw
            case rel => exact ⟨k + 1, by omega, by simp, HO2, HB2⟩
            case measure => simp [intOf]; omega
          rw [decide_eq_false hp0] at eP eP2
          rcases hy with ⟨hpn, rfl⟩ | ⟨hyL, hps⟩
          · have HE : Hid (isB (tys L) = false) := HNo.out (parB_1 hp0 hpn)
            rw [hpn]
            clear HNo HYes hp0 hb2 HPk HBk HX HFin HSz y0 y1 y2 y3 y4 y5 y6 y7 hpn
            go_wp2
            go_ret
            exact ⟨by rw [HE.out]; rfl, HB2.out⟩
          · have HCy : Hid (Calls Tryz.prog 23 #[ltV x, ltV y] (w2.alloc (.cells (tyA y.t y.vo y.va y.vc) 38)) fun e w' => e = .returned (.bool (belB x.t y.t)) ∧ Below (w2.alloc (.cells (tyA y.t y.vo y.va y.vc) 38)).heap.size (w2.alloc (.cells (tyA y.t y.vo y.va y.vc) 38)) w') := HBk.out y hyL _ HB2.out
            have hpb := parB_2 hp0 hps
            rw [hps]
            have HN2 : Hid (belB x.t y.t = false → isB (tys L) = false) := fun h => HNo.out (hpb.trans h)
            have HY2 : Hid (belB x.t y.t = true → ∀ (j : Nat) (h : j < L.length), j < k + 1 → parB (tys L) L[j].t = true) := fun h => HYes.out (hpb.trans h)
            generalize belB x.t y.t = BE at *
            clear HNo HYes hp0 hb2 HPk HBk HX HFin HSz y0 y1 y2 y3 y4 y5 y6 y7 hpb hps hyL
            go_wp2_with fail
            refine HCy.out.mono ?_
            rintro e w3 ⟨rfl, hb3⟩
            have HB3 : Hid (Below w.heap.size w w3) := HB2.out.trans (hb3.mono HB2.out.size)
            clear hb3 HCy HB2 g0 g1 g2 g3 g4 g5 g6 g7
            cases BE
            · have HE : Hid (isB (tys L) = false) := HN2.out rfl
              clear HN2 HY2
              go_wp2
              go_ret
              exact ⟨by rw [HE.out]; rfl, HB3.out⟩
            · have HO2 : Hid (∀ (j : Nat) (h : j < L.length), j < k + 1 → parB (tys L) L[j].t = true) := HY2.out rfl
              clear HN2 HY2
              go_wp2
              go_roundw
              case rel => exact ⟨k + 1, by omega, by simp, HO2, HB3⟩
              case measure => simp [intOf]; omega
        · have dk : decide ((k : Int) < L.length) = false := by simp; omega
          have HE : Hid (isB (tys L) = true) := is_yes h200' HAll.out fun j h => HO.out j h (by omega)
          clear HO HAll HPa2 HBe HR
          go_wp2
          go_ret
          exact ⟨by rw [HE.out]; rfl, HB.out⟩
end Go.Proofs.YtjamkfkbajhefaaGreatDoor
/- forest.Make: its walk. -/
namespace Go.Proofs.YtjamkfkbajhefaaGreatDoor
open Go.RowKit Go.ChangeMaps

end Go.Proofs.YtjamkfkbajhefaaGreatDoor
/- forest.copied: a walk. -/
namespace Go.Proofs.YtjamkfkbajhefaaGreatDoor
open Go.RowKit Go.ChangeMaps

theorem results_c1 {fn : Func} {p : Tmp} {ty : TypeId} (h : fn.results = #[.cell p ty]) (tmps : Array Value) (P : Program) (w : World) :
    (results fn tmps).run P w = ((asAddr (tmps.getD p undef)).run P w).andThen fun a w₁ => (loadVar ty a).run P w₁ := by
  simp only [results, h]
  simp [Sem.run_bind, Result.andThen]
end Go.Proofs.YtjamkfkbajhefaaGreatDoor
/- forest.Find: its walk. -/
namespace Go.Proofs.YtjamkfkbajhefaaGreatDoor
open Go.RowKit Go.ChangeMaps

/-- Rows of types are not too long to be copied. -/
def SmT (t : Ty) : Prop := t.own.length ≤ 1000 ∧ t.all.length ≤ 1000 ∧ t.ch.length ≤ 1000
def SmL (L : List LT) : Prop := ∀ x ∈ L, SmT x.t
end Go.Proofs.YtjamkfkbajhefaaGreatDoor
/- forest.allCopied: its walk. -/
namespace Go.Proofs.YtjamkfkbajhefaaGreatDoor
open Go.RowKit Go.ChangeMaps

theorem info_ty : (Tryz.prog.info? 38).map (fun i => (i.zero, i.size, i.bytes)) = some (some (.agg zTyA), 8, 128) := by kernel_rfl
theorem row_setRow {w : World} {sz n m c g : Nat} {a : Option Addr} {xs : List Value} (h : IsRow w sz (.slice a m c) n xs) (hN : NewA (g + 1) a) (cs : Array Value) : IsRow (w.setRow g cs) sz (.slice a m c) n xs := by
  refine ⟨h.1, ?_⟩
  rcases h.2 with h0 | ⟨b, off, cap, hv, hlt, q1, q2, hc⟩
  · exact .inl h0
  · have hb : g + 1 ≤ b := by
      simp only [Value.slice.injEq] at hv
      exact hN _ hv.1
    refine .inr ⟨b, off, cap, hv, by simpa using hlt, q1, q2, fun k u hu => ?_⟩
    rw [cell_setRow_other w g cs ⟨b, off + k, none⟩ (by show b ≠ g; omega)]
    exact hc k u hu
theorem ty_setRow {w : World} {y : LT} {g : Nat} (h : IsTy w y.t y.vo y.va y.vc) (hN : NewT (g + 1) y) (cs : Array Value) : IsTy (w.setRow g cs) y.t y.vo y.va y.vc := ⟨row_setRow h.1 hN.1 cs, row_setRow h.2.1 hN.2.1 cs, row_setRow h.2.2 hN.2.2 cs⟩
theorem oneT_cell (y : LT) : ∀ u ∈ enT y, u.oneCell' = true := by
  intro u hu
  simp only [enT, List.mem_cons, List.not_mem_nil, or_false] at hu
  rcases hu with rfl | rfl | rfl | rfl | rfl | rfl | rfl | rfl <;> rfl
theorem enT_tyA (y : LT) : tyA y.t y.vo y.va y.vc = (enT y).toArray := rfl
theorem cells_at {w : World} {g : Nat} {cur : Array Value} {ty : TypeId} (h : w.heap[g]? = some (.cells cur ty (0, 0))) (j : Nat) (u : Value) (hu : cur[j]? = some u) : w.cell? ((⟨g, 0, none⟩ : Addr).add j) = some u := by
  have hadd : (⟨g, 0, none⟩ : Addr).add j = ⟨g, j, none⟩ := by unfold Addr.add; split <;> simp_all
  rw [hadd, Lib.cell_of_heap h]
  exact hu
/-- So many are copied. -/
def AcI (L : List LT) (w : World) (k : Nat) (wr : World) : Prop := ∃ (M : List LT) (cur : Array Value), tys M = (tys L).take k ∧ M.length = k ∧ wr.heap[w.heap.size]? = some (.cells cur 38 (0, 0)) ∧ cur.size = L.length * 8 ∧ cur.toList.take (k * 8) = tCells M ∧ ∀ y ∈ M, IsTy wr y.t y.vo y.va y.vc ∧ NewT (w.heap.size + 1) y
/-- What an append makes of it. -/
def acRow (cur : Array Value) (k : Nat) (y : LT) : Array Value := (cur.toList.take (k * 8) ++ enT y ++ cur.toList.drop (k * 8 + 8)).toArray
theorem AcI.step {L : List LT} {w wr W1 w2 : World} {k : Nat} {cur : Array Value} {M : List LT} {y : LT} (hk : k < L.length) (h1 : tys M = (tys L).take k) (h2 : M.length = k) (h3 : wr.heap[w.heap.size]? = some (.cells cur 38 (0, 0))) (hs : cur.size = L.length * 8) (ht : cur.toList.take (k * 8) = tCells M) (h4 : ∀ y ∈ M, IsTy wr y.t y.vo y.va y.vc ∧ NewT (w.heap.size + 1) y)
    (hB : Below w.heap.size w wr) (hW : Below wr.heap.size wr W1) (hy : y.t = L[k].t) (hyI : IsTy w2 y.t y.vo y.va y.vc) (hyN : NewT W1.heap.size y) (hb2 : Below W1.heap.size W1 w2) :
    (∀ ty, (Builtin.append_ #[22, 22] ty #[.slice (some ⟨w.heap.size, 0, none⟩) k L.length, .slice (some ⟨w2.heap.size, 0, none⟩) 1 1]).run Tryz.prog (w2.alloc (.cells (tyA y.t y.vo y.va y.vc) 38)) = .ok (.slice (some ⟨w.heap.size, 0, none⟩) (k + 1) L.length) ((w2.alloc (.cells (tyA y.t y.vo y.va y.vc) 38)).setRow w.heap.size (acRow cur k y))) ∧
    AcI L w (k + 1) ((w2.alloc (.cells (tyA y.t y.vo y.va y.vc) 38)).setRow w.heap.size (acRow cur k y)) ∧ Below w.heap.size w ((w2.alloc (.cells (tyA y.t y.vo y.va y.vc) 38)).setRow w.heap.size (acRow cur k y)) := by
  obtain ⟨i0, hi0, hz0, hz1, hz2⟩ := info_parts info_ty
  have hs1 := hB.size
  have hs2 := hW.size
  have hs3 := hb2.size
  have hlt : w.heap.size < wr.heap.size := (Array.getElem?_eq_some_iff.1 h3).1
  have hal := al_b w2 (.cells (tyA y.t y.vo y.va y.vc) 38)
  have hfar : Below wr.heap.size wr (w2.alloc (.cells (tyA y.t y.vo y.va y.vc) 38)) := (hW.trans (hb2.mono hs2)).trans (hal.mono (by omega))
  have hg : (w2.alloc (.cells (tyA y.t y.vo y.va y.vc) 38)).heap[w.heap.size]? = some (.cells cur 38 (0, 0)) := (hfar.block _ hlt).trans h3
  have hn : (w2.alloc (.cells (tyA y.t y.vo y.va y.vc) 38)).heap[w2.heap.size]? = some (.cells (tyA y.t y.vo y.va y.vc) 38 (0, 0)) := new_at w2 _
  have hyN' : NewT (w.heap.size + 1) y := hyN.le (by omega)
  refine ⟨fun ty => ?_, ⟨M ++ [y], acRow cur k y, ?_, by simp [h2], setRow_heap _ _ _ _ _ _ hg, ?_, ?_, ?_⟩, below_setRow (hB.trans (hfar.mono hs1)) (Nat.le_refl _) _⟩
  · have := run_append_room (P := Tryz.prog) (w2.alloc (.cells (tyA y.t y.vo y.va y.vc) 38)) 22 ty 38 i0 Tryz.underlying22 hi0 w.heap.size k L.length cur hg ⟨w2.heap.size, 0, none⟩ 1 1 (enT y) (by rw [hz1]; rfl) (fun j u hu => cells_at hn j u (by rw [enT_tyA]; simpa using hu)) (oneT_cell y) (by omega) (by rw [hz1, hs]; show k * 8 + 8 ≤ _; omega)
    rw [hz1] at this
    exact this
  · have e1 : tys (M ++ [y]) = tys M ++ [y.t] := by simp [tys]
    rw [e1, h1, hy, ← tys_at L k hk, List.take_append_getElem]
  · unfold acRow
    rw [List.size_toArray, List.length_append, List.length_append, List.length_take, List.length_drop, Array.length_toList, hs]
    show min (k * 8) (L.length * 8) + 8 + _ = _
    omega
  · unfold acRow
    have hl : (cur.toList.take (k * 8) ++ enT y).length = (k + 1) * 8 := by
      rw [List.length_append, List.length_take, Array.length_toList, hs]
      show min (k * 8) (L.length * 8) + 8 = _
      omega
    rw [← hl, List.take_left, ht, tCells_app]
    congr 1
  · intro z hz
    rcases List.mem_append.1 hz with hz | hz
    · obtain ⟨z1, z2⟩ := h4 z hz
      exact ⟨ty_setRow (z1.below hfar) z2 _, z2⟩
    · obtain rfl := List.mem_singleton.1 hz
      exact ⟨ty_setRow (hyI.below hal) hyN' _, hyN'⟩
end Go.Proofs.YtjamkfkbajhefaaGreatDoor
/- slices.Insert of one type into a row without room: its walk. -/
namespace Go.Proofs.YtjamkfkbajhefaaGreatDoor
open Go.RowKit Go.ChangeMaps

def insL (M : List LT) (i : Nat) (y : LT) : List LT := M.take i ++ y :: M.drop i
theorem tys_insL (M : List LT) (i : Nat) (y : LT) : tys (insL M i y) = insT (tys M) i y.t := by simp [tys, insL, insT]
def InP (M : List LT) (i : Nat) (y : LT) (w : World) (e : Ending) (w' : World) : Prop := ∃ c, e = .returned (.slice (some ⟨w.heap.size, 0, none⟩) (M.length + 1) c) ∧ IsRow w' 8 (.slice (some ⟨w.heap.size, 0, none⟩) (M.length + 1) c) (M.length + 1) (tCells (insL M i y)) ∧ Below w.heap.size w w'
end Go.Proofs.YtjamkfkbajhefaaGreatDoor
/- forest.Add: its walk. -/
namespace Go.Proofs.YtjamkfkbajhefaaGreatDoor
open Go.RowKit Go.ChangeMaps

def AdP (r : List Ty × Int) (w : World) (e : Ending) (w' : World) : Prop := ∃ (sa : Option Addr) (sc : Nat) (K : List LT), e = .returned (.tuple #[.slice sa K.length sc, .int .i64 r.2]) ∧ tys K = r.1 ∧ IsTys w' (.slice sa K.length sc) K ∧ Below w.heap.size w w'
theorem AdP.ok {L M : List LT} {x y : LT} {w W0 wd w6 w7 w9 : World} {e : Ending} {k : Nat} (hB : ∀ W, Below W0.heap.size W0 W → Below w.heap.size w W) (hd : Below W0.heap.size W0 wd) (hM : tys M = tys L) (hMI : ∀ y ∈ M, IsTy w6 y.t y.vo y.va y.vc) (h6 : Below wd.heap.size wd w6) (hy : y.t = x.t) (hyI : IsTy w7 y.t y.vo y.va y.vc) (h7 : Below w6.heap.size w6 w7) (hi : InP M k y (w7.alloc (.cells (tyA y.t y.vo y.va y.vc) 38)) e w9) :
    ∃ sa sc, e = .returned (.slice sa (M.length + 1) sc) ∧ AdP (insT (tys L) k x.t, 0) w (.returned (.tuple #[.slice sa (M.length + 1) sc, .int .i64 0])) w9 := by
  obtain ⟨c, rfl, hrow, hb9⟩ := hi
  have hal := al_b w7 (.cells (tyA y.t y.vo y.va y.vc) 38)
  have b79 : Below w7.heap.size w7 w9 := hal.trans (hb9.mono hal.size)
  have b69 : Below w6.heap.size w6 w9 := h7.trans (b79.mono h7.size)
  have bd9 : Below wd.heap.size wd w9 := h6.trans (b69.mono h6.size)
  have hlen : (insL M k y).length = M.length + 1 := by
    unfold insL
    rw [List.length_append, List.length_cons, List.length_take, List.length_drop]
    omega
  refine ⟨_, c, rfl, _, c, insL M k y, by rw [hlen], by rw [tys_insL, hM, hy], ⟨by rw [hlen]; exact hrow, fun z hz => ?_⟩, hB _ (hd.trans (bd9.mono hd.size))⟩
  have hz' : z = y ∨ z ∈ M := by
    unfold insL at hz
    rcases List.mem_append.1 hz with h | h
    · exact .inr (List.mem_of_mem_take h)
    · rcases List.mem_cons.1 h with h | h
      · exact .inl h
      · exact .inr (List.mem_of_mem_drop h)
  rcases hz' with rfl | hz'
  · exact hyI.below b79
  · exact (hMI z hz').below b69
end Go.Proofs.YtjamkfkbajhefaaGreatDoor
