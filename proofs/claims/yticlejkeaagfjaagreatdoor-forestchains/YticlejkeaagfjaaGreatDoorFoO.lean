/- law05's one and Few: walks. -/
import Derived.Test.YticlejkeaagfjaaGreatDoorFoV
import Derived.Test.YticlejkeaagfjaaGreatDoorZf
namespace Go.Proofs.YticlejkeaagfjaaGreatDoor
open Go.RowKit Go.ChangeMaps

/-- Is a type not more than statements go through? -/
def oneB (t : Ty) : Bool := decide (t.n.size ≤ 200) && (decide (t.p.size ≤ 200) && (decide (t.ch.length ≤ 12) && (decide (∀ s ∈ t.ch, s.size ≤ 200) && (fewF t.own && fewF t.all))))
/-- A type that came in. -/
def InT (t : Ty) : Prop := t.own.length ≤ 140737488355328 ∧ t.all.length ≤ 140737488355328 ∧ t.ch.length ≤ 140737488355328
set_option maxRecDepth 100000 in
set_option maxHeartbeats 4000000 in
theorem one_any (x : LT) (w : World) (hr : IsTy w x.t x.vo x.va x.vc) (hl : InT x.t) :
    Calls Tryz.prog 27 #[ltV x] w fun e w' => e = .returned (.bool (oneB x.t)) ∧ Below w.heap.size w w' := by
  obtain ⟨W0, hW0⟩ : ∃ W0, W0 = w.alloc (.cells (tyA x.t x.vo x.va x.vc) 32) := ⟨_, rfl⟩
  have hA : Below w.heap.size w W0 := by rw [hW0]; exact al_b w _
  have hn0 : W0.heap[w.heap.size]? = some (.cells (tyA x.t x.vo x.va x.vc) 32 (0, 0)) := by rw [hW0]; exact new_at w _
  obtain ⟨⟨g0, g1, g2, g3⟩, g4, g5, g6, g7⟩ := BxT.of hn0
  have HB : Hid (Below w.heap.size w W0) := hA
  have HF1 : Hid (Calls Tryz.prog 39 #[x.vo] W0 fun e w' => e = .returned (.bool (fewF x.t.own)) ∧ w' = W0) := fewF_any _ x.t.own _ (hr.1.below hA) hl.1
  have HF2 : Hid (Calls Tryz.prog 39 #[x.va] W0 fun e w' => e = .returned (.bool (fewF x.t.all)) ∧ w' = W0) := fewF_any _ x.t.all _ (hr.2.1.below hA) hl.2.1
  have HR : Hid (IsRow W0 1 x.vc x.t.ch.length (sVals x.t.ch)) := hr.2.2.below hA
  have HD : Hid (oneB x.t = (decide (x.t.n.size ≤ 200) && (decide (x.t.p.size ≤ 200) && (decide (x.t.ch.length ≤ 12) && (decide (∀ s ∈ x.t.ch, s.size ≤ 200) && (fewF x.t.own && fewF x.t.all)))))) := rfl
  generalize oneB x.t = R at *
  generalize fewF x.t.own = F1 at *
  generalize fewF x.t.all = F2 at *
  clear hr hl hn0 hA
  by_cases h1 : x.t.n.size ≤ 200
  rotate_left
  · have hR : R = false := by rw [HD.out, decide_eq_false h1, Bool.false_and]
    have d1 : decide ((200 : Int) < (x.t.n.size : Int)) = true := by simp; omega
    subst hR
    clear HD HF1 HF2 HR h1
    go_enter Tryz.func27, Tryz.ntmps27
    go_wp2_with fail
    rw [← hW0]
    clear hW0
    go_wp2
    go_ret
    exact ⟨rfl, HB.out⟩
  have d1 : decide ((200 : Int) < (x.t.n.size : Int)) = false := by simp; omega
  by_cases h2 : x.t.p.size ≤ 200
  rotate_left
  · have hR : R = false := by rw [HD.out, decide_eq_false h2, Bool.false_and, Bool.and_false]
    have d2 : decide ((200 : Int) < (x.t.p.size : Int)) = true := by simp; omega
    subst hR
    clear HD HF1 HF2 HR h1 h2
    go_enter Tryz.func27, Tryz.ntmps27
    go_wp2_with fail
    rw [← hW0]
    clear hW0
    go_wp2
    go_ret
    exact ⟨rfl, HB.out⟩
  have d2 : decide ((200 : Int) < (x.t.p.size : Int)) = false := by simp; omega
  by_cases h3 : x.t.ch.length ≤ 12
  rotate_left
  · have hR : R = false := by rw [HD.out, decide_eq_false h3, Bool.false_and, Bool.and_false, Bool.and_false]
    have d3 : decide ((12 : Int) < (x.t.ch.length : Int)) = true := by simp; omega
    subst hR
    clear HD HF1 HF2 HR h1 h2 h3
    go_enter Tryz.func27, Tryz.ntmps27
    go_wp2_with fail
    rw [← hW0]
    clear hW0
    go_wp2
    go_ret
    exact ⟨rfl, HB.out⟩
  have d3 : decide ((12 : Int) < (x.t.ch.length : Int)) = false := by simp; omega
  have HD1 : Hid (R = (decide (∀ s ∈ x.t.ch, s.size ≤ 200) && (F1 && F2))) := by show _ = _; rw [HD.out, decide_eq_true h1, decide_eq_true h2, decide_eq_true h3, Bool.true_and, Bool.true_and, Bool.true_and]
  clear HD h1 h2
  go_enter Tryz.func27, Tryz.ntmps27
  go_wp2_with fail
  rw [← hW0]
  clear hW0
  go_wp2_with fail
  go_loopw [3] (fun i wr => ∃ k : Nat, k ≤ x.t.ch.length ∧ i = .int .i64 (k : Int) ∧ Hid (∀ (j : Nat) (h : j < x.t.ch.length), j < k → x.t.ch[j].size ≤ 200) ∧ W0 = wr) (fun i _ => x.t.ch.length - (intOf i).toNat)
  case atStart => exact ⟨0, Nat.zero_le _, rfl, (fun j h hj => absurd hj (Nat.not_lt_zero _)), rfl⟩
  case round =>
    obtain ⟨k, hk, rfl, HO, rfl⟩ := hrel
    by_cases hlk : k < x.t.ch.length
    · have dk : decide ((k : Int) < (x.t.ch.length : Int)) = true := by simp; omega
      obtain ⟨b, off, hac, -, hlt, hcap, hc⟩ := s_at HR.out (by omega)
      have y0 := hc k hlk
      have i1 : (0 : Int) ≤ (k : Int) := by omega
      have i2 : (k : Int) < (x.t.ch.length : Int) := by omega
      have HNo : Hid (¬ x.t.ch[k].size ≤ 200 → R = false) := fun h => by
        rw [HD1.out, decide_eq_false (fun hh => h (hh _ (List.getElem_mem hlk))), Bool.false_and]
      have HYes : Hid (x.t.ch[k].size ≤ 200 → ∀ (j : Nat) (h : j < x.t.ch.length), j < k + 1 → x.t.ch[j].size ≤ 200) := fun hs j h hj => by
        by_cases e : j = k
        · subst e; exact hs
        · exact HO.out j h (by omega)
      generalize x.t.ch[k]'hlk = s at *
      obtain ⟨xt, xao, xco, xaa, xca, xac, xcc⟩ := x
      dsimp only [LT.vc] at *
      subst hac
      by_cases hs : s.size ≤ 200
      · have ds : decide ((200 : Int) < (s.size : Int)) = false := by simp; omega
        have HO2 : Hid (∀ (j : Nat) (h : j < xt.ch.length), j < k + 1 → xt.ch[j].size ≤ 200) := HYes.out hs
        clear HNo HYes hs hc HO HF1 HF2 HR HD1
        go_wp2
        go_roundw
        case rel => exact ⟨k + 1, by omega, by simp, HO2, trivial⟩
        case measure => simp [intOf]; omega
      · have ds : decide ((200 : Int) < (s.size : Int)) = true := by simp; omega
        have hR : Hid (R = false) := HNo.out hs
        clear HNo HYes hs hc HO HF1 HF2 HR HD1
        go_wp2
        go_ret
        exact ⟨by rw [hR.out]; rfl, HB.out⟩
    · have dk : decide ((k : Int) < (x.t.ch.length : Int)) = false := by simp; omega
      have hR : R = (F1 && F2) := by
        rw [HD1.out, decide_eq_true (fun s hs => by
          obtain ⟨j, hj, rfl⟩ := List.mem_iff_getElem.1 hs
          exact HO.out j hj (by omega)), Bool.true_and]
      clear HO HD1 HR
      go_wp2_with fail
      refine HF1.out.mono ?_
      rintro e w1 ⟨rfl, h1⟩
      obtain rfl := h1.symm
      cases F1
      · rw [Bool.false_and] at hR
        subst hR
        clear HF1 HF2
        go_wp2
        go_ret
        exact ⟨rfl, HB.out⟩
      · rw [Bool.true_and] at hR
        subst hR
        clear HF1
        go_wp2_with fail
        refine HF2.out.mono ?_
        rintro e w2 ⟨rfl, h2⟩
        obtain rfl := h2.symm
        clear HF2
        go_wp2
        go_ret
        exact ⟨rfl, HB.out⟩
/-- Are types not more? -/
def fewL (l : List Ty) : Bool := decide (∀ (k : Nat) (h : k < l.length), k ≤ 25 ∧ oneB l[k] = true)
set_option maxRecDepth 100000 in
set_option maxHeartbeats 4000000 in
theorem fewT_any (v : Value) (L : List LT) (w : World) (hr : IsTys w v L) (hl : L.length ≤ 140737488355328) (hi : ∀ x ∈ L, InT x.t) :
    Calls Tryz.prog 17 #[v] w fun e w' => e = .returned (.bool (fewL (tys L))) ∧ Below w.heap.size w w' := by
  obtain ⟨a0, cap0, rfl⟩ := hr.1.form
  have HR : Hid (∀ W, Below w.heap.size w W → IsRow W 8 (.slice a0 L.length cap0) L.length (tCells L)) := fun W h => hr.1.below h
  have HC : Hid (∀ (k : Nat) (hk : k < L.length) W, Below w.heap.size w W → Calls Tryz.prog 27 #[ltV L[k]] W fun e w' => e = .returned (.bool (oneB L[k].t)) ∧ Below W.heap.size W w') := fun k hk W h => one_any _ W ((hr.2 _ (List.getElem_mem hk)).below h) (hi _ (List.getElem_mem hk))
  have HNo : Hid (∀ (k : Nat) (hk : k < L.length), ¬ (k ≤ 25 ∧ oneB L[k].t = true) → fewL (tys L) = false) := fun k hk h => decide_eq_false fun hh => h (by
    have := hh k (by rw [tys_len]; exact hk)
    rwa [tys_at L k hk] at this)
  have HYes : Hid ((∀ (k : Nat) (hk : k < L.length), k ≤ 25 ∧ oneB L[k].t = true) → fewL (tys L) = true) := fun h => decide_eq_true fun k hk => by
    rw [tys_len] at hk
    rw [tys_at L k hk]
    exact h k hk
  generalize fewL (tys L) = R at *
  clear hr hi
  go_enter Tryz.func17, Tryz.ntmps17
  go_wp2_with fail
  go_loopw [3] (fun i wr => ∃ k : Nat, k ≤ L.length ∧ k ≤ 26 ∧ i = .int .i64 (k : Int) ∧ Hid (∀ (j : Nat) (h : j < L.length), j < k → j ≤ 25 ∧ oneB L[j].t = true) ∧ Hid (Below w.heap.size w wr)) (fun i _ => 27 - (intOf i).toNat)
  case atStart => exact ⟨0, Nat.zero_le _, by omega, rfl, (fun j h hj => absurd hj (Nat.not_lt_zero _)), Below.refl _ _⟩
  case round =>
    obtain ⟨k, hk, hk26, rfl, HO, HB⟩ := hrel
    have hsz := HB.out.size
    by_cases hlk : k < L.length
    · have dk : decide ((k : Int) < (L.length : Int)) = true := by simp; omega
      by_cases h25 : k ≤ 25
      · have d25 : decide ((25 : Int) < (k : Int)) = false := by simp; omega
        obtain ⟨b, off, rfl, hbl, -, hcap, hc⟩ := t_at (HR.out _ HB.out) (by omega)
        obtain ⟨⟨y0, y1, y2, y3⟩, y4, y5, y6, y7⟩ := hc k hlk
        have HC1 : Hid (Calls Tryz.prog 27 #[ltV L[k]] wr fun e w' => e = .returned (.bool (oneB L[k].t)) ∧ Below wr.heap.size wr w') := HC.out k hlk wr HB.out
        have HN1 : Hid (oneB L[k].t = false → R = false) := fun h => HNo.out k hlk (fun hh => by rw [h] at hh; cases hh.2)
        have HO1 : Hid (oneB L[k].t = true → ∀ (j : Nat) (h : j < L.length), j < k + 1 → j ≤ 25 ∧ oneB L[j].t = true) := fun ho j h hj => by
          by_cases e : j = k
          · subst e; exact ⟨h25, ho⟩
          · exact HO.out j h (by omega)
        have i1 : (0 : Int) ≤ (k : Int) := by omega
        have i2 : (k : Int) < (L.length : Int) := by omega
        generalize L[k]'hlk = x at *
        clear hc HR HC HNo HYes HO
        go_wp2_with fail
        refine HC1.out.mono ?_
        rintro e w1 ⟨rfl, hb⟩
        have HB1 : Hid (Below w.heap.size w w1) := HB.out.trans (hb.mono hsz)
        clear hb HC1 y0 y1 y2 y3 y4 y5 y6 y7
        cases ho : oneB x.t
        · have hR : Hid (R = false) := HN1.out ho
          clear HN1 HO1 ho
          go_wp2
          go_ret
          exact ⟨by rw [hR.out]; rfl, HB1.out⟩
        · have HO2 : Hid (∀ (j : Nat) (h : j < L.length), j < k + 1 → j ≤ 25 ∧ oneB L[j].t = true) := HO1.out ho
          clear HN1 HO1 ho
          go_wp2
          go_roundw
          case rel => exact ⟨k + 1, by omega, by omega, by simp, HO2, HB1⟩
          case measure => simp [intOf]; omega
      · have d25 : decide ((25 : Int) < (k : Int)) = true := by simp; omega
        have hR : Hid (R = false) := HNo.out k hlk (fun hh => h25 hh.1)
        clear HR HC HNo HYes HO
        go_wp2
        go_ret
        exact ⟨by rw [hR.out]; rfl, HB.out⟩
    · have dk : decide ((k : Int) < (L.length : Int)) = false := by simp; omega
      have hR : Hid (R = true) := HYes.out fun j h => HO.out j h (by omega)
      clear HR HC HNo HYes HO
      go_wp2
      go_ret
      exact ⟨by rw [hR.out]; rfl, HB.out⟩
theorem oneB_ok {t : Ty} (h : oneB t = true) : NmT t ∧ t.own.length ≤ 1000 ∧ t.all.length ≤ 1000 ∧ t.ch.length ≤ 12 := by
  unfold oneB at h
  simp only [Bool.and_eq_true, decide_eq_true_eq] at h
  obtain ⟨h1, h2, h3, h4, h5, h6⟩ := h
  have key : ∀ l : List Fd, fewF l = true → l.length ≤ 1000 ∧ NmF l := fun l h => by
    unfold fewF at h
    rw [decide_eq_true_eq] at h
    refine ⟨?_, fun y hy => ?_⟩
    · rcases Nat.lt_or_ge 1000 l.length with hl | hl
      · have := (h 1000 hl).1
        omega
      · exact hl
    · obtain ⟨k, hk, rfl⟩ := List.mem_iff_getElem.1 hy
      have := (h k hk).2
      omega
  obtain ⟨k1, k2⟩ := key _ h5
  obtain ⟨k3, k4⟩ := key _ h6
  exact ⟨⟨by omega, by omega, fun s hs => by have := h4 s hs; omega, k2, k4, by omega, by omega, by omega⟩, k1, k3, h3⟩
theorem fewL_ok {L : List LT} (h : fewL (tys L) = true) : L.length ≤ 26 ∧ NmL L ∧ SmL L := by
  unfold fewL at h
  rw [decide_eq_true_eq] at h
  have key : ∀ x ∈ L, oneB x.t = true := fun x hx => by
    obtain ⟨k, hk, rfl⟩ := List.mem_iff_getElem.1 hx
    have := (h k (by rw [tys_len]; exact hk)).2
    rwa [tys_at L k hk] at this
  refine ⟨?_, fun x hx => (oneB_ok (key x hx)).1, fun x hx => ?_⟩
  · rcases Nat.lt_or_ge 26 L.length with hl | hl
    · have := (h 26 (by rw [tys_len]; exact hl)).1
      omega
    · exact hl
  · obtain ⟨-, h1, h2, h3⟩ := oneB_ok (key x hx)
    exact ⟨h1, h2, by omega⟩
end Go.Proofs.YticlejkeaagfjaaGreatDoor
