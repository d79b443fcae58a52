/- law05's one and Few: walks. -/
import Derived.Test.YtjamkfkbajhefaaGreatDoorZk27
import Derived.Test.YtjamkfkbajhefaaGreatDoorZk21
import Derived.Test.YtjamkfkbajhefaaGreatDoorZk0
import Derived.Test.YtjamkfkbajhefaaGreatDoorZk1
import Derived.Test.YtjamkfkbajhefaaGreatDoorZk3
import Derived.RegionTactic
import Derived.ChangeAlike
import Derived.Deep.QuietTactic
import Derived.BigQuiet
import Derived.Test.YtjamkfkbajhefaaGreatDoorZk2
import Derived.Test.YtjamkfkbajhefaaGreatDoorZk26
import Derived.Test.YtjamkfkbajhefaaGreatDoorZk24
import Derived.Test.YtjamkfkbajhefaaGreatDoorZk25
namespace Go.Proofs.YtjamkfkbajhefaaGreatDoor
open Go.RowKit Go.ChangeMaps

/-- Is a type not more than statements go through? -/
def oneB (t : Ty) : Bool := decide (t.n.size ≤ 200) && (decide (t.p.size ≤ 200) && (decide (t.ch.length ≤ 12) && (decide (∀ s ∈ t.ch, s.size ≤ 200) && (fewF t.own && fewF t.all))))
/-- A type that came in. -/
def InT (t : Ty) : Prop := t.own.length ≤ 140737488355328 ∧ t.all.length ≤ 140737488355328 ∧ t.ch.length ≤ 140737488355328
set_option maxRecDepth 100000 in
set_option maxHeartbeats 4000000 in
theorem one_any (x : LT) (w : World) (hr : IsTy w x.t x.vo x.va x.vc) (hl : InT x.t) :
    Calls Tryz.prog 18 #[ltV x] w fun e w' => e = .returned (.bool (oneB x.t)) ∧ Below w.heap.size w w' := by
  obtain ⟨W0, hW0⟩ : ∃ W0, W0 = w.alloc (.cells (tyA x.t x.vo x.va x.vc) 38) := ⟨_, rfl⟩
  have hA : Below w.heap.size w W0 := by rw [hW0]; exact al_b w _
  have hn0 : W0.heap[w.heap.size]? = some (.cells (tyA x.t x.vo x.va x.vc) 38 (0, 0)) := by rw [hW0]; exact new_at w _
  obtain ⟨⟨g0, g1, g2, g3⟩, g4, g5, g6, g7⟩ := BxT.of hn0
  have HB : Hid (Below w.heap.size w W0) := hA
  have HF1 : Hid (Calls Tryz.prog 43 #[x.vo] W0 fun e w' => e = .returned (.bool (fewF x.t.own)) ∧ w' = W0) := fewF_any _ x.t.own _ (hr.1.below hA) hl.1
  have HF2 : Hid (Calls Tryz.prog 43 #[x.va] W0 fun e w' => e = .returned (.bool (fewF x.t.all)) ∧ w' = W0) := fewF_any _ x.t.all _ (hr.2.1.below hA) hl.2.1
  have HR : Hid (IsRow W0 1 x.vc x.t.ch.length (sVals x.t.ch)) := hr.2.2.below hA
  have HD : Hid (oneB x.t = (decide (x.t.n.size ≤ 200) && (decide (x.t.p.size ≤ 200) && (decide (x.t.ch.length ≤ 12) && (decide (∀ s ∈ x.t.ch, s.size ≤ 200) && (fewF x.t.own && fewF x.t.all)))))) := rfl
  generalize oneB x.t = R at *
  generalize fewF x.t.own = F1 at *
  generalize fewF x.t.all = F2 at *
  clear hr hl hn0 hA
  by_cases h1 : x.t.n.size ≤ 200
  rotate_left
  · have hR : R = false := by rw [HD.out, decide_eq_false h1, Bool.false_and]
    have d1 : decide ((200 : Int) < (x.t.n.size : Int)) = true := by simp; omega
    subst hR
    clear HD HF1 HF2 HR h1
    go_enter Tryz.func18, Tryz.ntmps18
    go_wp2_with fail
    rw [← hW0]
    clear hW0
    go_wp2
    go_ret
    exact ⟨rfl, HB.out⟩
  have d1 : decide ((200 : Int) < (x.t.n.size : Int)) = false := by simp; omega
  by_cases h2 : x.t.p.size ≤ 200
  rotate_left
  · have hR : R = false := by rw [HD.out, decide_eq_false h2, Bool.false_and, Bool.and_false]
    have d2 : decide ((200 : Int) < (x.t.p.size : Int)) = true := by simp; omega
    subst hR
    clear HD HF1 HF2 HR h1 h2
    go_enter Tryz.func18, Tryz.ntmps18
    go_wp2_with fail
    rw [← hW0]
    clear hW0
    go_wp2
    go_ret
    exact ⟨rfl, HB.out⟩
  have d2 : decide ((200 : Int) < (x.t.p.size : Int)) = false := by simp; omega
  by_cases h3 : x.t.ch.length ≤ 12
  rotate_left
  · have hR : R = false := by rw [HD.out, decide_eq_false h3, Bool.false_and, Bool.and_false, Bool.and_false]
    have d3 : decide ((12 : Int) < (x.t.ch.length : Int)) = true := by simp; omega
    subst hR
    clear HD HF1 HF2 HR h1 h2 h3
    go_enter Tryz.func18, Tryz.ntmps18
    go_wp2_with fail
    rw [← hW0]
    clear hW0
    go_wp2
    go_ret
    exact ⟨rfl, HB.out⟩
  have d3 : decide ((12 : Int) < (x.t.ch.length : Int)) = false := by simp; omega
  have HD1 : Hid (R = (decide (∀ s ∈ x.t.ch, s.size ≤ 200) && (F1 && F2))) := by show _ = _; rw [HD.out, decide_eq_true h1, decide_eq_true h2, decide_eq_true h3, Bool.true_and, Bool.true_and, Bool.true_and]
  clear HD h1 h2
  go_enter Tryz.func18, Tryz.ntmps18
  go_wp2_with fail
  rw [← hW0]
  clear hW0
  go_wp2_with fail
  go_loopw [3] (fun i wr => ∃ k : Nat, k ≤ x.t.ch.length ∧ i = .int .i64 (k : Int) ∧ Hid (∀ (j : Nat) (h : j < x.t.ch.length), j < k → x.t.ch[j].size ≤ 200) ∧ W0 = wr) (fun i _ => x.t.ch.length - (intOf i).toNat)
  case atStart => exact ⟨0, Nat.zero_le _, rfl, (fun j h hj => absurd hj (Nat.not_lt_zero _)), rfl⟩
  case round =>
    obtain ⟨k, hk, rfl, HO, rfl⟩ := hrel
    by_cases hlk : k < x.t.ch.length
    · have dk : decide ((k : Int) < (x.t.ch.length : Int)) = true := by simp; omega
      obtain ⟨b, off, hac, -, hlt, hcap, hc⟩ := s_at HR.out (by omega)
      have y0 := hc k hlk
      have i1 : (0 : Int) ≤ (k : Int) := by omega
      have i2 : (k : Int) < (x.t.ch.length : Int) := by omega
      have HNo : Hid (¬ x.t.ch[k].size ≤ 200 → R = false) := fun h => by
        rw [HD1.out, decide_eq_false (fun hh => h (hh _ (List.getElem_mem hlk))), Bool.false_and]
      have HYes : Hid (x.t.ch[k].size ≤ 200 → ∀ (j : Nat) (h : j < x.t.ch.length), j < k + 1 → x.t.ch[j].size ≤ 200) := fun hs j h hj => by
        by_cases e : j = k
        · subst e; exact hs
        · exact HO.out j h (by omega)
      generalize x.t.ch[k]'hlk = s at *
      obtain ⟨xt, xao, xco, xaa, xca, xac, xcc⟩ := x
      dsimp only [LT.vc] at *
      subst hac
      by_cases hs : s.size ≤ 200
      · have ds : decide ((200 : Int) < (s.size : Int)) = false := by simp; omega
        have HO2 : Hid (∀ (j : Nat) (h : j < xt.ch.length), j < k + 1 → xt.ch[j].size ≤ 200) := HYes.out hs
        clear HNo HYes hs hc HO HF1 HF2 HR HD1
        go_wp2
        go_roundw
        case rel => exact ⟨k + 1, by omega, by simp, HO2, trivial⟩
        case measure => simp [intOf]; omega
      · have ds : decide ((200 : Int) < (s.size : Int)) = true := by simp; omega
        have hR : Hid (R = false) := HNo.out hs
        clear HNo HYes hs hc HO HF1 HF2 HR HD1
        go_wp2
        go_ret
        exact ⟨by rw [hR.out]; rfl, HB.out⟩
    · have dk : decide ((k : Int) < (x.t.ch.length : Int)) = false := by simp; omega
      have hR : R = (F1 && F2) := by
        rw [HD1.out, decide_eq_true (fun s hs => by
          obtain ⟨j, hj, rfl⟩ := List.mem_iff_getElem.1 hs
          exact HO.out j hj (by omega)), Bool.true_and]
      clear HO HD1 HR
      go_wp2_with fail
      refine HF1.out.mono ?_
      rintro e w1 ⟨rfl, h1⟩
      obtain rfl := h1.symm
      cases F1
      · rw [Bool.false_and] at hR
        subst hR
        clear HF1 HF2
        go_wp2
        go_ret
        exact ⟨rfl, HB.out⟩
      · rw [Bool.true_and] at hR
        subst hR
        clear HF1
        go_wp2_with fail
        refine HF2.out.mono ?_
        rintro e w2 ⟨rfl, h2⟩
        obtain rfl := h2.symm
        clear HF2
        go_wp2
        go_ret
        exact ⟨rfl, HB.out⟩
/-- Are types not more? -/
def fewL (l : List Ty) : Bool := decide (∀ (k : Nat) (h : k < l.length), k ≤ 25 ∧ oneB l[k] = true)
set_option maxRecDepth 100000 in
set_option maxHeartbeats 4000000 in
theorem fewT_any (v : Value) (L : List LT) (w : World) (hr : IsTys w v L) (hl : L.length ≤ 140737488355328) (hi : ∀ x ∈ L, InT x.t) :
    Calls Tryz.prog 5 #[v] w fun e w' => e = .returned (.bool (fewL (tys L))) ∧ Below w.heap.size w w' := by
  obtain ⟨a0, cap0, rfl⟩ := hr.1.form
  have HR : Hid (∀ W, Below w.heap.size w W → IsRow W 8 (.slice a0 L.length cap0) L.length (tCells L)) := fun W h => hr.1.below h
  have HC : Hid (∀ (k : Nat) (hk : k < L.length) W, Below w.heap.size w W → Calls Tryz.prog 18 #[ltV L[k]] W fun e w' => e = .returned (.bool (oneB L[k].t)) ∧ Below W.heap.size W w') := fun k hk W h => one_any _ W ((hr.2 _ (List.getElem_mem hk)).below h) (hi _ (List.getElem_mem hk))
  have HNo : Hid (∀ (k : Nat) (hk : k < L.length), ¬ (k ≤ 25 ∧ oneB L[k].t = true) → fewL (tys L) = false) := fun k hk h => decide_eq_false fun hh => h (by
    have := hh k (by rw [tys_len]; exact hk)
    rwa [tys_at L k hk] at this)
  have HYes : Hid ((∀ (k : Nat) (hk : k < L.length), k ≤ 25 ∧ oneB L[k].t = true) → fewL (tys L) = true) := fun h => decide_eq_true fun k hk => by
    rw [tys_len] at hk
    rw [tys_at L k hk]
    exact h k hk
  generalize fewL (tys L) = R at *
  clear hr hi
  go_enter Tryz.func5, Tryz.ntmps5
  go_wp2_with fail
  go_loopw [3] (fun i wr => ∃ k : Nat, k ≤ L.length ∧ k ≤ 26 ∧ i = .int .i64 (k : Int) ∧ Hid (∀ (j : Nat) (h : j < L.length), j < k → j ≤ 25 ∧ oneB L[j].t = true) ∧ Hid (Below w.heap.size w wr)) (fun i _ => 27 - (intOf i).toNat)
  case atStart => exact ⟨0, Nat.zero_le _, by omega, rfl, (fun j h hj => absurd hj (Nat.not_lt_zero _)), Below.refl _ _⟩
  case round =>
    obtain ⟨k, hk, hk26, rfl, HO, HB⟩ := hrel
    have hsz := HB.out.size
    by_cases hlk : k < L.length
    · have dk : decide ((k : Int) < (L.length : Int)) = true := by simp; omega
      by_cases h25 : k ≤ 25
      · have d25 : decide ((25 : Int) < (k : Int)) = false := by simp; omega
        obtain ⟨b, off, rfl, hbl, -, hcap, hc⟩ := t_at (HR.out _ HB.out) (by omega)
        obtain ⟨⟨y0, y1, y2, y3⟩, y4, y5, y6, y7⟩ := hc k hlk
        have HC1 : Hid (Calls Tryz.prog 18 #[ltV L[k]] wr fun e w' => e = .returned (.bool (oneB L[k].t)) ∧ Below wr.heap.size wr w') := HC.out k hlk wr HB.out
        have HN1 : Hid (oneB L[k].t = false → R = false) := fun h => HNo.out k hlk (fun hh => by rw [h] at hh; cases hh.2)
        have HO1 : Hid (oneB L[k].t = true → ∀ (j : Nat) (h : j < L.length), j < k + 1 → j ≤ 25 ∧ oneB L[j].t = true) := fun ho j h hj => by
          by_cases e : j = k
          · subst e; exact ⟨h25, ho⟩
          · exact HO.out j h (by omega)
        have i1 : (0 : Int) ≤ (k : Int) := by omega
        have i2 : (k : Int) < (L.length : Int) := by omega
        generalize L[k]'hlk = x at *
        clear hc HR HC HNo HYes HO
        go_wp2_with fail
        refine HC1.out.mono ?_
        rintro e w1 ⟨rfl, hb⟩
        have HB1 : Hid (Below w.heap.size w w1) := HB.out.trans (hb.mono hsz)
        clear hb HC1 y0 y1 y2 y3 y4 y5 y6 y7
        cases ho : oneB x.t
        · have hR : Hid (R = false) := HN1.out ho
          clear HN1 HO1 ho
          go_wp2
          go_ret
          exact ⟨by rw [hR.out]; rfl, HB1.out⟩
        · have HO2 : Hid (∀ (j : Nat) (h : j < L.length), j < k + 1 → j ≤ 25 ∧ oneB L[j].t = true) := HO1.out ho
          clear HN1 HO1 ho
          go_wp2
          go_roundw
          case rel => exact ⟨k + 1, by omega, by omega, by simp, HO2, HB1⟩
          case measure => simp [intOf]; omega
      · have d25 : decide ((25 : Int) < (k : Int)) = true := by simp; omega
        have hR : Hid (R = false) := HNo.out k hlk (fun hh => h25 hh.1)
        clear HR HC HNo HYes HO
        go_wp2
        go_ret
        exact ⟨by rw [hR.out]; rfl, HB.out⟩
    · have dk : decide ((k : Int) < (L.length : Int)) = false := by simp; omega
      have hR : Hid (R = true) := HYes.out fun j h => HO.out j h (by omega)
      clear HR HC HNo HYes HO
      go_wp2
      go_ret
      exact ⟨by rw [hR.out]; rfl, HB.out⟩
theorem oneB_ok {t : Ty} (h : oneB t = true) : NmT t ∧ t.own.length ≤ 1000 ∧ t.all.length ≤ 1000 ∧ t.ch.length ≤ 12 := by
  unfold oneB at h
  simp only [Bool.and_eq_true, decide_eq_true_eq] at h
  obtain ⟨h1, h2, h3, h4, h5, h6⟩ := h
  have key : ∀ l : List Fd, fewF l = true → l.length ≤ 1000 ∧ NmF l := fun l h => by
    unfold fewF at h
    rw [decide_eq_true_eq] at h
    refine ⟨?_, fun y hy => ?_⟩
    · rcases Nat.lt_or_ge 1000 l.length with hl | hl
      · have := (h 1000 hl).1
        omega
      · exact hl
    · obtain ⟨k, hk, rfl⟩ := List.mem_iff_getElem.1 hy
      have := (h k hk).2
      omega
  obtain ⟨k1, k2⟩ := key _ h5
  obtain ⟨k3, k4⟩ := key _ h6
  exact ⟨⟨by omega, by omega, fun s hs => by have := h4 s hs; omega, k2, k4, by omega, by omega, by omega⟩, k1, k3, h3⟩
theorem fewL_ok {L : List LT} (h : fewL (tys L) = true) : L.length ≤ 26 ∧ NmL L ∧ SmL L := by
  unfold fewL at h
  rw [decide_eq_true_eq] at h
  have key : ∀ x ∈ L, oneB x.t = true := fun x hx => by
    obtain ⟨k, hk, rfl⟩ := List.mem_iff_getElem.1 hx
    have := (h k (by rw [tys_len]; exact hk)).2
    rwa [tys_at L k hk] at this
  refine ⟨?_, fun x hx => (oneB_ok (key x hx)).1, fun x hx => ?_⟩
  · rcases Nat.lt_or_ge 26 L.length with hl | hl
    · have := (h 26 (by rw [tys_len]; exact hl)).1
      omega
    · exact hl
  · obtain ⟨-, h1, h2, h3⟩ := oneB_ok (key x hx)
    exact ⟨h1, h2, by omega⟩
end Go.Proofs.YtjamkfkbajhefaaGreatDoor
/- The reference's Letter, Small, Hash: walks. -/
namespace Go.Proofs.YtjamkfkbajhefaaGreatDoor
open Go.RowKit

end Go.Proofs.YtjamkfkbajhefaaGreatDoor
/- The reference's Bytes, Fold: walks. -/
namespace Go.Proofs.YtjamkfkbajhefaaGreatDoor
open Go.RowKit

end Go.Proofs.YtjamkfkbajhefaaGreatDoor
/- The reference's Split and part: walks. -/
namespace Go.Proofs.YtjamkfkbajhefaaGreatDoor
open Go.RowKit

/-- The slice v has as many elements as qs, each a slice of a row of qs. -/
def RowsOf (w : World) (v : Value) (qs : List (List Nat)) : Prop :=
  ∃ vs : List Value, IsRow w 1 v qs.length vs ∧ ∀ (i : Nat) (q : List Nat), qs[i]? = some q → ∃ u, vs[i]? = some u ∧ IsRow w 1 u q.length (icells q)
theorem RowsOf.below {w w' : World} {v : Value} {qs : List (List Nat)} (h : RowsOf w v qs) (hb : Below w.heap.size w w') : RowsOf w' v qs := by
  obtain ⟨vs, h1, h2⟩ := h
  refine ⟨vs, h1.below hb, fun i q hq => ?_⟩
  obtain ⟨u, hu, hr⟩ := h2 i q hq
  exact ⟨u, hu, hr.below hb⟩
/-- One of them. -/
theorem RowsOf.at {w : World} {v : Value} {qs : List (List Nat)} (h : RowsOf w v qs) (i : Nat) (hi : i < qs.length) :
    ∃ b off cap u, v = .slice (some ⟨b, off, none⟩) qs.length cap ∧ b < w.heap.size ∧ w.cell? ⟨b, off + i, none⟩ = some u ∧ IsRow w 1 u (qs[i]'hi).length (icells (qs[i]'hi)) := by
  obtain ⟨vs, h1, h2⟩ := h
  obtain ⟨b, off, cap, hv, hlt, _, _, hc⟩ := h1.open (by omega)
  obtain ⟨u, hu, hr⟩ := h2 i _ (List.getElem?_eq_getElem hi)
  exact ⟨b, off, cap, u, hv, hlt, hc i u hu, hr⟩
theorem RowsOf.form {w : World} {v : Value} {qs : List (List Nat)} (h : RowsOf w v qs) : ∃ a cap, v = .slice a qs.length cap := by
  obtain ⟨vs, h1, _⟩ := h
  exact h1.form

theorem owns_same {w w' : World} {base : Nat} {e : TypeId} {sz : Nat} {v : Value} {n : Nat} {xs : List Value} (h : w.ownsRow base e sz v n xs) (hk : ∀ g, v.ownBlock = some g → w'.heap[g]? = w.heap[g]?) : w'.ownsRow base e sz v n xs := by
  refine ⟨h.1, ?_⟩
  rcases h.2 with hn | ⟨g, cap, cur, rfl, hb, hgg, rest⟩
  · exact .inl hn
  · exact .inr ⟨g, cap, cur, rfl, hb, (hk g rfl).trans hgg, rest⟩
/-- Rows that are left as they are, in blocks below N. -/
def Froz (w : World) (base N : Nat) (qs : List (List Nat)) (vs : List Value) : Prop :=
  ∀ (i : Nat) (q : List Nat), qs[i]? = some q → ∃ u, vs[i]? = some u ∧ w.ownsRow base 3 1 u q.length (icells q) ∧ ∀ g, u.ownBlock = some g → g < N
theorem Froz.kept {w w' : World} {base N N' : Nat} {qs : List (List Nat)} {vs : List Value} (h : Froz w base N qs vs) (hN : N ≤ N') (hk : ∀ (u : Value) (n : Nat) (xs : List Value), w.ownsRow base 3 1 u n xs → ∀ g, u.ownBlock = some g → g < N → w'.heap[g]? = w.heap[g]?) : Froz w' base N' qs vs := by
  intro i q hq
  obtain ⟨u, hu, ho, hl⟩ := h i q hq
  exact ⟨u, hu, owns_same ho (fun g hg => hk u _ _ ho g hg (hl g hg)), fun g hg => Nat.lt_of_lt_of_le (hl g hg) hN⟩
end Go.Proofs.YtjamkfkbajhefaaGreatDoor
/- The reference's Check and Parts: walks. -/
namespace Go.Proofs.YtjamkfkbajhefaaGreatDoor
open Go.RowKit

end Go.Proofs.YtjamkfkbajhefaaGreatDoor
/- The reference's SameTexts of the same texts. -/
namespace Go.Proofs.YtjamkfkbajhefaaGreatDoor
open Go.RowKit

end Go.Proofs.YtjamkfkbajhefaaGreatDoor
/- The reference's Compare and Under: walks. -/
namespace Go.Proofs.YtjamkfkbajhefaaGreatDoor
open Go.RowKit

end Go.Proofs.YtjamkfkbajhefaaGreatDoor
/- The reference's Compare where one text is not UTF-8: its walk. -/
namespace Go.Proofs.YtjamkfkbajhefaaGreatDoor
open Go.RowKit

end Go.Proofs.YtjamkfkbajhefaaGreatDoor
/- The reference's Check of a value (VS over again beside the names), its Simple, same, may: walks. -/
namespace Go.Proofs.YtjamkfkbajhefaaGreatDoor
open Go.RowKit

end Go.Proofs.YtjamkfkbajhefaaGreatDoor
/- The reference's Check of fields, its Find: walks. -/
namespace Go.Proofs.YtjamkfkbajhefaaGreatDoor
open Go.RowKit

end Go.Proofs.YtjamkfkbajhefaaGreatDoor
/- What fits a type fits its parent; the reference's Check plainly: mathematics. -/
namespace Go.Proofs.YtjamkfkbajhefaaGreatDoor
open Go.RowKit

theorem chkF_all {t : Ty} (h : chkT t = true) : chkF t.all = true := by
  obtain ⟨-, -, -, -, hr⟩ := (chkT_iff t).1 h
  unfold chkR at hr
  simp only [Bool.and_eq_true] at hr
  exact hr.2.2.1
end Go.Proofs.YtjamkfkbajhefaaGreatDoor
/- What is kept of an event's attributes: plain mathematics. -/
namespace Go.Proofs.YtjamkfkbajhefaaGreatDoor
open Go.RowKit

/-- The attributes of whose name there is a field. -/
def keepL (f : List Fd) (l : List At) : List At := l.filter fun a => (getF f a.n).isSome
theorem keep_len (f : List Fd) (l : List At) : (keepL f l).length ≤ l.length := List.length_filter_le _ _
theorem keep_mem {f : List Fd} {l : List At} {a : At} : a ∈ keepL f l ↔ a ∈ l ∧ (getF f a.n).isSome = true := List.mem_filter
theorem keep_snoc (f : List Fd) (l : List At) (k : Nat) (hk : k < l.length) : keepL f (l.take (k + 1)) = if (getF f l[k].n).isSome = true then keepL f (l.take k) ++ [l[k]] else keepL f (l.take k) := by
  rw [List.take_succ_eq_append_getElem hk]
  unfold keepL
  rw [List.filter_append]
  by_cases h : (getF f l[k].n).isSome = true
  · rw [if_pos h]; simp [h]
  · rw [if_neg h]; simp [h]
/-- Attributes that may be: few, each may be, by names that rise. -/
def ltA (x y : At) : Prop := cmpL x.n.data.toList y.n.data.toList < 0
theorem ltA_trans {x y z : At} (h1 : ltA x y) (h2 : ltA y z) : ltA x z := cmpL_tr h1 h2
theorem chkA_iff (l : List At) : chkA l = true ↔ l.length ≤ 24 ∧ (∀ x ∈ l, mayA x = true) ∧ l.Pairwise ltA := by
  unfold chkA
  rw [Bool.and_eq_true, decide_eq_true_eq, decide_eq_true_eq]
  constructor
  · rintro ⟨h1, h2⟩
    refine ⟨h1, fun x hx => ?_, List.pairwise_iff_getElem.2 ?_⟩
    · obtain ⟨k, hk, rfl⟩ := List.mem_iff_getElem.1 hx
      exact (h2 k hk).1
    · have key : ∀ (j i : Nat) (hi : i < j) (hj : j < l.length), ltA (l[i]'(by omega)) l[j] := by
        intro j
        induction j with
        | zero => intro i hi; omega
        | succ j ih =>
          intro i hi hj
          have hs : ltA (l[j]'(by omega)) l[j + 1] := (h2 (j + 1) hj).2 j rfl
          by_cases e : i = j
          · subst e; exact hs
          · exact ltA_trans (ih i (by omega) (by omega)) hs
      exact fun i j hi hj hij => key j i hij hj
  · rintro ⟨h1, h2, h3⟩
    refine ⟨h1, fun k hk => ⟨h2 _ (List.getElem_mem hk), fun j e => ?_⟩⟩
    subst e
    exact List.pairwise_iff_getElem.1 h3 j (j + 1) (by omega) hk (by omega)
theorem chkA_keep {f : List Fd} {l : List At} (h : chkA l = true) : chkA (keepL f l) = true := by
  obtain ⟨h1, h2, h3⟩ := (chkA_iff l).1 h
  refine (chkA_iff _).2 ⟨Nat.le_trans (keep_len f l) h1, fun x hx => h2 x (keep_mem.1 hx).1, ?_⟩
  exact List.Pairwise.sublist List.filter_sublist h3
end Go.Proofs.YtjamkfkbajhefaaGreatDoor
/- forest.Fits: its walk. -/
namespace Go.Proofs.YtjamkfkbajhefaaGreatDoor
open Go.RowKit Go.ChangeMaps

abbrev evA (a b c : Int) (k : ByteArray) (u : Value) : Array Value := #[.int .i64 a, .int .i64 b, .int .i64 c, .string k, u]
end Go.Proofs.YtjamkfkbajhefaaGreatDoor
/- event.Keep, law06's Few: walks. -/
namespace Go.Proofs.YtjamkfkbajhefaaGreatDoor
open Go.RowKit Go.ChangeMaps

/-- An event's block. -/
def BxV (g : Nat) (a b c : Int) (k : ByteArray) (u : Value) (w : World) : Prop := (w.cell? ⟨g, 0, none⟩ = some (.int .i64 a) ∧ w.cell? ⟨g, 1, none⟩ = some (.int .i64 b) ∧ w.cell? ⟨g, 2, none⟩ = some (.int .i64 c)) ∧ w.cell? ⟨g, 3, none⟩ = some (.string k) ∧ w.cell? ⟨g, 4, none⟩ = some u
theorem BxV.of {g : Nat} {a b c : Int} {k : ByteArray} {u : Value} {w : World} {ty : TypeId} {z : Nat × Nat} (h : w.heap[g]? = some (.cells (evA a b c k u) ty z)) : BxV g a b c k u w := by
  have e : ∀ j, w.cell? ⟨g, j, none⟩ = (evA a b c k u)[j]? := fun j => by rw [Lib.cell_of_heap h]
  exact ⟨⟨e 0, e 1, e 2⟩, e 3, e 4⟩
theorem info_av : (Tryz.prog.info? 54).map (fun i => (i.zero, i.size, i.bytes)) = some (some (.agg #[.string ⟨#[]⟩, .int .i64 0, .int .i64 0, .string ⟨#[]⟩]), 4, 48) := by kernel_rfl
/-- Is an event not more than statements go through? -/
def fewE (k : ByteArray) (l : List At) : Bool := decide (k.size ≤ 200) && fewA l
set_option maxRecDepth 100000 in
theorem fewE_any (a b c : Int) (k : ByteArray) (u : Value) (l : List At) (w : World) (hq : IsRow w 4 u l.length (aCells l)) (hl : l.length ≤ 140737488355328) :
    Calls Tryz.prog 7 #[.agg (evA a b c k u)] w fun e w' => e = .returned (.bool (fewE k l)) ∧ Below w.heap.size w w' := by
  obtain ⟨W0, hW0⟩ : ∃ W0, W0 = w.alloc (.cells (evA a b c k u) 28) := ⟨_, rfl⟩
  have hA : Below w.heap.size w W0 := by rw [hW0]; exact al_b w _
  have hn0 : W0.heap[w.heap.size]? = some (.cells (evA a b c k u) 28 (0, 0)) := by rw [hW0]; exact new_at w _
  have HF : Hid (Calls Tryz.prog 19 #[u] W0 fun e w' => e = .returned (.bool (fewA l)) ∧ w' = W0) := fewA_any u l W0 (hq.below hA) hl
  obtain ⟨⟨q0, q1, q2⟩, q3, q4⟩ := BxV.of hn0
  have HB : Hid (Below w.heap.size w W0) := hA
  have HD : Hid (fewE k l = (decide (k.size ≤ 200) && fewA l)) := rfl
  generalize fewE k l = R at *
  generalize fewA l = F at *
  clear hq hl hA hn0
  by_cases h0 : k.size ≤ 200
  · have d0 : decide ((k.size : Int) ≤ 200) = true := by simp; omega
    have d0' : decide (k.size ≤ 200) = true := decide_eq_true h0
    have hR : R = F := by rw [HD.out, d0', Bool.true_and]
    subst hR
    clear HD h0
    go_enter Tryz.func7, Tryz.ntmps7
    go_wp2_with fail
    rw [← hW0]
    clear hW0
    refine HF.out.mono ?_
    rintro e w1 ⟨rfl, rfl⟩
    go_wp2
    go_ret
    exact ⟨rfl, HB.out⟩
  · have d0 : decide ((k.size : Int) ≤ 200) = false := by simp; omega
    have d0' : decide (k.size ≤ 200) = false := decide_eq_false h0
    have hR : R = false := by rw [HD.out, d0', Bool.false_and]
    subst hR
    clear HD h0 HF
    go_enter Tryz.func7, Tryz.ntmps7
    go_wp2_with fail
    rw [← hW0]
    clear hW0
    go_wp2
    go_ret
    exact ⟨rfl, HB.out⟩
theorem aCells_snoc (l : List At) (x : At) : aCells (l ++ [x]) = aCells l ++ enA x := by simp [aCells]
/-- What is kept, handed back. -/
def KpP (a b c : Int) (k : ByteArray) (K : List At) (w : World) (e : Ending) (w' : World) : Prop := ∃ x y, e = .returned (.agg (evA a b c k (.slice x K.length y))) ∧ IsRow w' 4 (.slice x K.length y) K.length (aCells K) ∧ NewA w.heap.size x ∧ Below w.heap.size w w'
set_option maxRecDepth 100000 in
set_option maxHeartbeats 4000000 in
theorem keep_any (a b c : Int) (k : ByteArray) (u v : Value) (l : List At) (f : List Fd) (w : World) (hq : IsRow w 4 u l.length (aCells l)) (hr : IsRow w 3 v f.length (fCells f)) (hl : l.length ≤ 1000) (hfl : f.length ≤ 1000) (hn : NmA l) (hnf : NmF f) (hT : UT w) :
    Calls Tryz.prog 12 #[.agg (evA a b c k u), v] w fun e w' => KpP a b c k (keepL f l) w e w' := by
  obtain ⟨au, cu, rfl⟩ := hq.form
  obtain ⟨i0, hi0, hz0, hz1, hz2⟩ := info_parts info_av
  obtain ⟨W0, hW0⟩ : ∃ W0, W0 = (w.alloc (.cells (evA a b c k (.slice au l.length cu)) 28)).alloc (.cells (evA 0 0 0 ⟨#[]⟩ (.slice none 0 0)) 28) := ⟨_, rfl⟩
  have hA : Below w.heap.size w W0 := by rw [hW0]; exact (al_b w _).trans ((al_b _ _).mono (by simp))
  have hz : W0.heap.size = w.heap.size + 2 := by rw [hW0]; simp
  have hn0 : W0.heap[w.heap.size]? = some (.cells (evA a b c k (.slice au l.length cu)) 28 (0, 0)) := by
    rw [hW0]
    show ((w.heap.push _).push _)[w.heap.size]? = _
    rw [Array.getElem?_push, if_neg (by simp), Array.getElem?_push, if_pos rfl]
  have hn1 : W0.heap[w.heap.size + 1]? = some (.cells (evA 0 0 0 ⟨#[]⟩ (.slice none 0 0)) 28 (0, 0)) := by
    rw [hW0]
    show ((w.heap.push _).push _)[w.heap.size + 1]? = _
    rw [Array.getElem?_push, if_pos (by simp)]
  have HX : Hid (∀ W, Below W0.heap.size W0 W → BxV w.heap.size a b c k (.slice au l.length cu) W ∧ BxV (w.heap.size + 1) 0 0 0 ⟨#[]⟩ (.slice none 0 0) W ∧ (∀ j, W.frozen? ⟨w.heap.size, j, none⟩ = false) ∧ ∀ j, W.frozen? ⟨w.heap.size + 1, j, none⟩ = false) := fun W h => ⟨BxV.of ((h.block _ (by omega)).trans hn0), BxV.of ((h.block _ (by omega)).trans hn1), fun j => Lib.frozen_of_heap ((h.block _ (by omega)).trans hn0) j, fun j => Lib.frozen_of_heap ((h.block _ (by omega)).trans hn1) j⟩
  have HBw : Hid (∀ W, Below W0.heap.size W0 W → Below w.heap.size w W) := fun W h => hA.trans (h.mono hA.size)
  have HQ : Hid (∀ W, Below W0.heap.size W0 W → IsRow W 4 (.slice au l.length cu) l.length (aCells l)) := fun W h => hq.below (HBw.out W h)
  have HF : Hid (∀ (j : Nat) (hj : j < l.length) W, Below W0.heap.size W0 W → Calls Tryz.prog 26 #[v, .string l[j].n] W fun e w' => e = .returned (.tuple #[fV ((getF f l[j].n).getD zF), .bool (getF f l[j].n).isSome]) ∧ Below W.heap.size W w') := fun j hj W h => find_any _ f _ W (hr.below (HBw.out W h)) (by omega) hnf (hn _ (List.getElem_mem hj)).1 (Utf8Tabs_below hT (HBw.out W h))
  have HKs : Hid (∀ (j : Nat) (hj : j < l.length), keepL f (l.take (j + 1)) = if (getF f l[j].n).isSome = true then keepL f (l.take j) ++ [l[j]] else keepL f (l.take j)) := fun j hj => keep_snoc f l j hj
  have HKl : Hid (∀ j, (keepL f (l.take j)).length ≤ 1000) := fun j => by
    have h1 := keep_len f (l.take j)
    have h2 : (l.take j).length ≤ l.length := by simp; omega
    show _ ≤ _
    omega
  have HKe : Hid (keepL f (l.take l.length) = keepL f l) := by show _ = _; rw [List.take_length]
  have HAl : Hid (∀ W o, Below W0.heap.size W0 W → Below W0.heap.size W0 (W.alloc o)) := fun W o h => h.trans ((al_b _ o).mono h.size)
  have HW0 : Hid (Below W0.heap.size W0 W0) := Below.refl _ _
  have Hz : Hid (W0.heap.size = w.heap.size + 2) := hz
  clear hq hr hA hn0 hn1 hn hnf hT hz hfl
  go_enter Tryz.func12, Tryz.ntmps12
  go_wp2_with fail
  rw [← hW0]
  clear hW0
  obtain ⟨⟨⟨q0, q1, q2⟩, q3, q4⟩, -, -, -⟩ := HX.out _ HW0.out
  go_wp2_with fail
  clear q0 q1 q2 q3 q4
  go_loopw [5, 7, 8, 9, 13] (fun o _ _ _ i wr => ∃ j : Nat, j ≤ l.length ∧ i = .int .i64 (j : Int) ∧ Hid (wr.ownsRow W0.heap.size 54 4 o (keepL f (l.take j)).length (aCells (keepL f (l.take j)))) ∧ Hid (Below W0.heap.size W0 wr)) (fun _ _ _ _ i _ => l.length - (intOf i).toNat)
  case atStart => exact ⟨0, Nat.zero_le _, rfl, World.ownsRow_nil _ _ _ _, HW0⟩
  case round =>
    obtain ⟨j, hj, rfl, HO, HB⟩ := hrel
    have hsz := HB.out.size
    have hkl := HKl.out j
    by_cases hlk : j < l.length
    · have dk : decide ((j : Int) < (l.length : Int)) = true := by simp; omega
      obtain ⟨bb, off, rfl, hlt, hcap, hc⟩ := a_at (HQ.out wr HB.out) (by omega)
      obtain ⟨y0, y1, y2, y3⟩ := hc j hlk
      obtain ⟨W1, hW1⟩ : ∃ W1, W1 = wr.alloc (.cells #[.string l[j].n, .int .i64 l[j].k, .int .i64 l[j].v, .string l[j].s] 54) := ⟨_, rfl⟩
      have hb1 : Below wr.heap.size wr W1 := by rw [hW1]; exact al_b _ _
      have hn2 : W1.heap[wr.heap.size]? = some (.cells #[.string l[j].n, .int .i64 l[j].k, .int .i64 l[j].v, .string l[j].s] 54 (0, 0)) := by rw [hW1]; exact new_at _ _
      have H1 : Hid (Below W0.heap.size W0 W1) := HB.out.trans (hb1.mono hsz)
      have HFj : Hid (Calls Tryz.prog 26 #[v, .string l[j].n] W1 fun e w' => e = .returned (.tuple #[fV ((getF f l[j].n).getD zF), .bool (getF f l[j].n).isSome]) ∧ Below W1.heap.size W1 w') := HF.out j hlk W1 H1.out
      have HCe : Hid (∀ W, Below W1.heap.size W1 W → W.cell? ⟨wr.heap.size, 0, none⟩ = some (.string l[j].n) ∧ W.cell? ⟨wr.heap.size, 1, none⟩ = some (.int .i64 l[j].k) ∧ W.cell? ⟨wr.heap.size, 2, none⟩ = some (.int .i64 l[j].v) ∧ W.cell? ⟨wr.heap.size, 3, none⟩ = some (.string l[j].s)) := fun W h => by
        have e : ∀ i, W.cell? ⟨wr.heap.size, i, none⟩ = (#[.string l[j].n, .int .i64 l[j].k, .int .i64 l[j].v, .string l[j].s] : Array Value)[i]? := fun i => by rw [Lib.cell_of_heap ((h.block _ (Array.getElem?_eq_some_iff.1 hn2).1).trans hn2)]
        exact ⟨e 0, e 1, e 2, e 3⟩
      have HKj := HKs.out j hlk
      have HKj' : Hid (keepL f (l.take (j + 1)) = if (getF f l[j].n).isSome = true then keepL f (l.take j) ++ [l[j]] else keepL f (l.take j)) := HKj
      have HO1 : Hid (∀ W, Below wr.heap.size wr W → W.ownsRow W0.heap.size 54 4 u5 (keepL f (l.take j)).length (aCells (keepL f (l.take j)))) := fun W h => own_belowE HO.out h
      have HB1 : Hid (Below wr.heap.size wr W1) := hb1
      generalize l[j]'hlk = x at *
      obtain ⟨xn, xk, xv, xs⟩ := x
      dsimp only at *
      generalize (getF f xn).getD zF = z at *
      obtain ⟨zn, zk, zm⟩ := z
      clear hc HF HKs HKj HQ HO hb1 hn2 HX HBw HKl HKe
      go_wp2_with fail
      rw [← hW1]
      clear hW1
      obtain ⟨c0, c1, c2, c3⟩ := HCe.out W1 (Below.refl _ _)
      go_wp2_with fail
      refine HFj.out.mono ?_
      rintro e w2 ⟨rfl, hb2⟩
      have H2 : Hid (Below W0.heap.size W0 w2) := H1.out.trans (hb2.mono H1.out.size)
      have HB2 : Hid (Below wr.heap.size wr w2) := HB1.out.trans (hb2.mono HB1.out.size)
      obtain ⟨W3, hW3⟩ : ∃ W3, W3 = w2.alloc (.cells #[.string zn, .int .i64 zk, .bool zm] 48) := ⟨_, rfl⟩
      have H3 : Hid (Below W0.heap.size W0 W3) := by show Below _ _ _; rw [hW3]; exact HAl.out _ _ H2.out
      have HB3 : Hid (Below wr.heap.size wr W3) := by show Below _ _ _; rw [hW3]; exact HB2.out.trans ((al_b _ _).mono HB2.out.size)
      have hb13 : Below W1.heap.size W1 W3 := by rw [hW3]; exact hb2.trans ((al_b _ _).mono hb2.size)
      have HO3 : Hid (W3.ownsRow W0.heap.size 54 4 u5 (keepL f (l.take j)).length (aCells (keepL f (l.take j)))) := HO1.out _ HB3.out
      obtain ⟨e0, e1, e2, e3⟩ := HCe.out W3 hb13
      have hs3 := H3.out.size
      clear hb2 hb13 HFj HCe HO1 HB1 HB2 HB3 c0 c1 c2 c3 y0 y1 y2 y3
      cases hg : (getF f xn).isSome
      · have HK : Hid (keepL f (l.take (j + 1)) = keepL f (l.take j)) := by show _ = _; rw [HKj'.out, hg]; rfl
        have HO4 : Hid (W3.ownsRow W0.heap.size 54 4 u5 (keepL f (l.take (j + 1))).length (aCells (keepL f (l.take (j + 1))))) := by show World.ownsRow _ _ _ _ _ _ _; rw [HK.out]; exact HO3.out
        clear HK HKj' hg HO3
        go_wp2_with fail
        rw [← hW3]
        clear hW3
        go_wp2
        go_roundw
        case rel => exact ⟨j + 1, by omega, by simp, HO4, H3⟩
        case measure => simp [intOf]; omega
      · have HK : Hid (keepL f (l.take (j + 1)) = keepL f (l.take j) ++ [⟨xn, xk, xv, xs⟩]) := by show _ = _; rw [HKj'.out, hg]; rfl
        clear HKj' hg
        subst hW3
        have hs3' : (w2.alloc (.cells #[.string zn, .int .i64 zk, .bool zm] 48)).heap.size = w2.heap.size + 1 := by simp
        go_wp2_with (at_builtin; go_loud (refine wpl_appE (w2.alloc (.cells #[.string zn, .int .i64 zk, .bool zm] 48)) rfl (.tmp 25) (.tmp 27) 26 54 rfl i0 _ 4 48 Tryz.underlying26 hi0 hz0 hz1 hz2 rfl (by decide) W0.heap.size u5 (keepL f (l.take j)).length _ rfl HO3.out [.string xn, .int .i64 xk, .int .i64 xv, .string xs] rfl _ rfl (by rw [hs3']; rfl) (by intro u hu; simp at hu; rcases hu with rfl | rfl | rfl | rfl <;> rfl) (by omega) (by unfold maxLen; omega) (by omega) ?_); intro v4 w4 hown4 hb4)
        have HO4 : Hid (w4.ownsRow W0.heap.size 54 4 v4 (keepL f (l.take (j + 1))).length (aCells (keepL f (l.take (j + 1))))) := by
          show World.ownsRow _ _ _ _ _ _ _
          rw [HK.out, aCells_snoc, List.length_append]
          exact hown4
        have H4 : Hid (Below W0.heap.size W0 w4) := H3.out.trans hb4
        clear hown4 hb4 HK HO3
        go_wp2
        go_roundw
        case rel => exact ⟨j + 1, by omega, by simp, HO4, H4⟩
        case measure => simp [intOf]; omega
    · have hj' : j = l.length := by omega
      have dk : decide ((j : Int) < (l.length : Int)) = false := by simp; omega
      subst hj'
      have hown := HO.out
      rw [HKe.out] at hown
      obtain ⟨xo, yo, rfl⟩ := (IsRow.own hown).form
      have HR : Hid (IsRow wr 4 (.slice xo (keepL f l).length yo) (keepL f l).length (aCells (keepL f l)) ∧ NewA W0.heap.size xo) := ⟨IsRow.own hown, NewA.own hown⟩
      obtain ⟨⟨⟨q0, q1, q2⟩, q3, q4⟩, ⟨⟨p0, p1, p2⟩, p3, p4⟩, fz0, fz1⟩ := HX.out wr HB.out
      have HBr : Hid (Below w.heap.size w wr) := HBw.out wr HB.out
      have HEnd : Hid (∀ u0 u1 u2 u3 u4 u5, KpP a b c k (keepL f l) w (.returned (.agg (evA a b c k (.slice xo (keepL f l).length yo)))) ((((((wr.setCell ⟨w.heap.size, 4, none⟩ u0).setCell ⟨w.heap.size + 1, 0, none⟩ u1).setCell ⟨w.heap.size + 1, 1, none⟩ u2).setCell ⟨w.heap.size + 1, 2, none⟩ u3).setCell ⟨w.heap.size + 1, 3, none⟩ u4).setCell ⟨w.heap.size + 1, 4, none⟩ u5)) := fun u0 u1 u2 u3 u4 u5 => by
        have hN := HR.out.2
        have hg0 : w.heap.size < W0.heap.size := by have := Hz.out; omega
        have hg1 : w.heap.size + 1 < W0.heap.size := by have := Hz.out; omega
        refine ⟨xo, yo, rfl, row_far (row_far (row_far (row_far (row_far (row_far HR.out.1 hN hg0 4 _) hN hg1 0 _) hN hg1 1 _) hN hg1 2 _) hN hg1 3 _) hN hg1 4 _, hN.le (by omega), ?_⟩
        exact (((((HBr.out.setCell (p := ⟨w.heap.size, 4, none⟩) (Nat.le_refl _) u0).setCell (p := ⟨w.heap.size + 1, 0, none⟩) (Nat.le_add_right _ 1) u1).setCell (p := ⟨w.heap.size + 1, 1, none⟩) (Nat.le_add_right _ 1) u2).setCell (p := ⟨w.heap.size + 1, 2, none⟩) (Nat.le_add_right _ 1) u3).setCell (p := ⟨w.heap.size + 1, 3, none⟩) (Nat.le_add_right _ 1) u4).setCell (p := ⟨w.heap.size + 1, 4, none⟩) (Nat.le_add_right _ 1) u5
      clear HF HKs HQ HO HX HBw HKl HKe hown HR HB HAl HW0
      go_wp2_with fail
      try simp only [Exit.inBlock, Exit.then]
      refine bodyPost_ret (v := .agg (evA a b c k (.slice xo (keepL f l).length yo))) ?_ rfl (HEnd.out _ _ _ _ _ _)
      rw [results_c1 rfl]; go_simp
end Go.Proofs.YtjamkfkbajhefaaGreatDoor
/- event.Check at any event: its walk. -/
namespace Go.Proofs.YtjamkfkbajhefaaGreatDoor
open Go.RowKit Go.ChangeMaps

/-- event.Check plainly. -/
def chkE (a b c : Int) (k : ByteArray) (l : List At) : Bool := idB a b c && decide (checkL k.data.toList = 0) && chkA l
set_option maxRecDepth 100000 in
set_option maxHeartbeats 2000000 in
theorem evCheck_any (a b c : Int) (k : ByteArray) (u : Value) (l : List At) (w : World) (hr : IsRow w 4 u l.length (aCells l)) (hl : l.length ≤ 1000000) (hn : NmA l) (hk : k.size ≤ 1000000) (hT : UT w) (hM : ML w) :
    Calls Tryz.prog 38 #[.agg (evA a b c k u)] w fun e w' => e = .returned (.bool (chkE a b c k l)) ∧ Below w.heap.size w w' := by
  obtain ⟨au, cu, rfl⟩ := hr.form
  obtain ⟨W0, hW0⟩ : ∃ W0, W0 = w.alloc (.cells (evA a b c k (.slice au l.length cu)) 28) := ⟨_, rfl⟩
  have hB : Below w.heap.size w W0 := by rw [hW0]; exact al_b w _
  have hz : w.heap.size < W0.heap.size := by rw [hW0]; simp
  have hn0 : W0.heap[w.heap.size]? = some (.cells (evA a b c k (.slice au l.length cu)) 28 (0, 0)) := by
    rw [hW0]
    show (w.heap.push _)[w.heap.size]? = _
    rw [Array.getElem?_push, if_pos rfl]
  have HX : Hid (∀ W, Below W0.heap.size W0 W → BxV w.heap.size a b c k (.slice au l.length cu) W) := fun W h => BxV.of ((h.block _ hz).trans hn0)
  have HBw : Hid (∀ W, Below W0.heap.size W0 W → Below w.heap.size w W) := fun W h => hB.trans (h.mono hB.size)
  have HI : Hid (∀ W, Calls Tryz.prog 34 #[.agg #[.int .i64 a, .int .i64 b, .int .i64 c]] W fun e w' => e = .returned (.bool (idB a b c)) ∧ Below W.heap.size W w') := fun W => isID_any a b c W
  have HN : Hid (∀ W, Calls Tryz.prog 33 #[.string k] W fun e w' => e = .returned (.int .i64 (checkL k.data.toList)) ∧ Below W.heap.size W w') := fun W => check_any k W (by omega)
  have HA : Hid (∀ W, Below w.heap.size w W → Calls Tryz.prog 13 #[.slice au l.length cu] W fun e w' => e = .returned (.bool (chkA l)) ∧ Below W.heap.size W w') := fun W h => attrs_any _ l W (hr.below h) hl hn (Utf8Tabs_below hT h) (ML_below hM h)
  clear hB hz hn0 hr hl hn hk hT hM
  obtain ⟨⟨p0, p1, p2⟩, p3, p4⟩ := HX.out W0 (Below.refl _ _)
  rw [hW0] at p0 p1 p2 p3 p4
  go_enter Tryz.func38, Tryz.ntmps38
  go_wp2_with fail
  rw [← hW0]
  clear hW0 p0 p1 p2 p3 p4
  refine (HI.out _).mono ?_
  rintro e w1 ⟨rfl, hb⟩
  have Hw1 : Hid (Below W0.heap.size W0 w1) := hb
  clear hb
  cases hi : idB a b c
  · have HBz := HBw.out _ Hw1.out
    have HBz' : Hid (Below w.heap.size w w1) := HBz
    have he : chkE a b c k l = false := by simp [chkE, hi]
    clear HBz
    go_wp2
    go_ret
    exact ⟨by simp [he], HBz'.out⟩
  obtain ⟨-, p3, p4⟩ := HX.out w1 Hw1.out
  go_wp2_with fail
  refine (HN.out _).mono ?_
  rintro e w2 ⟨rfl, hb⟩
  have Hw2 : Hid (Below W0.heap.size W0 w2) := Hw1.out.trans (hb.mono Hw1.out.size)
  clear hb p3 p4
  by_cases hc : checkL k.data.toList = 0
  · have he : chkE a b c k l = chkA l := by simp [chkE, hi, hc]
    obtain ⟨-, p3, p4⟩ := HX.out w2 Hw2.out
    go_wp2_with fail
    refine (HA.out _ (HBw.out _ Hw2.out)).mono ?_
    rintro e w3 ⟨rfl, hb⟩
    have HBz : Hid (Below w.heap.size w w3) := HBw.out _ (Hw2.out.trans (hb.mono Hw2.out.size))
    clear hb p3 p4
    go_wp2
    go_ret
    exact ⟨by simp [he], HBz.out⟩
  · have HBz : Hid (Below w.heap.size w w2) := HBw.out _ Hw2.out
    have he : chkE a b c k l = false := by simp [chkE, hc]
    go_wp2
    go_ret
    exact ⟨by simp [he], HBz.out⟩
end Go.Proofs.YtjamkfkbajhefaaGreatDoor
/- Forests joined: plainly; cmp.Compare of ints, cmp.Or of three, forest.Order, earlier: walks. -/
namespace Go.Proofs.YtjamkfkbajhefaaGreatDoor
open Go.RowKit Go.ChangeMaps

def or3 (a b c : Int) : Int := if a = 0 then (if b = 0 then c else b) else a
end Go.Proofs.YtjamkfkbajhefaaGreatDoor
/- Identities stand in one order: plain mathematics. -/
namespace Go.Proofs.YtjamkfkbajhefaaGreatDoor
open Go.RowKit

end Go.Proofs.YtjamkfkbajhefaaGreatDoor
/- EventOrder: its walk, where the example's call answers true. -/
namespace Go.Proofs.YtjamkfkbajhefaaGreatDoor
open Go.RowKit Go.ChangeMaps

end Go.Proofs.YtjamkfkbajhefaaGreatDoor
