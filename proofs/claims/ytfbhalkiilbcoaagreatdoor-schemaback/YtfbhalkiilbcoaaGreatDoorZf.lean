/- The law's Few and FewAttrs: walks. -/
import Derived.Test.YtfbhalkiilbcoaaGreatDoorEL
namespace Go.Proofs.YtfbhalkiilbcoaaGreatDoor
open Go.RowKit

def okW (l : List Fd) (k : Nat) (h : k < l.length) : Prop := k ≤ 40 ∧ l[k].n.size ≤ 200
instance (l : List Fd) (k : Nat) (h : k < l.length) : Decidable (okW l k h) := by unfold okW; exact inferInstance
def fewF (l : List Fd) : Bool := decide (∀ (k : Nat) (h : k < l.length), okW l k h)
theorem fewF_no {l : List Fd} {k : Nat} (h : k < l.length) (hn : ¬ okW l k h) : fewF l = false := decide_eq_false fun hh => hn (hh k h)
def okWA (l : List At) (k : Nat) (h : k < l.length) : Prop := k ≤ 40 ∧ l[k].n.size ≤ 200 ∧ l[k].s.size ≤ 500
instance (l : List At) (k : Nat) (h : k < l.length) : Decidable (okWA l k h) := by unfold okWA; exact inferInstance
def fewA (l : List At) : Bool := decide (∀ (k : Nat) (h : k < l.length), okWA l k h)
theorem fewA_no {l : List At} {k : Nat} (h : k < l.length) (hn : ¬ okWA l k h) : fewA l = false := decide_eq_false fun hh => hn (hh k h)
set_option maxRecDepth 100000 in
set_option maxHeartbeats 2000000 in
theorem fewF_any (v : Value) (l : List Fd) (w : World) (hr : IsRow w 3 v l.length (fCells l)) (hl : l.length ≤ 140737488355328) :
    Calls Tryz.prog 5 #[v] w fun e w' => e = .returned (.bool (fewF l)) ∧ w' = w := by
  obtain ⟨a0, cap0, rfl⟩ := hr.form
  have HR : Hid (IsRow w 3 (.slice a0 l.length cap0) l.length (fCells l)) := hr
  clear hr
  go_enter Tryz.func5, Tryz.ntmps5
  go_wp2_with fail
  go_loopw [2, 3] (fun r i wr => r = .bool false ∧ ∃ k : Nat, k ≤ l.length ∧ k ≤ 41 ∧ i = .int .i64 (k : Int) ∧ Hid (∀ (j : Nat) (h : j < l.length), j < k → okW l j h) ∧ w = wr) (fun _ i _ => l.length - (intOf i).toNat)
  case atStart => exact ⟨rfl, 0, Nat.zero_le _, by omega, rfl, fun j h hj => absurd hj (Nat.not_lt_zero _), rfl⟩
  case round =>
    obtain ⟨rfl, k, hk, hk41, rfl, HO, rfl⟩ := hrel
    by_cases hlk : k < l.length
    · have dk : decide ((k : Int) < l.length) = true := by simp; omega
      obtain ⟨b, off, rfl, hlt, hcap, hc⟩ := f_at HR.out (by omega)
      obtain ⟨ck0, -, -⟩ := hc k hlk
      have HN : Hid (¬ okW l k hlk → fewF l = false) := fewF_no hlk
      by_cases h40 : k ≤ 40
      · have d40 : decide ((40 : Int) < (k : Int)) = false := by simp; omega
        by_cases h200 : l[k].n.size ≤ 200
        · have d200 : decide ((200 : Int) < (l[k].n.size : Int)) = false := by simp; omega
          have HO2 : Hid (∀ (j : Nat) (h : j < l.length), j < k + 1 → okW l j h) := fun j h hj => by
            by_cases e : j = k
            · subst e; exact ⟨h40, h200⟩
            · exact HO.out j h (by omega)
          generalize l[k].n = nm at *
          clear hc HO h200 HN
          go_wp2
          go_roundw
          case rel => exact ⟨rfl, k + 1, by omega, by omega, by simp, HO2, trivial⟩
          case measure => simp [intOf]; omega
        · have d200 : decide ((200 : Int) < (l[k].n.size : Int)) = true := by simp; omega
          have HNn : Hid (fewF l = false) := HN.out fun h => h200 h.2
          generalize l[k].n = nm at *
          clear hc HO h200 HN
          go_wp2
          go_ret
          exact ⟨by rw [HNn.out]; rfl, rfl⟩
      · have d40 : decide ((40 : Int) < (k : Int)) = true := by simp; omega
        have HNn : Hid (fewF l = false) := HN.out fun h => h40 h.1
        clear hc HO HN
        go_wp2
        go_ret
        exact ⟨by rw [HNn.out]; rfl, rfl⟩
    · have hk' : k = l.length := by omega
      subst hk'
      have dk : decide ((l.length : Int) < l.length) = false := by simp
      have HY : Hid (fewF l = true) := decide_eq_true fun j hj => HO.out j hj hj
      clear HO
      go_wp2
      go_ret
      exact ⟨by rw [HY.out]; rfl, rfl⟩
set_option maxRecDepth 100000 in
set_option maxHeartbeats 2000000 in
theorem fewA_any (v : Value) (l : List At) (w : World) (hr : IsRow w 4 v l.length (aCells l)) (hl : l.length ≤ 140737488355328) :
    Calls Tryz.prog 6 #[v] w fun e w' => e = .returned (.bool (fewA l)) ∧ w' = w := by
  obtain ⟨a0, cap0, rfl⟩ := hr.form
  have HR : Hid (IsRow w 4 (.slice a0 l.length cap0) l.length (aCells l)) := hr
  clear hr
  go_enter Tryz.func6, Tryz.ntmps6
  go_wp2_with fail
  go_loopw [2, 3] (fun r i wr => r = .bool false ∧ ∃ k : Nat, k ≤ l.length ∧ k ≤ 41 ∧ i = .int .i64 (k : Int) ∧ Hid (∀ (j : Nat) (h : j < l.length), j < k → okWA l j h) ∧ w = wr) (fun _ i _ => l.length - (intOf i).toNat)
  case atStart => exact ⟨rfl, 0, Nat.zero_le _, by omega, rfl, fun j h hj => absurd hj (Nat.not_lt_zero _), rfl⟩
  case round =>
    obtain ⟨rfl, k, hk, hk41, rfl, HO, rfl⟩ := hrel
    by_cases hlk : k < l.length
    · have dk : decide ((k : Int) < l.length) = true := by simp; omega
      obtain ⟨b, off, rfl, hlt, hcap, hc⟩ := a_at HR.out (by omega)
      obtain ⟨ck0, -, -, ck3⟩ := hc k hlk
      have HN : Hid (¬ okWA l k hlk → fewA l = false) := fewA_no hlk
      by_cases h40 : k ≤ 40
      · have d40 : decide ((40 : Int) < (k : Int)) = false := by simp; omega
        by_cases h200 : l[k].n.size ≤ 200
        · have d200 : decide ((200 : Int) < (l[k].n.size : Int)) = false := by simp; omega
          by_cases h500 : l[k].s.size ≤ 500
          · have d500 : decide ((500 : Int) < (l[k].s.size : Int)) = false := by simp; omega
            have HO2 : Hid (∀ (j : Nat) (h : j < l.length), j < k + 1 → okWA l j h) := fun j h hj => by
              by_cases e : j = k
              · subst e; exact ⟨h40, h200, h500⟩
              · exact HO.out j h (by omega)
            generalize l[k].n = nm at *
            generalize l[k].s = tx at *
            clear hc HO h200 h500 HN
            go_wp2
            go_roundw
            case rel => exact ⟨rfl, k + 1, by omega, by omega, by simp, HO2, trivial⟩
            case measure => simp [intOf]; omega
          · have d500 : decide ((500 : Int) < (l[k].s.size : Int)) = true := by simp; omega
            have HNn : Hid (fewA l = false) := HN.out fun h => h500 h.2.2
            generalize l[k].n = nm at *
            generalize l[k].s = tx at *
            clear hc HO h200 h500 HN
            go_wp2
            go_ret
            exact ⟨by rw [HNn.out]; rfl, rfl⟩
        · have d200 : decide ((200 : Int) < (l[k].n.size : Int)) = true := by simp; omega
          have HNn : Hid (fewA l = false) := HN.out fun h => h200 h.2.1
          generalize l[k].n = nm at *
          clear hc HO h200 HN
          go_wp2
          go_ret
          exact ⟨by rw [HNn.out]; rfl, rfl⟩
      · have d40 : decide ((40 : Int) < (k : Int)) = true := by simp; omega
        have HNn : Hid (fewA l = false) := HN.out fun h => h40 h.1
        clear hc HO HN
        go_wp2
        go_ret
        exact ⟨by rw [HNn.out]; rfl, rfl⟩
    · have hk' : k = l.length := by omega
      subst hk'
      have dk : decide ((l.length : Int) < l.length) = false := by simp
      have HY : Hid (fewA l = true) := decide_eq_true fun j hj => HO.out j hj hj
      clear HO
      go_wp2
      go_ret
      exact ⟨by rw [HY.out]; rfl, rfl⟩
end Go.Proofs.YtfbhalkiilbcoaaGreatDoor
/- The law's Refs; the reference's Same of fields: walks. -/
namespace Go.Proofs.YtfbhalkiilbcoaaGreatDoor
open Go.RowKit

/-- A row of fields, handed back. -/
def RfPost (l : List Fd) (w : World) (e : Ending) (w' : World) : Prop := ∃ v, e = .returned v ∧ IsRow w' 3 v l.length (fCells l) ∧ Below w.heap.size w w'
theorem info_rf : (Tryz.prog.info? 67).map (fun i => (i.zero, i.size, i.bytes)) = some (some (.agg #[.string ⟨#[]⟩, .int .i64 0, .bool false]), 3, 32) := by kernel_rfl
theorem f_take (l : List Fd) (k : Nat) (hk : k < l.length) : fCells (l.take (k + 1)) = fCells (l.take k) ++ enF l[k] := by
  rw [List.take_succ_eq_append_getElem hk, fCells, List.flatMap_append]
  simp [fCells]
set_option maxRecDepth 100000 in
set_option maxHeartbeats 2000000 in
theorem refs_any (v : Value) (l : List Fd) (w : World) (hr : IsRow w 3 v l.length (fCells l)) (hl : l.length ≤ 1000000) :
    Calls Tryz.prog 14 #[v] w fun e w' => RfPost l w e w' := by
  obtain ⟨a0, cap0, rfl⟩ := hr.form
  have HR : Hid (IsRow w 3 (.slice a0 l.length cap0) l.length (fCells l)) := hr
  clear hr
  obtain ⟨i0, hi0, hz0, hz1, hz2⟩ := info_parts info_rf
  go_enter Tryz.func14, Tryz.ntmps14
  go_wp2_with fail
  go_loopw [3, 4] (fun r i wr => ∃ k : Nat, k ≤ l.length ∧ i = .int .i64 (k : Int) ∧ wr.ownsRow w.heap.size 67 3 r k (fCells (l.take k)) ∧ Below w.heap.size w wr) (fun _ i _ => l.length - (intOf i).toNat)
  case atStart => exact ⟨0, Nat.zero_le _, rfl, World.ownsRow_nil _ _ _ _, Below.refl _ _⟩
  case round =>
    obtain ⟨k, hk, rfl, hown, hB⟩ := hrel
    have hsz := hB.size
    by_cases hlk : k < l.length
    · have dk : decide ((k : Int) < l.length) = true := by simp; omega
      obtain ⟨b, off, rfl, hlt, hcap, hc⟩ := f_at (HR.out.below hB) (by omega)
      obtain ⟨ck0, ck1, ck2⟩ := hc k hlk
      have HTh : Hid (fCells (l.take (k + 1)) = fCells (l.take k) ++ enF l[k]) := f_take l k hlk
      have HO : Hid (wr.ownsRow w.heap.size 67 3 u3 k (fCells (l.take k))) := hown
      generalize l[k]'hlk = x at *
      obtain ⟨fn, fk, fm⟩ := x
      clear hc hown
      go_wp2_with (at_builtin; go_loud (refine wpl_appE wr rfl (.tmp 11) (.tmp 16) 34 67 rfl i0 _ 3 32 Tryz.underlying34 hi0 hz0 hz1 hz2 rfl (by decide) w.heap.size u3 k _ rfl HO.out [.string fn, .int .i64 fk, .bool fm] rfl _ rfl rfl (by intro u hu; simp at hu; rcases hu with rfl | rfl | rfl <;> rfl) (by omega) (by unfold maxLen; omega) (by omega) ?_); intro v4 w4 hown4 hb4)
      have HO4 : Hid (w4.ownsRow w.heap.size 67 3 v4 (k + 1) (fCells (l.take (k + 1)))) := by show World.ownsRow _ _ _ _ _ _ _; rw [HTh.out]; exact hown4
      have HB4 : Hid (Below w.heap.size w w4) := hB.trans hb4
      clear hown4 hb4 HTh HO hB
      go_wp2
      go_roundw
      case rel => exact ⟨k + 1, by omega, by simp, HO4.out, HB4.out⟩
      case measure => simp [intOf]; omega
    · have hk' : k = l.length := by omega
      subst hk'
      have dk : decide ((l.length : Int) < l.length) = false := by simp
      rw [List.take_of_length_le (Nat.le_refl _)] at hown
      have HX : Hid (IsRow wr 3 u3 l.length (fCells l) ∧ Below w.heap.size w wr) := ⟨IsRow.own hown, hB⟩
      clear hown hB
      go_wp2
      go_ret
      exact ⟨_, rfl, HX.out.1, HX.out.2⟩
end Go.Proofs.YtfbhalkiilbcoaaGreatDoor
/- The reference's Same of fields: its walk. -/
namespace Go.Proofs.YtfbhalkiilbcoaaGreatDoor
open Go.RowKit

/-- The same in all. -/
def eqF (x y : Fd) : Bool := decide (x.n = y.n) && (decide (x.k = y.k) && decide (x.m = y.m))
theorem eqF_iff (x y : Fd) : eqF x y = true ↔ x = y := by
  obtain ⟨n, k, m⟩ := x
  obtain ⟨n', k', m'⟩ := y
  simp [eqF]
def sameR (a b : List Fd) : Bool := decide (a.length = b.length) && decide (∀ (k : Nat) (h : k < a.length) (h2 : k < b.length), eqF a[k] b[k] = true)
theorem sameR_iff (a b : List Fd) : sameR a b = true ↔ a = b := by
  unfold sameR
  rw [Bool.and_eq_true, decide_eq_true_eq, decide_eq_true_eq]
  constructor
  · intro ⟨h1, h2⟩
    exact List.ext_getElem h1 fun k h h' => (eqF_iff _ _).1 (h2 k h h')
  · rintro rfl
    exact ⟨rfl, fun k h h2 => (eqF_iff _ _).2 rfl⟩
theorem sameR_no {a b : List Fd} {k : Nat} (h : k < a.length) (h2 : k < b.length) (hn : eqF a[k] b[k] = false) : sameR a b = false := by
  unfold sameR
  rw [Bool.and_eq_false_iff]
  right
  rw [decide_eq_false_iff_not]
  exact fun hh => by rw [hh k h h2] at hn; cases hn
set_option maxRecDepth 100000 in
set_option maxHeartbeats 2000000 in
theorem refSame_any (v u : Value) (a l : List Fd) (w : World) (hq : IsRow w 3 v a.length (fCells a)) (hr : IsRow w 3 u l.length (fCells l)) (hal : a.length ≤ 1000000) (hl : l.length ≤ 1000000) :
    Calls Tryz.prog 13 #[v, u] w fun e w' => e = .returned (.bool (sameR a l)) ∧ Below w.heap.size w w' := by
  obtain ⟨a0, cap0, rfl⟩ := hq.form
  obtain ⟨a1, cap1, rfl⟩ := hr.form
  have HQ : Hid (∀ w', Below w.heap.size w w' → IsRow w' 3 (.slice a0 a.length cap0) a.length (fCells a)) := fun w' h => hq.below h
  have HR : Hid (∀ w', Below w.heap.size w w' → IsRow w' 3 (.slice a1 l.length cap1) l.length (fCells l)) := fun w' h => hr.below h
  clear hq hr
  by_cases hln : a.length = l.length
  rotate_left
  · have e0 : sameR a l = false := by unfold sameR; rw [decide_eq_false hln, Bool.false_and]
    have dn : ((a.length : Int) != (l.length : Int)) = true := by rw [bne_iff_ne]; omega
    rw [e0]
    go_enter Tryz.func13, Tryz.ntmps13
    go_wp2
    go_ret
    exact ⟨rfl, Below.refl _ _⟩
  have dn : ((a.length : Int) != (l.length : Int)) = false := by rw [hln]; simp
  have HL : Hid (a.length = l.length) := hln
  clear hln
  go_enter Tryz.func13, Tryz.ntmps13
  go_wp2_with fail
  go_loopw [4, 5] (fun r i wr => r = .bool false ∧ ∃ k : Nat, k ≤ a.length ∧ i = .int .i64 (k : Int) ∧ Hid (∀ (j : Nat) (h : j < a.length) (h2 : j < l.length), j < k → eqF a[j] l[j] = true) ∧ Below w.heap.size w wr) (fun _ i _ => a.length - (intOf i).toNat)
  case atStart => exact ⟨rfl, 0, Nat.zero_le _, rfl, fun j h h2 hj => absurd hj (Nat.not_lt_zero _), Below.refl _ _⟩
  case round =>
    obtain ⟨rfl, k, hk, rfl, HO, hB⟩ := hrel
    by_cases hlk : k < a.length
    · have hlk2 : k < l.length := by have := HL.out; omega
      have dk : decide ((k : Int) < a.length) = true := by simp; omega
      obtain ⟨b, off, rfl, hlt, hcap, hc⟩ := f_at (HQ.out wr hB) (by omega)
      obtain ⟨b', off', rfl, hlt', hcap', hc'⟩ := f_at (HR.out wr hB) (by omega)
      obtain ⟨ck0, ck1, ck2⟩ := hc k hlk
      obtain ⟨dk0, dk1, dk2⟩ := hc' k hlk2
      have HO2 : Hid (eqF a[k] l[k] = true → ∀ (j : Nat) (h : j < a.length) (h2 : j < l.length), j < k + 1 → eqF a[j] l[j] = true) := fun hs j h h2 hj => by
        by_cases e : j = k
        · subst e; exact hs
        · exact HO.out j h h2 (by omega)
      have HN : Hid (eqF a[k] l[k] = false → sameR a l = false) := sameR_no hlk hlk2
      generalize a[k]'hlk = x at *
      generalize l[k]'hlk2 = y at *
      obtain ⟨n, kk, m⟩ := x
      obtain ⟨n', kk', m'⟩ := y
      have q1 : (0 : Int) ≤ (k : Int) := by omega
      have q2 : (k : Int) < (a.length : Int) := by omega
      have q3 : (k : Int) < (l.length : Int) := by omega
      clear hc hc' HO
      have HBd : Hid (∀ q, Below w.heap.size w (wr.drewN q)) := fun q => ⟨hB.os, hB.tape, hB.output, hB.size, hB.block⟩
      clear hB
      cases hq : eqF ⟨n, kk, m⟩ ⟨n', kk', m'⟩ with
      | true =>
        have HO3 := HO2.out hq
        have he := (eqF_iff _ _).1 hq
        simp only [Fd.mk.injEq] at he
        obtain ⟨rfl, rfl, rfl⟩ := he
        clear hq HN HO2
        go_wp2_with fail
        refine wp_region_quiet (C := fun w' => ∃ q, w' = wr.drewN q) (by kernel_rfl) (by kernel_rfl) ⟨1, rfl⟩ ?_
        dsimp only
        repeat (first
          | (go_big_quiet_want
             apply Exists.intro
             refine ⟨fun W' hW' => ?_, ?_⟩
             · obtain ⟨q, rfl⟩ := hW'
               go_simp
               first
                 | done
                 | exact ⟨rfl, q, rfl⟩
                 | exact ⟨rfl, rfl⟩
                 | rfl
             go_big_quiet_on
             try simp only [Act.put, List.setIfInBounds_toArray, List.set_cons_zero, List.set_cons_succ]))
        refine wpQuiet_nil ?_
        rintro w2 ⟨q, rfl⟩
        go_wp2
        go_roundw
        case rel => exact ⟨rfl, k + 1, by omega, by simp, HO3, HBd.out q⟩
        case measure => simp [intOf]; omega
      | false =>
        have HN2 : Hid (sameR a l = false) := HN.out hq
        have hne : ¬ (n.toList = n'.toList ∧ kk = kk' ∧ m = m') := fun h => by
          obtain ⟨h1, rfl, rfl⟩ := h
          rw [ByteArray.toList_eq, ByteArray.toList_eq] at h1
          obtain rfl : n = n' := ba_eq h1
          rw [(eqF_iff _ _).2 rfl] at hq
          cases hq
        have HE : Hid (∀ q : Nat, ((if n.toList = n'.toList then if kk = kk' then if m = m' then Result.ok (Next.value (Value.bool false)) (wr.drewN q) else Result.ok (Next.value (Value.bool true)) (wr.drewN q) else Result.ok (Next.value (Value.bool true)) (wr.drewN q) else Result.ok (Next.value (Value.bool true)) (wr.drewN q))) = (Result.ok (Next.value (Value.bool true)) (wr.drewN q) : Result Next)) := fun q => by
          by_cases h1 : n.toList = n'.toList
          · by_cases h2 : kk = kk'
            · by_cases h3 : m = m'
              · exact absurd ⟨h1, h2, h3⟩ hne
              · simp [h1, h2, h3]
            · simp [h1, h2]
          · simp [h1]
        clear hq HN HO2 hne
        go_wp2_with fail
        refine wp_region_quiet (C := fun w' => ∃ q, w' = wr.drewN q) (by kernel_rfl) (by kernel_rfl) ⟨1, rfl⟩ ?_
        dsimp only
        repeat (first
          | (go_big_quiet_want
             apply Exists.intro
             refine ⟨fun W' hW' => ?_, ?_⟩
             · obtain ⟨q, rfl⟩ := hW'
               go_simp
               first
                 | done
                 | exact ⟨rfl, q, rfl⟩
                 | exact ⟨rfl, rfl⟩
                 | rfl
             go_big_quiet_on
             try simp only [Act.put, List.setIfInBounds_toArray, List.set_cons_zero, List.set_cons_succ]))
        go_big_quiet_want
        refine ⟨.bool true, fun W' hW' => ?_, ?_⟩
        · obtain ⟨q, rfl⟩ := hW'
          have := HE.out q
          go_simp
        go_big_quiet_on
        try simp only [Act.put, List.setIfInBounds_toArray, List.set_cons_zero, List.set_cons_succ]
        refine wpQuiet_nil ?_
        rintro w2 ⟨q, rfl⟩
        go_wp2
        go_ret
        exact ⟨by rw [HN2.out]; rfl, HBd.out q⟩
    · have hk' : k = a.length := by omega
      subst hk'
      have dk : decide ((a.length : Int) < a.length) = false := by simp
      have HY : Hid (sameR a l = true) := by show _ = _; unfold sameR; rw [decide_eq_true HL.out, decide_eq_true (fun j h h2 => HO.out j h h2 h)]; rfl
      clear HO
      have HBB : Hid (Below w.heap.size w wr) := hB
      clear hB
      go_wp2
      go_ret
      exact ⟨by rw [HY.out]; rfl, HBB.out⟩
end Go.Proofs.YtfbhalkiilbcoaaGreatDoor
