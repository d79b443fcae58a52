/- schema.Check: its walk. -/
import Derived.Test.YtjamkfkbajhefaaGreatDoorZk3
import Derived.Deep.RegionHeld3
import Derived.BigQuiet
namespace Go.Proofs.YtjamkfkbajhefaaGreatDoor
open Go.RowKit

def fCells (l : List Fd) : List Value := l.flatMap enF
theorem fCells_len (l : List Fd) : (fCells l).length = l.length * 3 := by
  induction l with
  | nil => rfl
  | cons d D ih => rw [fCells, List.flatMap_cons, List.length_append, List.length_cons]; rw [fCells] at ih; rw [ih]; show 3 + _ = _; omega
theorem fCells_get : ∀ (l : List Fd) (k : Nat) (h : k < l.length) (i : Nat), i < 3 → (fCells l)[k * 3 + i]? = (enF l[k])[i]?
  | [], k, h, _, _ => absurd h (by simp)
  | d :: D, 0, _, i, hi => by
    rw [fCells, List.flatMap_cons, Nat.zero_mul, Nat.zero_add, List.getElem?_append_left (by show i < 3; exact hi)]
    rfl
  | d :: D, k + 1, h, i, hi => by
    have z : (enF d).length = 3 := rfl
    rw [fCells, List.flatMap_cons, List.getElem?_append_right (by omega), show (k + 1) * 3 + i - (enF d).length = k * 3 + i by omega]
    have := fCells_get D k (by simpa using h) i hi
    rw [fCells] at this
    rw [this]
    rfl
theorem f_at {w : World} {a : Option Addr} {cap : Nat} {l : List Fd} (h : IsRow w 3 (.slice a l.length cap) l.length (fCells l)) (h0 : 0 < l.length) :
    ∃ b off, a = some ⟨b, off, none⟩ ∧ b < w.heap.size ∧ l.length ≤ cap ∧ ∀ (k : Nat) (hk : k < l.length), w.cell? ⟨b, off + k * 3, none⟩ = some (.string l[k].n) ∧ w.cell? ⟨b, off + k * 3 + 1, none⟩ = some (.int .i64 l[k].k) ∧ w.cell? ⟨b, off + k * 3 + 2, none⟩ = some (.bool l[k].m) := by
  obtain ⟨b, off, cap', hv, hlt, q1, q2, hc⟩ := h.open (by omega)
  simp only [Value.slice.injEq] at hv
  refine ⟨b, off, hv.1, hlt, by omega, fun k hk => ⟨?_, ?_, ?_⟩⟩
  · have := hc (k * 3) (.string l[k].n) (by have := fCells_get l k hk 0 (by omega); rw [Nat.add_zero] at this; rw [this]; rfl)
    simpa using this
  · have := hc (k * 3 + 1) (.int .i64 l[k].k) (by rw [fCells_get l k hk 1 (by omega)]; rfl)
    rwa [← Nat.add_assoc] at this
  · have := hc (k * 3 + 2) (.bool l[k].m) (by rw [fCells_get l k hk 2 (by omega)]; rfl)
    rwa [← Nat.add_assoc] at this
/-- May the field at a place be there? -/
def okF (l : List Fd) (k : Nat) (h : k < l.length) : Prop := mayF l[k] = true ∧ ∀ (j : Nat) (e : j + 1 = k), cmpL (l[j]'(by omega)).n.data.toList l[k].n.data.toList < 0
instance (l : List Fd) (k : Nat) (h : k < l.length) : Decidable (okF l k h) := by
  unfold okF
  cases k with
  | zero => exact decidable_of_iff (mayF l[0] = true) ⟨fun h => ⟨h, fun j e => absurd e (by omega)⟩, fun h => h.1⟩
  | succ k => exact decidable_of_iff (mayF l[k + 1] = true ∧ cmpL (l[k]'(by omega)).n.data.toList l[k + 1].n.data.toList < 0) ⟨fun h => ⟨h.1, fun j e => by cases e; exact h.2⟩, fun h => ⟨h.1, h.2 k rfl⟩⟩
def chkF (l : List Fd) : Bool := decide (l.length ≤ 24) && decide (∀ (k : Nat) (h : k < l.length), okF l k h)
/-- Names are not too long to be looked at. -/
def NmF (l : List Fd) : Prop := ∀ x ∈ l, x.n.size ≤ 1000000
abbrev CK (nb b o : Nat) (x y : Fd) (w0 w : World) : Prop := w.cell? ⟨nb, 0, none⟩ = some (.string x.n) ∧ w.cell? ⟨nb, 1, none⟩ = some (.int .i64 x.k) ∧ w.cell? ⟨nb, 2, none⟩ = some (.bool x.m) ∧ nb < w.heap.size ∧
  w.cell? ⟨b, o, none⟩ = some (.string y.n) ∧ w.cell? ⟨b, o + 1, none⟩ = some (.int .i64 y.k) ∧ w.cell? ⟨b, o + 2, none⟩ = some (.bool y.m) ∧ b < w.heap.size ∧ Below w0.heap.size w0 w
theorem CK_drew {nb b o : Nat} {x y : Fd} {w0 W : World} (h : CK nb b o x y w0 W) : CK nb b o x y w0 W.drew := ⟨h.1, h.2.1, h.2.2.1, h.2.2.2.1, h.2.2.2.2.1, h.2.2.2.2.2.1, h.2.2.2.2.2.2.1, h.2.2.2.2.2.2.2.1, h.2.2.2.2.2.2.2.2.drew⟩
theorem CK_call {nb b o : Nat} {x y : Fd} {w0 W w' : World} (hb : Below W.heap.size W w') (h : CK nb b o x y w0 W) : CK nb b o x y w0 w' := by
  obtain ⟨a0, a1, a2, l1, c0, c1, c2, l2, B⟩ := h
  exact ⟨(hb.cell (p := ⟨nb, 0, none⟩) l1).trans a0, (hb.cell (p := ⟨nb, 1, none⟩) l1).trans a1, (hb.cell (p := ⟨nb, 2, none⟩) l1).trans a2, Nat.lt_of_lt_of_le l1 hb.size, (hb.cell (p := ⟨b, o, none⟩) l2).trans c0, (hb.cell (p := ⟨b, o + 1, none⟩) l2).trans c1, (hb.cell (p := ⟨b, o + 2, none⟩) l2).trans c2, Nat.lt_of_lt_of_le l2 hb.size, B.trans (hb.mono B.size)⟩
theorem CK_b {nb b o : Nat} {x y : Fd} {w0 W : World} (h : CK nb b o x y w0 W) : Below w0.heap.size w0 W := h.2.2.2.2.2.2.2.2
theorem CK_new {b o : Nat} {x y : Fd} {w0 W : World} {t : TypeId} (hB : Below w0.heap.size w0 W) (hlt : b < W.heap.size) (c0 : W.cell? ⟨b, o, none⟩ = some (.string y.n)) (c1 : W.cell? ⟨b, o + 1, none⟩ = some (.int .i64 y.k)) (c2 : W.cell? ⟨b, o + 2, none⟩ = some (.bool y.m)) :
    CK W.heap.size b o x y w0 (W.alloc (.cells #[.string x.n, .int .i64 x.k, .bool x.m] t)) := by
  have hb := al_b W (.cells #[.string x.n, .int .i64 x.k, .bool x.m] t)
  exact ⟨by simp, by simp, by simp, by simp, (hb.cell (p := ⟨b, o, none⟩) hlt).trans c0, (hb.cell (p := ⟨b, o + 1, none⟩) hlt).trans c1, (hb.cell (p := ⟨b, o + 2, none⟩) hlt).trans c2, Nat.lt_of_lt_of_le hlt hb.size, hB.trans (hb.mono hB.size)⟩
theorem chkF_no {l : List Fd} {k : Nat} (h : k < l.length) (hn : ¬ okF l k h) : chkF l = false := by
  unfold chkF
  rw [Bool.and_eq_false_iff]
  right
  rw [decide_eq_false_iff_not]
  exact fun hh => hn (hh k h)
set_option maxRecDepth 100000 in
set_option maxHeartbeats 2000000 in
theorem checkF_any (v : Value) (l : List Fd) (w : World) (hr : IsRow w 3 v l.length (fCells l)) (hl : l.length ≤ 1000000) (hn : NmF l) (hT : UT w) (hM : ML w) :
    Calls Tryz.prog 24 #[v] w fun e w' => e = .returned (.bool (chkF l)) ∧ Below w.heap.size w w' := by
  obtain ⟨a0, cap0, rfl⟩ := hr.form
  have HR : Hid (IsRow w 3 (.slice a0 l.length cap0) l.length (fCells l)) := hr
  clear hr
  by_cases h24 : l.length ≤ 24
  rotate_left
  · have e0 : chkF l = false := by unfold chkF; rw [decide_eq_false h24, Bool.false_and]
    have d24 : decide ((24 : Int) < (l.length : Int)) = true := by simp; omega
    rw [e0]
    go_enter Tryz.func24, Tryz.ntmps24
    go_wp2
    go_ret
    exact ⟨rfl, Below.refl _ _⟩
  have d24 : decide ((24 : Int) < (l.length : Int)) = false := by simp; omega
  have HK : Hid (∀ (k : Nat) (h : k < l.length) (w' : World), ML w' → Calls Tryz.prog 53 #[fV l[k]] w' fun e w'' => e = .returned (.bool (mayF l[k])) ∧ Below w'.heap.size w' w'') := fun k h w' h' => mayBe_any _ w' (hn _ (List.getElem_mem h)) h'
  have HC : Hid (∀ (j k : Nat) (h1 : j < l.length) (h : k < l.length) (w' : World), UT w' → Calls Tryz.prog 54 #[fV l[j], fV l[k]] w' fun e w'' => e = .returned (.int .i64 (cmpL l[j].n.data.toList l[k].n.data.toList)) ∧ Below w'.heap.size w' w'') := fun j k h1 h w' h' => byName_any _ _ w' (hn _ (List.getElem_mem h1)) (hn _ (List.getElem_mem h)) h'
  have HT : Hid (∀ w', Below w.heap.size w w' → UT w') := fun w' h => Utf8Tabs_below hT h
  have HM : Hid (∀ w', Below w.heap.size w w' → ML w') := fun w' h => ML_below hM h
  clear hT hM hn
  go_enter Tryz.func24, Tryz.ntmps24
  go_wp2_with fail
  go_loopw [2, 10] (fun r i wr => r = .bool false ∧ ∃ k : Nat, k ≤ l.length ∧ i = .int .i64 (k : Int) ∧ Hid (∀ (j : Nat) (h : j < l.length), j < k → okF l j h) ∧ Below w.heap.size w wr) (fun _ i _ => l.length - (intOf i).toNat)
  case atStart => exact ⟨rfl, 0, Nat.zero_le _, rfl, fun j h hj => absurd hj (Nat.not_lt_zero _), Below.refl _ _⟩
  case round =>
    obtain ⟨rfl, k, hk, rfl, HO, hB⟩ := hrel
    by_cases hlk : k < l.length
    · have dk : decide ((k : Int) < l.length) = true := by simp; omega
      obtain ⟨b, off, rfl, hlt, hcap, hc⟩ := f_at (HR.out.below hB) (by omega)
      obtain ⟨ck0, ck1, ck2⟩ := hc k hlk
      have hAl := al_b wr (.cells #[.string l[k].n, .int .i64 l[k].k, .bool l[k].m] 48)
      have HMk : Hid (∀ w', Below w.heap.size w w' → Calls Tryz.prog 53 #[fV l[k]] w' fun e w'' => e = .returned (.bool (mayF l[k])) ∧ Below w'.heap.size w' w'') := fun w' h => HK.out k hlk w' (HM.out w' h)
      cases k with
      | zero =>
        rw [Nat.zero_mul, Nat.add_zero] at ck0 ck1 ck2
        have hS : CK wr.heap.size b off l[0] l[0] w (wr.alloc (.cells #[.string l[0].n, .int .i64 l[0].k, .bool l[0].m] 48)) :=
          CK_new hB hlt ck0 ck1 ck2
        have hok : okF l 0 hlk ↔ mayF l[0] = true := ⟨fun h => h.1, fun h => ⟨h, fun j e => absurd e (by omega)⟩⟩
        have HO2 : Hid (mayF l[0] = true → ∀ (j : Nat) (h : j < l.length), j < 0 + 1 → okF l j h) := fun hm j h hj => by
          obtain rfl : j = 0 := by omega
          exact hok.2 hm
        have HNo : Hid (mayF l[0] = false → chkF l = false) := fun hm => chkF_no (k := 0) hlk fun h => by rw [hok.1 h] at hm; cases hm
        generalize mayF l[0] = r at *
        generalize l[0]'hlk = x at *
        obtain ⟨s, kk, m⟩ := x
        clear hok hc HO hAl
        have dk0 : decide ((0 : Int) < (l.length : Int)) = true := decide_eq_true (by omega)
        cases r with
        | false =>
          go_wp2_with fail
          generalize wr.alloc (.cells #[.string s, .int .i64 kk, .bool m] 48) = W at *
          refine wp_region_quiet (C := fun w' => CK wr.heap.size b off ⟨s, kk, m⟩ ⟨s, kk, m⟩ w w') (by kernel_rfl) (by kernel_rfl) (CK_drew hS) ?_
          dsimp only
          repeat (first
            | go_big_quiet_skip
            | (go_big_quiet_want
               apply Exists.intro
               refine ⟨fun W' hW' => ?_, ?_⟩
               · have hW2 : CK wr.heap.size b off ⟨s, kk, m⟩ ⟨s, kk, m⟩ w W' := hW'
                 obtain ⟨g0, g1, g2, -, g3, g4, g5, -, -⟩ := hW2
                 go_simp
                 first
                   | done
                   | rfl
                   | (go_at_call 53; refine (HMk.out W' (CK_b hW')).mono ?_; rintro e w'' ⟨rfl, hb⟩; exact ⟨rfl, CK_call hb hW'⟩)
                   | (go_at_call 54; refine (HCk.out W' (CK_b hW')).mono ?_; rintro e w'' ⟨rfl, hb⟩; exact ⟨rfl, CK_call hb hW'⟩)
               go_big_quiet_on
               try simp only [Act.put, List.setIfInBounds_toArray, List.set_cons_zero, List.set_cons_succ]))
          refine wpQuiet_nil ?_
          intro w2 hS2'
          have hS2 : CK wr.heap.size b off ⟨s, kk, m⟩ ⟨s, kk, m⟩ w w2 := hS2'
          have HBB : Hid (Below w.heap.size w _) := CK_b hS2
          clear hS hS2 hS2'
          go_wp2
          go_ret
          exact ⟨by rw [HNo.out (by trivial)]; rfl, HBB.out⟩
        | true =>
          go_wp2_with fail
          generalize wr.alloc (.cells #[.string s, .int .i64 kk, .bool m] 48) = W at *
          refine wp_region_quiet (C := fun w' => CK wr.heap.size b off ⟨s, kk, m⟩ ⟨s, kk, m⟩ w w') (by kernel_rfl) (by kernel_rfl) (CK_drew hS) ?_
          dsimp only
          repeat (first
            | go_big_quiet_skip
            | (go_big_quiet_want
               apply Exists.intro
               refine ⟨fun W' hW' => ?_, ?_⟩
               · have hW2 : CK wr.heap.size b off ⟨s, kk, m⟩ ⟨s, kk, m⟩ w W' := hW'
                 obtain ⟨g0, g1, g2, -, g3, g4, g5, -, -⟩ := hW2
                 go_simp
                 first
                   | done
                   | rfl
                   | (go_at_call 53; refine (HMk.out W' (CK_b hW')).mono ?_; rintro e w'' ⟨rfl, hb⟩; exact ⟨rfl, CK_call hb hW'⟩)
                   | (go_at_call 54; refine (HCk.out W' (CK_b hW')).mono ?_; rintro e w'' ⟨rfl, hb⟩; exact ⟨rfl, CK_call hb hW'⟩)
               go_big_quiet_on
               try simp only [Act.put, List.setIfInBounds_toArray, List.set_cons_zero, List.set_cons_succ]))
          refine wpQuiet_nil ?_
          intro w2 hS2'
          have hS2 : CK wr.heap.size b off ⟨s, kk, m⟩ ⟨s, kk, m⟩ w w2 := hS2'
          have HBB : Hid (Below w.heap.size w _) := CK_b hS2
          clear hS hS2 hS2'
          go_wp2
          go_roundw
          case rel => exact ⟨rfl, 0 + 1, by omega, by simp, HO2.out (by trivial), HBB.out⟩
          case measure => simp [intOf]; omega
      | succ j =>
        have hj : j < l.length := by omega
        obtain ⟨cj0, cj1, cj2⟩ := hc j hj
        have hS : CK wr.heap.size b (off + j * 3) l[j + 1] l[j] w (wr.alloc (.cells #[.string l[j + 1].n, .int .i64 l[j + 1].k, .bool l[j + 1].m] 48)) :=
          CK_new hB hlt cj0 cj1 cj2
        have HCk : Hid (∀ w', Below w.heap.size w w' → Calls Tryz.prog 54 #[fV l[j], fV l[j + 1]] w' fun e w'' => e = .returned (.int .i64 (cmpL l[j].n.data.toList l[j + 1].n.data.toList)) ∧ Below w'.heap.size w' w'') := fun w' h => HC.out j (j + 1) hj hlk w' (HT.out w' h)
        have hok : okF l (j + 1) hlk ↔ mayF l[j + 1] = true ∧ cmpL l[j].n.data.toList l[j + 1].n.data.toList < 0 := ⟨fun h => ⟨h.1, h.2 j rfl⟩, fun h => ⟨h.1, fun i e => by cases e; exact h.2⟩⟩
        have HO2 : Hid (mayF l[j + 1] = true → cmpL l[j].n.data.toList l[j + 1].n.data.toList < 0 → ∀ (i : Nat) (h : i < l.length), i < j + 1 + 1 → okF l i h) := fun hm hm2 i h hi => by
          by_cases e : i = j + 1
          · subst e; exact hok.2 ⟨hm, hm2⟩
          · exact HO.out i h (by omega)
        have HNo : Hid (mayF l[j + 1] = false ∨ ¬ cmpL l[j].n.data.toList l[j + 1].n.data.toList < 0 → chkF l = false) := fun hm => chkF_no (k := j + 1) hlk fun h => by
          rcases hm with hm | hm
          · rw [(hok.1 h).1] at hm; cases hm
          · exact hm (hok.1 h).2
        generalize mayF l[j + 1] = r at *
        generalize cmpL l[j].n.data.toList l[j + 1].n.data.toList = c at *
        generalize l[j + 1]'hlk = x at *
        generalize l[j]'hj = y at *
        obtain ⟨s, kk, m⟩ := x
        obtain ⟨s', kk', m'⟩ := y
        clear hok hc HO hAl
        have q1 : IntKind.i64.wrap (j : Int) = (j : Int) := by rw [IntKind.wrap_i64]; omega
        have q2 : (0 : Int) ≤ (j : Int) := by omega
        have q3 : (j : Int) < (l.length : Int) := by omega
        have q4 : (j : Int) + 1 - 1 = (j : Int) := by omega
        have q5 : decide ((0 : Int) < (j : Int) + 1) = true := decide_eq_true (by omega)
        cases r with
        | false =>
          go_wp2_with fail
          generalize wr.alloc (.cells #[.string s, .int .i64 kk, .bool m] 48) = W at *
          refine wp_region_quiet (C := fun w' => CK wr.heap.size b (off + j * 3) ⟨s, kk, m⟩ ⟨s', kk', m'⟩ w w') (by kernel_rfl) (by kernel_rfl) (CK_drew hS) ?_
          dsimp only
          repeat (first
            | go_big_quiet_skip
            | (go_big_quiet_want
               apply Exists.intro
               refine ⟨fun W' hW' => ?_, ?_⟩
               · have hW2 : CK wr.heap.size b (off + j * 3) ⟨s, kk, m⟩ ⟨s', kk', m'⟩ w W' := hW'
                 obtain ⟨g0, g1, g2, -, g3, g4, g5, -, -⟩ := hW2
                 go_simp
                 first
                   | done
                   | rfl
                   | (go_at_call 53; refine (HMk.out W' (CK_b hW')).mono ?_; rintro e w'' ⟨rfl, hb⟩; exact ⟨rfl, CK_call hb hW'⟩)
                   | (go_at_call 54; refine (HCk.out W' (CK_b hW')).mono ?_; rintro e w'' ⟨rfl, hb⟩; exact ⟨rfl, CK_call hb hW'⟩)
               go_big_quiet_on
               try simp only [Act.put, List.setIfInBounds_toArray, List.set_cons_zero, List.set_cons_succ]))
          refine wpQuiet_nil ?_
          intro w2 hS2'
          have hS2 : CK wr.heap.size b (off + j * 3) ⟨s, kk, m⟩ ⟨s', kk', m'⟩ w w2 := hS2'
          have HBB : Hid (Below w.heap.size w _) := CK_b hS2
          clear hS hS2 hS2'
          go_wp2
          go_ret
          exact ⟨by rw [HNo.out (.inl (by trivial))]; rfl, HBB.out⟩
        | true =>
          by_cases hc0 : c < 0
          · have q6 : decide ((0 : Int) ≤ c) = false := by simp; omega
            go_wp2_with fail
            generalize wr.alloc (.cells #[.string s, .int .i64 kk, .bool m] 48) = W at *
            refine wp_region_quiet (C := fun w' => CK wr.heap.size b (off + j * 3) ⟨s, kk, m⟩ ⟨s', kk', m'⟩ w w') (by kernel_rfl) (by kernel_rfl) (CK_drew hS) ?_
            dsimp only
            repeat (first
              | go_big_quiet_skip
              | (go_big_quiet_want
                 apply Exists.intro
                 refine ⟨fun W' hW' => ?_, ?_⟩
                 · have hW2 : CK wr.heap.size b (off + j * 3) ⟨s, kk, m⟩ ⟨s', kk', m'⟩ w W' := hW'
                   obtain ⟨g0, g1, g2, -, g3, g4, g5, -, -⟩ := hW2
                   go_simp
                   first
                     | done
                     | rfl
                     | (go_at_call 53; refine (HMk.out W' (CK_b hW')).mono ?_; rintro e w'' ⟨rfl, hb⟩; exact ⟨rfl, CK_call hb hW'⟩)
                     | (go_at_call 54; refine (HCk.out W' (CK_b hW')).mono ?_; rintro e w'' ⟨rfl, hb⟩; exact ⟨rfl, CK_call hb hW'⟩)
                 go_big_quiet_on
                 try simp only [Act.put, List.setIfInBounds_toArray, List.set_cons_zero, List.set_cons_succ]))
            refine wpQuiet_nil ?_
            intro w2 hS2'
            have hS2 : CK wr.heap.size b (off + j * 3) ⟨s, kk, m⟩ ⟨s', kk', m'⟩ w w2 := hS2'
            have HBB : Hid (Below w.heap.size w _) := CK_b hS2
            clear hS hS2 hS2'
            go_wp2
            go_roundw
            case rel => exact ⟨rfl, j + 1 + 1, by omega, by simp, HO2.out (by trivial) hc0, HBB.out⟩
            case measure => simp [intOf]; omega
          · have q6 : decide ((0 : Int) ≤ c) = true := by simp; omega
            go_wp2_with fail
            generalize wr.alloc (.cells #[.string s, .int .i64 kk, .bool m] 48) = W at *
            refine wp_region_quiet (C := fun w' => CK wr.heap.size b (off + j * 3) ⟨s, kk, m⟩ ⟨s', kk', m'⟩ w w') (by kernel_rfl) (by kernel_rfl) (CK_drew hS) ?_
            dsimp only
            repeat (first
              | go_big_quiet_skip
              | (go_big_quiet_want
                 apply Exists.intro
                 refine ⟨fun W' hW' => ?_, ?_⟩
                 · have hW2 : CK wr.heap.size b (off + j * 3) ⟨s, kk, m⟩ ⟨s', kk', m'⟩ w W' := hW'
                   obtain ⟨g0, g1, g2, -, g3, g4, g5, -, -⟩ := hW2
                   go_simp
                   first
                     | done
                     | rfl
                     | (go_at_call 53; refine (HMk.out W' (CK_b hW')).mono ?_; rintro e w'' ⟨rfl, hb⟩; exact ⟨rfl, CK_call hb hW'⟩)
                     | (go_at_call 54; refine (HCk.out W' (CK_b hW')).mono ?_; rintro e w'' ⟨rfl, hb⟩; exact ⟨rfl, CK_call hb hW'⟩)
                 go_big_quiet_on
                 try simp only [Act.put, List.setIfInBounds_toArray, List.set_cons_zero, List.set_cons_succ]))
            refine wpQuiet_nil ?_
            intro w2 hS2'
            have hS2 : CK wr.heap.size b (off + j * 3) ⟨s, kk, m⟩ ⟨s', kk', m'⟩ w w2 := hS2'
            have HBB : Hid (Below w.heap.size w _) := CK_b hS2
            clear hS hS2 hS2'
            go_wp2
            go_ret
            exact ⟨by rw [HNo.out (.inr hc0)]; rfl, HBB.out⟩
    · have hk' : k = l.length := by omega
      subst hk'
      have dk : decide ((l.length : Int) < l.length) = false := by simp
      have hyes : chkF l = true := by unfold chkF; rw [decide_eq_true h24, decide_eq_true (fun k h => HO.out k h h)]; rfl
      clear HO
      have HBB : Hid (Below w.heap.size w wr) := hB
      clear hB
      go_wp2
      go_ret
      exact ⟨by rw [hyes]; rfl, HBB.out⟩
end Go.Proofs.YtjamkfkbajhefaaGreatDoor
/- schema.attrMayBe, schema.Attrs: walks. -/
namespace Go.Proofs.YtjamkfkbajhefaaGreatDoor
open Go.RowKit

def mayA (x : At) : Bool := oneP x.n && chkV x.k x.v x.s
set_option maxRecDepth 100000 in
theorem attrMayBe_any (x : At) (w : World) (hs : x.n.size ≤ 1000000) (hs2 : x.s.size ≤ 140737488355328) (hT : UT w) (hM : ML w) :
    Calls Tryz.prog 31 #[aV x] w fun e w' => e = .returned (.bool (mayA x)) ∧ Below w.heap.size w w' := by
  obtain ⟨n, k, v, s⟩ := x
  have hA := al_b w (.cells #[.string n, .int .i64 k, .int .i64 v, .string s] 54)
  have HP : Hid (Calls Tryz.prog 57 #[.string n] (w.alloc (.cells #[.string n, .int .i64 k, .int .i64 v, .string s] 54)) fun e w' => e = .returned (.bool (oneP n)) ∧ Below (w.alloc (.cells #[.string n, .int .i64 k, .int .i64 v, .string s] 54)).heap.size (w.alloc (.cells #[.string n, .int .i64 k, .int .i64 v, .string s] 54)) w') := onePart_any n _ hs (ML_below hM hA)
  have HV : Hid (∀ w', Below w.heap.size w w' → Calls Tryz.prog 58 #[vv k v s] w' fun e w'' => e = .returned (.bool (chkV k v s)) ∧ Below w'.heap.size w' w'') := fun w' h => vcheck_any k v s w' hs2 (Utf8Tabs_below hT h)
  have HA : Hid (Below w.heap.size w (w.alloc (.cells #[.string n, .int .i64 k, .int .i64 v, .string s] 54))) := hA
  have HZ : Hid (∀ w', Below (w.alloc (.cells #[.string n, .int .i64 k, .int .i64 v, .string s] 54)).heap.size (w.alloc (.cells #[.string n, .int .i64 k, .int .i64 v, .string s] 54)) w' → w'.cell? ⟨w.heap.size, 1, none⟩ = some (.int .i64 k) ∧ w'.cell? ⟨w.heap.size, 2, none⟩ = some (.int .i64 v) ∧ w'.cell? ⟨w.heap.size, 3, none⟩ = some (.string s)) := fun w' h => by
    have hl : w.heap.size < (w.alloc (.cells #[.string n, .int .i64 k, .int .i64 v, .string s] 54)).heap.size := by simp
    exact ⟨(h.cell (p := ⟨w.heap.size, 1, none⟩) hl).trans (by simp), (h.cell (p := ⟨w.heap.size, 2, none⟩) hl).trans (by simp), (h.cell (p := ⟨w.heap.size, 3, none⟩) hl).trans (by simp)⟩
  clear hA
  show Calls _ _ _ _ fun e w' => e = .returned (.bool (oneP n && chkV k v s)) ∧ _
  generalize oneP n = p at *
  generalize chkV k v s = q at *
  cases p with
  | false =>
    rw [Bool.false_and]
    go_enter Tryz.func31, Tryz.ntmps31
    go_wp2_with fail
    refine HP.out.mono ?_
    rintro e w1 ⟨rfl, hb⟩
    have HB : Hid (Below w.heap.size w w1) := HA.out.trans (hb.mono HA.out.size)
    clear hb
    go_wp2
    go_ret
    exact ⟨rfl, HB.out⟩
  | true =>
    rw [Bool.true_and]
    go_enter Tryz.func31, Tryz.ntmps31
    go_wp2_with fail
    refine HP.out.mono ?_
    rintro e w1 ⟨rfl, hb⟩
    have HB : Hid (Below w.heap.size w w1) := HA.out.trans (hb.mono HA.out.size)
    obtain ⟨z1, z2, z3⟩ := HZ.out w1 hb
    clear hb
    go_wp2_with fail
    refine (HV.out w1 HB.out).mono ?_
    rintro e w2 ⟨rfl, hb⟩
    have HB2 : Hid (Below w.heap.size w w2) := HB.out.trans (hb.mono HB.out.size)
    clear hb
    go_wp2
    go_ret
    exact ⟨rfl, HB2.out⟩
def aCells (l : List At) : List Value := l.flatMap enA
theorem aCells_get : ∀ (l : List At) (k : Nat) (h : k < l.length) (i : Nat), i < 4 → (aCells l)[k * 4 + i]? = (enA l[k])[i]?
  | [], k, h, _, _ => absurd h (by simp)
  | d :: D, 0, _, i, hi => by
    rw [aCells, List.flatMap_cons, Nat.zero_mul, Nat.zero_add, List.getElem?_append_left (by show i < 4; exact hi)]
    rfl
  | d :: D, k + 1, h, i, hi => by
    have z : (enA d).length = 4 := rfl
    rw [aCells, List.flatMap_cons, List.getElem?_append_right (by omega), show (k + 1) * 4 + i - (enA d).length = k * 4 + i by omega]
    have := aCells_get D k (by simpa using h) i hi
    rw [aCells] at this
    rw [this]
    rfl
theorem a_at {w : World} {a : Option Addr} {cap : Nat} {l : List At} (h : IsRow w 4 (.slice a l.length cap) l.length (aCells l)) (h0 : 0 < l.length) :
    ∃ b off, a = some ⟨b, off, none⟩ ∧ b < w.heap.size ∧ l.length ≤ cap ∧ ∀ (k : Nat) (hk : k < l.length), w.cell? ⟨b, off + k * 4, none⟩ = some (.string l[k].n) ∧ w.cell? ⟨b, off + k * 4 + 1, none⟩ = some (.int .i64 l[k].k) ∧ w.cell? ⟨b, off + k * 4 + 2, none⟩ = some (.int .i64 l[k].v) ∧ w.cell? ⟨b, off + k * 4 + 3, none⟩ = some (.string l[k].s) := by
  obtain ⟨b, off, cap', hv, hlt, q1, q2, hc⟩ := h.open (by omega)
  simp only [Value.slice.injEq] at hv
  refine ⟨b, off, hv.1, hlt, by omega, fun k hk => ⟨?_, ?_, ?_, ?_⟩⟩
  · have := hc (k * 4) (.string l[k].n) (by have := aCells_get l k hk 0 (by omega); rw [Nat.add_zero] at this; rw [this]; rfl)
    simpa using this
  · have := hc (k * 4 + 1) (.int .i64 l[k].k) (by rw [aCells_get l k hk 1 (by omega)]; rfl)
    rwa [← Nat.add_assoc] at this
  · have := hc (k * 4 + 2) (.int .i64 l[k].v) (by rw [aCells_get l k hk 2 (by omega)]; rfl)
    rwa [← Nat.add_assoc] at this
  · have := hc (k * 4 + 3) (.string l[k].s) (by rw [aCells_get l k hk 3 (by omega)]; rfl)
    rwa [← Nat.add_assoc] at this
/-- May the attribute at a place be there? -/
def okA (l : List At) (k : Nat) (h : k < l.length) : Prop := mayA l[k] = true ∧ ∀ (j : Nat) (e : j + 1 = k), cmpL (l[j]'(by omega)).n.data.toList l[k].n.data.toList < 0
instance (l : List At) (k : Nat) (h : k < l.length) : Decidable (okA l k h) := by
  unfold okA
  cases k with
  | zero => exact decidable_of_iff (mayA l[0] = true) ⟨fun h => ⟨h, fun j e => absurd e (by omega)⟩, fun h => h.1⟩
  | succ k => exact decidable_of_iff (mayA l[k + 1] = true ∧ cmpL (l[k]'(by omega)).n.data.toList l[k + 1].n.data.toList < 0) ⟨fun h => ⟨h.1, fun j e => by cases e; exact h.2⟩, fun h => ⟨h.1, h.2 k rfl⟩⟩
def chkA (l : List At) : Bool := decide (l.length ≤ 24) && decide (∀ (k : Nat) (h : k < l.length), okA l k h)
/-- Names are not too long to be looked at. -/
def NmA (l : List At) : Prop := ∀ x ∈ l, x.n.size ≤ 1000000 ∧ x.s.size ≤ 140737488355328
abbrev CA (nb b o : Nat) (x y : At) (w0 w : World) : Prop := w.cell? ⟨nb, 0, none⟩ = some (.string x.n) ∧ w.cell? ⟨nb, 1, none⟩ = some (.int .i64 x.k) ∧ w.cell? ⟨nb, 2, none⟩ = some (.int .i64 x.v) ∧ w.cell? ⟨nb, 3, none⟩ = some (.string x.s) ∧ nb < w.heap.size ∧
  w.cell? ⟨b, o, none⟩ = some (.string y.n) ∧ b < w.heap.size ∧ Below w0.heap.size w0 w
theorem CA_drew {nb b o : Nat} {x y : At} {w0 W : World} (h : CA nb b o x y w0 W) : CA nb b o x y w0 W.drew := ⟨h.1, h.2.1, h.2.2.1, h.2.2.2.1, h.2.2.2.2.1, h.2.2.2.2.2.1, h.2.2.2.2.2.2.1, h.2.2.2.2.2.2.2.drew⟩
theorem CA_call {nb b o : Nat} {x y : At} {w0 W w' : World} (hb : Below W.heap.size W w') (h : CA nb b o x y w0 W) : CA nb b o x y w0 w' := by
  obtain ⟨a0, a1, a2, a3, l1, c0, l2, B⟩ := h
  exact ⟨(hb.cell (p := ⟨nb, 0, none⟩) l1).trans a0, (hb.cell (p := ⟨nb, 1, none⟩) l1).trans a1, (hb.cell (p := ⟨nb, 2, none⟩) l1).trans a2, (hb.cell (p := ⟨nb, 3, none⟩) l1).trans a3, Nat.lt_of_lt_of_le l1 hb.size, (hb.cell (p := ⟨b, o, none⟩) l2).trans c0, Nat.lt_of_lt_of_le l2 hb.size, B.trans (hb.mono B.size)⟩
theorem CA_b {nb b o : Nat} {x y : At} {w0 W : World} (h : CA nb b o x y w0 W) : Below w0.heap.size w0 W := h.2.2.2.2.2.2.2
theorem CA_new {b o : Nat} {x y : At} {w0 W : World} {t : TypeId} (hB : Below w0.heap.size w0 W) (hlt : b < W.heap.size) (c0 : W.cell? ⟨b, o, none⟩ = some (.string y.n)) :
    CA W.heap.size b o x y w0 (W.alloc (.cells #[.string x.n, .int .i64 x.k, .int .i64 x.v, .string x.s] t)) := by
  have hb := al_b W (.cells #[.string x.n, .int .i64 x.k, .int .i64 x.v, .string x.s] t)
  exact ⟨by simp, by simp, by simp, by simp, by simp, (hb.cell (p := ⟨b, o, none⟩) hlt).trans c0, Nat.lt_of_lt_of_le hlt hb.size, hB.trans (hb.mono hB.size)⟩
theorem chkA_no {l : List At} {k : Nat} (h : k < l.length) (hn : ¬ okA l k h) : chkA l = false := by
  unfold chkA
  rw [Bool.and_eq_false_iff]
  right
  rw [decide_eq_false_iff_not]
  exact fun hh => hn (hh k h)
set_option maxRecDepth 100000 in
set_option maxHeartbeats 2000000 in
theorem attrs_any (v : Value) (l : List At) (w : World) (hr : IsRow w 4 v l.length (aCells l)) (hl : l.length ≤ 1000000) (hn : NmA l) (hT : UT w) (hM : ML w) :
    Calls Tryz.prog 13 #[v] w fun e w' => e = .returned (.bool (chkA l)) ∧ Below w.heap.size w w' := by
  obtain ⟨a0, cap0, rfl⟩ := hr.form
  have HR : Hid (IsRow w 4 (.slice a0 l.length cap0) l.length (aCells l)) := hr
  clear hr
  by_cases h24 : l.length ≤ 24
  rotate_left
  · have e0 : chkA l = false := by unfold chkA; rw [decide_eq_false h24, Bool.false_and]
    have d24 : decide ((24 : Int) < (l.length : Int)) = true := by simp; omega
    rw [e0]
    go_enter Tryz.func13, Tryz.ntmps13
    go_wp2
    go_ret
    exact ⟨rfl, Below.refl _ _⟩
  have d24 : decide ((24 : Int) < (l.length : Int)) = false := by simp; omega
  have HK : Hid (∀ (k : Nat) (h : k < l.length) (w' : World), Below w.heap.size w w' → Calls Tryz.prog 31 #[aV l[k]] w' fun e w'' => e = .returned (.bool (mayA l[k])) ∧ Below w'.heap.size w' w'') := fun k h w' h' => attrMayBe_any _ w' (hn _ (List.getElem_mem h)).1 (hn _ (List.getElem_mem h)).2 (Utf8Tabs_below hT h') (ML_below hM h')
  have HC : Hid (∀ (j k : Nat) (h1 : j < l.length) (h : k < l.length) (w' : World), UT w' → Calls Tryz.prog 21 #[.string l[j].n, .string l[k].n] w' fun e w'' => e = .returned (.int .i64 (cmpL l[j].n.data.toList l[k].n.data.toList)) ∧ Below w'.heap.size w' w'') := fun j k h1 h w' h' => compare_any _ _ w' (hn _ (List.getElem_mem h1)).1 (hn _ (List.getElem_mem h)).1 h'
  have HT : Hid (∀ w', Below w.heap.size w w' → UT w') := fun w' h => Utf8Tabs_below hT h
  clear hT hM hn
  go_enter Tryz.func13, Tryz.ntmps13
  go_wp2_with fail
  go_loopw [2, 10] (fun r i wr => r = .bool false ∧ ∃ k : Nat, k ≤ l.length ∧ i = .int .i64 (k : Int) ∧ Hid (∀ (j : Nat) (h : j < l.length), j < k → okA l j h) ∧ Below w.heap.size w wr) (fun _ i _ => l.length - (intOf i).toNat)
  case atStart => exact ⟨rfl, 0, Nat.zero_le _, rfl, fun j h hj => absurd hj (Nat.not_lt_zero _), Below.refl _ _⟩
  case round =>
    obtain ⟨rfl, k, hk, rfl, HO, hB⟩ := hrel
    by_cases hlk : k < l.length
    · have dk : decide ((k : Int) < l.length) = true := by simp; omega
      obtain ⟨b, off, rfl, hlt, hcap, hc⟩ := a_at (HR.out.below hB) (by omega)
      obtain ⟨ck0, ck1, ck2, ck3⟩ := hc k hlk
      have hAl := al_b wr (.cells #[.string l[k].n, .int .i64 l[k].k, .int .i64 l[k].v, .string l[k].s] 54)
      have HMk : Hid (∀ w', Below w.heap.size w w' → Calls Tryz.prog 31 #[aV l[k]] w' fun e w'' => e = .returned (.bool (mayA l[k])) ∧ Below w'.heap.size w' w'') := fun w' h => HK.out k hlk w' h
      cases k with
      | zero =>
        rw [Nat.zero_mul, Nat.add_zero] at ck0 ck1 ck2 ck3
        have hS : CA wr.heap.size b off l[0] l[0] w (wr.alloc (.cells #[.string l[0].n, .int .i64 l[0].k, .int .i64 l[0].v, .string l[0].s] 54)) :=
          CA_new hB hlt ck0
        have hok : okA l 0 hlk ↔ mayA l[0] = true := ⟨fun h => h.1, fun h => ⟨h, fun j e => absurd e (by omega)⟩⟩
        have HO2 : Hid (mayA l[0] = true → ∀ (j : Nat) (h : j < l.length), j < 0 + 1 → okA l j h) := fun hm j h hj => by
          obtain rfl : j = 0 := by omega
          exact hok.2 hm
        have HNo : Hid (mayA l[0] = false → chkA l = false) := fun hm => chkA_no (k := 0) hlk fun h => by rw [hok.1 h] at hm; cases hm
        generalize mayA l[0] = r at *
        generalize l[0]'hlk = x at *
        obtain ⟨s, kk, nn, tt⟩ := x
        clear hok hc HO hAl
        have dk0 : decide ((0 : Int) < (l.length : Int)) = true := decide_eq_true (by omega)
        cases r with
        | false =>
          go_wp2_with fail
          generalize wr.alloc (.cells #[.string s, .int .i64 kk, .int .i64 nn, .string tt] 54) = W at *
          refine wp_region_quiet (C := fun w' => CA wr.heap.size b off ⟨s, kk, nn, tt⟩ ⟨s, kk, nn, tt⟩ w w') (by kernel_rfl) (by kernel_rfl) (CA_drew hS) ?_
          dsimp only
          repeat (first
            | go_big_quiet_skip
            | (go_big_quiet_want
               apply Exists.intro
               refine ⟨fun W' hW' => ?_, ?_⟩
               · have hW2 : CA wr.heap.size b off ⟨s, kk, nn, tt⟩ ⟨s, kk, nn, tt⟩ w W' := hW'
                 obtain ⟨g0, g1, g2, g3, -, g4, -, -⟩ := hW2
                 go_simp
                 first
                   | done
                   | rfl
                   | (go_at_call 31; refine (HMk.out W' (CA_b hW')).mono ?_; rintro e w'' ⟨rfl, hb⟩; exact ⟨rfl, CA_call hb hW'⟩)
                   | (go_at_call 21; refine (HCk.out W' (CA_b hW')).mono ?_; rintro e w'' ⟨rfl, hb⟩; exact ⟨rfl, CA_call hb hW'⟩)
               go_big_quiet_on
               try simp only [Act.put, List.setIfInBounds_toArray, List.set_cons_zero, List.set_cons_succ]))
          refine wpQuiet_nil ?_
          intro w2 hS2'
          have hS2 : CA wr.heap.size b off ⟨s, kk, nn, tt⟩ ⟨s, kk, nn, tt⟩ w w2 := hS2'
          have HBB : Hid (Below w.heap.size w _) := CA_b hS2
          clear hS hS2 hS2'
          go_wp2
          go_ret
          exact ⟨by rw [HNo.out (by trivial)]; rfl, HBB.out⟩
        | true =>
          go_wp2_with fail
          generalize wr.alloc (.cells #[.string s, .int .i64 kk, .int .i64 nn, .string tt] 54) = W at *
          refine wp_region_quiet (C := fun w' => CA wr.heap.size b off ⟨s, kk, nn, tt⟩ ⟨s, kk, nn, tt⟩ w w') (by kernel_rfl) (by kernel_rfl) (CA_drew hS) ?_
          dsimp only
          repeat (first
            | go_big_quiet_skip
            | (go_big_quiet_want
               apply Exists.intro
               refine ⟨fun W' hW' => ?_, ?_⟩
               · have hW2 : CA wr.heap.size b off ⟨s, kk, nn, tt⟩ ⟨s, kk, nn, tt⟩ w W' := hW'
                 obtain ⟨g0, g1, g2, g3, -, g4, -, -⟩ := hW2
                 go_simp
                 first
                   | done
                   | rfl
                   | (go_at_call 31; refine (HMk.out W' (CA_b hW')).mono ?_; rintro e w'' ⟨rfl, hb⟩; exact ⟨rfl, CA_call hb hW'⟩)
                   | (go_at_call 21; refine (HCk.out W' (CA_b hW')).mono ?_; rintro e w'' ⟨rfl, hb⟩; exact ⟨rfl, CA_call hb hW'⟩)
               go_big_quiet_on
               try simp only [Act.put, List.setIfInBounds_toArray, List.set_cons_zero, List.set_cons_succ]))
          refine wpQuiet_nil ?_
          intro w2 hS2'
          have hS2 : CA wr.heap.size b off ⟨s, kk, nn, tt⟩ ⟨s, kk, nn, tt⟩ w w2 := hS2'
          have HBB : Hid (Below w.heap.size w _) := CA_b hS2
          clear hS hS2 hS2'
          go_wp2
          go_roundw
          case rel => exact ⟨rfl, 0 + 1, by omega, by simp, HO2.out (by trivial), HBB.out⟩
          case measure => simp [intOf]; omega
      | succ j =>
        have hj : j < l.length := by omega
        obtain ⟨cj0, -⟩ := hc j hj
        have hS : CA wr.heap.size b (off + j * 4) l[j + 1] l[j] w (wr.alloc (.cells #[.string l[j + 1].n, .int .i64 l[j + 1].k, .int .i64 l[j + 1].v, .string l[j + 1].s] 54)) :=
          CA_new hB hlt cj0
        have HCk : Hid (∀ w', Below w.heap.size w w' → Calls Tryz.prog 21 #[.string l[j].n, .string l[j + 1].n] w' fun e w'' => e = .returned (.int .i64 (cmpL l[j].n.data.toList l[j + 1].n.data.toList)) ∧ Below w'.heap.size w' w'') := fun w' h => HC.out j (j + 1) hj hlk w' (HT.out w' h)
        have hok : okA l (j + 1) hlk ↔ mayA l[j + 1] = true ∧ cmpL l[j].n.data.toList l[j + 1].n.data.toList < 0 := ⟨fun h => ⟨h.1, h.2 j rfl⟩, fun h => ⟨h.1, fun i e => by cases e; exact h.2⟩⟩
        have HO2 : Hid (mayA l[j + 1] = true → cmpL l[j].n.data.toList l[j + 1].n.data.toList < 0 → ∀ (i : Nat) (h : i < l.length), i < j + 1 + 1 → okA l i h) := fun hm hm2 i h hi => by
          by_cases e : i = j + 1
          · subst e; exact hok.2 ⟨hm, hm2⟩
          · exact HO.out i h (by omega)
        have HNo : Hid (mayA l[j + 1] = false ∨ ¬ cmpL l[j].n.data.toList l[j + 1].n.data.toList < 0 → chkA l = false) := fun hm => chkA_no (k := j + 1) hlk fun h => by
          rcases hm with hm | hm
          · rw [(hok.1 h).1] at hm; cases hm
          · exact hm (hok.1 h).2
        generalize mayA l[j + 1] = r at *
        generalize cmpL l[j].n.data.toList l[j + 1].n.data.toList = c at *
        generalize l[j + 1]'hlk = x at *
        generalize l[j]'hj = y at *
        obtain ⟨s, kk, nn, tt⟩ := x
        obtain ⟨s', kk', nn', tt'⟩ := y
        clear hok hc HO hAl
        have q1 : IntKind.i64.wrap (j : Int) = (j : Int) := by rw [IntKind.wrap_i64]; omega
        have q2 : (0 : Int) ≤ (j : Int) := by omega
        have q3 : (j : Int) < (l.length : Int) := by omega
        have q4 : (j : Int) + 1 - 1 = (j : Int) := by omega
        have q5 : decide ((0 : Int) < (j : Int) + 1) = true := decide_eq_true (by omega)
        cases r with
        | false =>
          go_wp2_with fail
          generalize wr.alloc (.cells #[.string s, .int .i64 kk, .int .i64 nn, .string tt] 54) = W at *
          refine wp_region_quiet (C := fun w' => CA wr.heap.size b (off + j * 4) ⟨s, kk, nn, tt⟩ ⟨s', kk', nn', tt'⟩ w w') (by kernel_rfl) (by kernel_rfl) (CA_drew hS) ?_
          dsimp only
          repeat (first
            | go_big_quiet_skip
            | (go_big_quiet_want
               apply Exists.intro
               refine ⟨fun W' hW' => ?_, ?_⟩
               · have hW2 : CA wr.heap.size b (off + j * 4) ⟨s, kk, nn, tt⟩ ⟨s', kk', nn', tt'⟩ w W' := hW'
                 obtain ⟨g0, g1, g2, g3, -, g4, -, -⟩ := hW2
                 go_simp
                 first
                   | done
                   | rfl
                   | (go_at_call 31; refine (HMk.out W' (CA_b hW')).mono ?_; rintro e w'' ⟨rfl, hb⟩; exact ⟨rfl, CA_call hb hW'⟩)
                   | (go_at_call 21; refine (HCk.out W' (CA_b hW')).mono ?_; rintro e w'' ⟨rfl, hb⟩; exact ⟨rfl, CA_call hb hW'⟩)
               go_big_quiet_on
               try simp only [Act.put, List.setIfInBounds_toArray, List.set_cons_zero, List.set_cons_succ]))
          refine wpQuiet_nil ?_
          intro w2 hS2'
          have hS2 : CA wr.heap.size b (off + j * 4) ⟨s, kk, nn, tt⟩ ⟨s', kk', nn', tt'⟩ w w2 := hS2'
          have HBB : Hid (Below w.heap.size w _) := CA_b hS2
          clear hS hS2 hS2'
          go_wp2
          go_ret
          exact ⟨by rw [HNo.out (.inl (by trivial))]; rfl, HBB.out⟩
        | true =>
          by_cases hc0 : c < 0
          · have q6 : decide ((0 : Int) ≤ c) = false := by simp; omega
            go_wp2_with fail
            generalize wr.alloc (.cells #[.string s, .int .i64 kk, .int .i64 nn, .string tt] 54) = W at *
            refine wp_region_quiet (C := fun w' => CA wr.heap.size b (off + j * 4) ⟨s, kk, nn, tt⟩ ⟨s', kk', nn', tt'⟩ w w') (by kernel_rfl) (by kernel_rfl) (CA_drew hS) ?_
            dsimp only
            repeat (first
              | go_big_quiet_skip
              | (go_big_quiet_want
                 apply Exists.intro
                 refine ⟨fun W' hW' => ?_, ?_⟩
                 · have hW2 : CA wr.heap.size b (off + j * 4) ⟨s, kk, nn, tt⟩ ⟨s', kk', nn', tt'⟩ w W' := hW'
                   obtain ⟨g0, g1, g2, g3, -, g4, -, -⟩ := hW2
                   go_simp
                   first
                     | done
                     | rfl
                     | (go_at_call 31; refine (HMk.out W' (CA_b hW')).mono ?_; rintro e w'' ⟨rfl, hb⟩; exact ⟨rfl, CA_call hb hW'⟩)
                     | (go_at_call 21; refine (HCk.out W' (CA_b hW')).mono ?_; rintro e w'' ⟨rfl, hb⟩; exact ⟨rfl, CA_call hb hW'⟩)
                 go_big_quiet_on
                 try simp only [Act.put, List.setIfInBounds_toArray, List.set_cons_zero, List.set_cons_succ]))
            refine wpQuiet_nil ?_
            intro w2 hS2'
            have hS2 : CA wr.heap.size b (off + j * 4) ⟨s, kk, nn, tt⟩ ⟨s', kk', nn', tt'⟩ w w2 := hS2'
            have HBB : Hid (Below w.heap.size w _) := CA_b hS2
            clear hS hS2 hS2'
            go_wp2
            go_roundw
            case rel => exact ⟨rfl, j + 1 + 1, by omega, by simp, HO2.out (by trivial) hc0, HBB.out⟩
            case measure => simp [intOf]; omega
          · have q6 : decide ((0 : Int) ≤ c) = true := by simp; omega
            go_wp2_with fail
            generalize wr.alloc (.cells #[.string s, .int .i64 kk, .int .i64 nn, .string tt] 54) = W at *
            refine wp_region_quiet (C := fun w' => CA wr.heap.size b (off + j * 4) ⟨s, kk, nn, tt⟩ ⟨s', kk', nn', tt'⟩ w w') (by kernel_rfl) (by kernel_rfl) (CA_drew hS) ?_
            dsimp only
            repeat (first
              | go_big_quiet_skip
              | (go_big_quiet_want
                 apply Exists.intro
                 refine ⟨fun W' hW' => ?_, ?_⟩
                 · have hW2 : CA wr.heap.size b (off + j * 4) ⟨s, kk, nn, tt⟩ ⟨s', kk', nn', tt'⟩ w W' := hW'
                   obtain ⟨g0, g1, g2, g3, -, g4, -, -⟩ := hW2
                   go_simp
                   first
                     | done
                     | rfl
                     | (go_at_call 31; refine (HMk.out W' (CA_b hW')).mono ?_; rintro e w'' ⟨rfl, hb⟩; exact ⟨rfl, CA_call hb hW'⟩)
                     | (go_at_call 21; refine (HCk.out W' (CA_b hW')).mono ?_; rintro e w'' ⟨rfl, hb⟩; exact ⟨rfl, CA_call hb hW'⟩)
                 go_big_quiet_on
                 try simp only [Act.put, List.setIfInBounds_toArray, List.set_cons_zero, List.set_cons_succ]))
            refine wpQuiet_nil ?_
            intro w2 hS2'
            have hS2 : CA wr.heap.size b (off + j * 4) ⟨s, kk, nn, tt⟩ ⟨s', kk', nn', tt'⟩ w w2 := hS2'
            have HBB : Hid (Below w.heap.size w _) := CA_b hS2
            clear hS hS2 hS2'
            go_wp2
            go_ret
            exact ⟨by rw [HNo.out (.inr hc0)]; rfl, HBB.out⟩
    · have hk' : k = l.length := by omega
      subst hk'
      have dk : decide ((l.length : Int) < l.length) = false := by simp
      have hyes : chkA l = true := by unfold chkA; rw [decide_eq_true h24, decide_eq_true (fun k h => HO.out k h h)]; rfl
      clear HO
      have HBB : Hid (Below w.heap.size w wr) := hB
      clear hB
      go_wp2
      go_ret
      exact ⟨by rw [hyes]; rfl, HBB.out⟩
end Go.Proofs.YtjamkfkbajhefaaGreatDoor
