/- schema.Check: its walk. -/
import Derived.Test.YthdbnlpbidkojaaGreatDoorZk1
import Derived.Deep.RegionHeld3
import Derived.BigQuiet
import Derived.Laws.ResultCell
import Derived.Lib.SplitLaws
namespace Go.Proofs.YthdbnlpbidkojaaGreatDoor
open Go.RowKit

def fCells (l : List Fd) : List Value := l.flatMap enF
theorem fCells_len (l : List Fd) : (fCells l).length = l.length * 3 := by
  induction l with
  | nil => rfl
  | cons d D ih => rw [fCells, List.flatMap_cons, List.length_append, List.length_cons]; rw [fCells] at ih; rw [ih]; show 3 + _ = _; omega
theorem fCells_get : ∀ (l : List Fd) (k : Nat) (h : k < l.length) (i : Nat), i < 3 → (fCells l)[k * 3 + i]? = (enF l[k])[i]?
  | [], k, h, _, _ => absurd h (by simp)
  | d :: D, 0, _, i, hi => by
    rw [fCells, List.flatMap_cons, Nat.zero_mul, Nat.zero_add, List.getElem?_append_left (by show i < 3; exact hi)]
    rfl
  | d :: D, k + 1, h, i, hi => by
    have z : (enF d).length = 3 := rfl
    rw [fCells, List.flatMap_cons, List.getElem?_append_right (by omega), show (k + 1) * 3 + i - (enF d).length = k * 3 + i by omega]
    have := fCells_get D k (by simpa using h) i hi
    rw [fCells] at this
    rw [this]
    rfl
theorem f_at {w : World} {a : Option Addr} {cap : Nat} {l : List Fd} (h : IsRow w 3 (.slice a l.length cap) l.length (fCells l)) (h0 : 0 < l.length) :
    ∃ b off, a = some ⟨b, off, none⟩ ∧ b < w.heap.size ∧ l.length ≤ cap ∧ ∀ (k : Nat) (hk : k < l.length), w.cell? ⟨b, off + k * 3, none⟩ = some (.string l[k].n) ∧ w.cell? ⟨b, off + k * 3 + 1, none⟩ = some (.int .i64 l[k].k) ∧ w.cell? ⟨b, off + k * 3 + 2, none⟩ = some (.bool l[k].m) := by
  obtain ⟨b, off, cap', hv, hlt, q1, q2, hc⟩ := h.open (by omega)
  simp only [Value.slice.injEq] at hv
  refine ⟨b, off, hv.1, hlt, by omega, fun k hk => ⟨?_, ?_, ?_⟩⟩
  · have := hc (k * 3) (.string l[k].n) (by have := fCells_get l k hk 0 (by omega); rw [Nat.add_zero] at this; rw [this]; rfl)
    simpa using this
  · have := hc (k * 3 + 1) (.int .i64 l[k].k) (by rw [fCells_get l k hk 1 (by omega)]; rfl)
    rwa [← Nat.add_assoc] at this
  · have := hc (k * 3 + 2) (.bool l[k].m) (by rw [fCells_get l k hk 2 (by omega)]; rfl)
    rwa [← Nat.add_assoc] at this
/-- May the field at a place be there? -/
def okF (l : List Fd) (k : Nat) (h : k < l.length) : Prop := mayF l[k] = true ∧ ∀ (j : Nat) (e : j + 1 = k), cmpL (l[j]'(by omega)).n.data.toList l[k].n.data.toList < 0
instance (l : List Fd) (k : Nat) (h : k < l.length) : Decidable (okF l k h) := by
  unfold okF
  cases k with
  | zero => exact decidable_of_iff (mayF l[0] = true) ⟨fun h => ⟨h, fun j e => absurd e (by omega)⟩, fun h => h.1⟩
  | succ k => exact decidable_of_iff (mayF l[k + 1] = true ∧ cmpL (l[k]'(by omega)).n.data.toList l[k + 1].n.data.toList < 0) ⟨fun h => ⟨h.1, fun j e => by cases e; exact h.2⟩, fun h => ⟨h.1, h.2 k rfl⟩⟩
def chkF (l : List Fd) : Bool := decide (l.length ≤ 24) && decide (∀ (k : Nat) (h : k < l.length), okF l k h)
/-- Names are not too long to be looked at. -/
def NmF (l : List Fd) : Prop := ∀ x ∈ l, x.n.size ≤ 1000000
abbrev CK (nb b o : Nat) (x y : Fd) (w0 w : World) : Prop := w.cell? ⟨nb, 0, none⟩ = some (.string x.n) ∧ w.cell? ⟨nb, 1, none⟩ = some (.int .i64 x.k) ∧ w.cell? ⟨nb, 2, none⟩ = some (.bool x.m) ∧ nb < w.heap.size ∧
  w.cell? ⟨b, o, none⟩ = some (.string y.n) ∧ w.cell? ⟨b, o + 1, none⟩ = some (.int .i64 y.k) ∧ w.cell? ⟨b, o + 2, none⟩ = some (.bool y.m) ∧ b < w.heap.size ∧ Below w0.heap.size w0 w
theorem CK_drew {nb b o : Nat} {x y : Fd} {w0 W : World} (h : CK nb b o x y w0 W) : CK nb b o x y w0 W.drew := ⟨h.1, h.2.1, h.2.2.1, h.2.2.2.1, h.2.2.2.2.1, h.2.2.2.2.2.1, h.2.2.2.2.2.2.1, h.2.2.2.2.2.2.2.1, h.2.2.2.2.2.2.2.2.drew⟩
theorem CK_call {nb b o : Nat} {x y : Fd} {w0 W w' : World} (hb : Below W.heap.size W w') (h : CK nb b o x y w0 W) : CK nb b o x y w0 w' := by
  obtain ⟨a0, a1, a2, l1, c0, c1, c2, l2, B⟩ := h
  exact ⟨(hb.cell (p := ⟨nb, 0, none⟩) l1).trans a0, (hb.cell (p := ⟨nb, 1, none⟩) l1).trans a1, (hb.cell (p := ⟨nb, 2, none⟩) l1).trans a2, Nat.lt_of_lt_of_le l1 hb.size, (hb.cell (p := ⟨b, o, none⟩) l2).trans c0, (hb.cell (p := ⟨b, o + 1, none⟩) l2).trans c1, (hb.cell (p := ⟨b, o + 2, none⟩) l2).trans c2, Nat.lt_of_lt_of_le l2 hb.size, B.trans (hb.mono B.size)⟩
theorem CK_b {nb b o : Nat} {x y : Fd} {w0 W : World} (h : CK nb b o x y w0 W) : Below w0.heap.size w0 W := h.2.2.2.2.2.2.2.2
theorem CK_new {b o : Nat} {x y : Fd} {w0 W : World} {t : TypeId} (hB : Below w0.heap.size w0 W) (hlt : b < W.heap.size) (c0 : W.cell? ⟨b, o, none⟩ = some (.string y.n)) (c1 : W.cell? ⟨b, o + 1, none⟩ = some (.int .i64 y.k)) (c2 : W.cell? ⟨b, o + 2, none⟩ = some (.bool y.m)) :
    CK W.heap.size b o x y w0 (W.alloc (.cells #[.string x.n, .int .i64 x.k, .bool x.m] t)) := by
  have hb := al_b W (.cells #[.string x.n, .int .i64 x.k, .bool x.m] t)
  exact ⟨by simp, by simp, by simp, by simp, (hb.cell (p := ⟨b, o, none⟩) hlt).trans c0, (hb.cell (p := ⟨b, o + 1, none⟩) hlt).trans c1, (hb.cell (p := ⟨b, o + 2, none⟩) hlt).trans c2, Nat.lt_of_lt_of_le hlt hb.size, hB.trans (hb.mono hB.size)⟩
theorem chkF_no {l : List Fd} {k : Nat} (h : k < l.length) (hn : ¬ okF l k h) : chkF l = false := by
  unfold chkF
  rw [Bool.and_eq_false_iff]
  right
  rw [decide_eq_false_iff_not]
  exact fun hh => hn (hh k h)
set_option maxRecDepth 100000 in
set_option maxHeartbeats 2000000 in
theorem checkF_any (v : Value) (l : List Fd) (w : World) (hr : IsRow w 3 v l.length (fCells l)) (hl : l.length ≤ 1000000) (hn : NmF l) (hT : UT w) (hM : ML w) :
    Calls Tryz.prog 48 #[v] w fun e w' => e = .returned (.bool (chkF l)) ∧ Below w.heap.size w w' := by
  obtain ⟨a0, cap0, rfl⟩ := hr.form
  have HR : Hid (IsRow w 3 (.slice a0 l.length cap0) l.length (fCells l)) := hr
  clear hr
  by_cases h24 : l.length ≤ 24
  rotate_left
  · have e0 : chkF l = false := by unfold chkF; rw [decide_eq_false h24, Bool.false_and]
    have d24 : decide ((24 : Int) < (l.length : Int)) = true := by simp; omega
    rw [e0]
    go_enter Tryz.func48, Tryz.ntmps48
    go_wp2
    go_ret
    exact ⟨rfl, Below.refl _ _⟩
  have d24 : decide ((24 : Int) < (l.length : Int)) = false := by simp; omega
  have HK : Hid (∀ (k : Nat) (h : k < l.length) (w' : World), ML w' → Calls Tryz.prog 76 #[fV l[k]] w' fun e w'' => e = .returned (.bool (mayF l[k])) ∧ Below w'.heap.size w' w'') := fun k h w' h' => mayBe_any _ w' (hn _ (List.getElem_mem h)) h'
  have HC : Hid (∀ (j k : Nat) (h1 : j < l.length) (h : k < l.length) (w' : World), UT w' → Calls Tryz.prog 77 #[fV l[j], fV l[k]] w' fun e w'' => e = .returned (.int .i64 (cmpL l[j].n.data.toList l[k].n.data.toList)) ∧ Below w'.heap.size w' w'') := fun j k h1 h w' h' => byName_any _ _ w' (hn _ (List.getElem_mem h1)) (hn _ (List.getElem_mem h)) h'
  have HT : Hid (∀ w', Below w.heap.size w w' → UT w') := fun w' h => Utf8Tabs_below hT h
  have HM : Hid (∀ w', Below w.heap.size w w' → ML w') := fun w' h => ML_below hM h
  clear hT hM hn
  go_enter Tryz.func48, Tryz.ntmps48
  go_wp2_with fail
  go_loopw [2, 10] (fun r i wr => r = .bool false ∧ ∃ k : Nat, k ≤ l.length ∧ i = .int .i64 (k : Int) ∧ Hid (∀ (j : Nat) (h : j < l.length), j < k → okF l j h) ∧ Below w.heap.size w wr) (fun _ i _ => l.length - (intOf i).toNat)
  case atStart => exact ⟨rfl, 0, Nat.zero_le _, rfl, fun j h hj => absurd hj (Nat.not_lt_zero _), Below.refl _ _⟩
  case round =>
    obtain ⟨rfl, k, hk, rfl, HO, hB⟩ := hrel
    by_cases hlk : k < l.length
    · have dk : decide ((k : Int) < l.length) = true := by simp; omega
      obtain ⟨b, off, rfl, hlt, hcap, hc⟩ := f_at (HR.out.below hB) (by omega)
      obtain ⟨ck0, ck1, ck2⟩ := hc k hlk
      have hAl := al_b wr (.cells #[.string l[k].n, .int .i64 l[k].k, .bool l[k].m] 95)
      have HMk : Hid (∀ w', Below w.heap.size w w' → Calls Tryz.prog 76 #[fV l[k]] w' fun e w'' => e = .returned (.bool (mayF l[k])) ∧ Below w'.heap.size w' w'') := fun w' h => HK.out k hlk w' (HM.out w' h)
      cases k with
      | zero =>
        rw [Nat.zero_mul, Nat.add_zero] at ck0 ck1 ck2
        have hS : CK wr.heap.size b off l[0] l[0] w (wr.alloc (.cells #[.string l[0].n, .int .i64 l[0].k, .bool l[0].m] 95)) :=
          CK_new hB hlt ck0 ck1 ck2
        have hok : okF l 0 hlk ↔ mayF l[0] = true := ⟨fun h => h.1, fun h => ⟨h, fun j e => absurd e (by omega)⟩⟩
        have HO2 : Hid (mayF l[0] = true → ∀ (j : Nat) (h : j < l.length), j < 0 + 1 → okF l j h) := fun hm j h hj => by
          obtain rfl : j = 0 := by omega
          exact hok.2 hm
        have HNo : Hid (mayF l[0] = false → chkF l = false) := fun hm => chkF_no (k := 0) hlk fun h => by rw [hok.1 h] at hm; cases hm
        generalize mayF l[0] = r at *
        generalize l[0]'hlk = x at *
        obtain ⟨s, kk, m⟩ := x
        clear hok hc HO hAl
        have dk0 : decide ((0 : Int) < (l.length : Int)) = true := decide_eq_true (by omega)
        cases r with
        | false =>
          go_wp2_with fail
          generalize wr.alloc (.cells #[.string s, .int .i64 kk, .bool m] 95) = W at *
          refine wp_region_quiet (C := fun w' => CK wr.heap.size b off ⟨s, kk, m⟩ ⟨s, kk, m⟩ w w') (by kernel_rfl) (by kernel_rfl) (CK_drew hS) ?_
          dsimp only
          repeat (first
            | go_big_quiet_skip
            | (go_big_quiet_want
               apply Exists.intro
               refine ⟨fun W' hW' => ?_, ?_⟩
               · have hW2 : CK wr.heap.size b off ⟨s, kk, m⟩ ⟨s, kk, m⟩ w W' := hW'
                 obtain ⟨g0, g1, g2, -, g3, g4, g5, -, -⟩ := hW2
                 go_simp
                 first
                   | done
                   | rfl
                   | (go_at_call 76; refine (HMk.out W' (CK_b hW')).mono ?_; rintro e w'' ⟨rfl, hb⟩; exact ⟨rfl, CK_call hb hW'⟩)
                   | (go_at_call 77; refine (HCk.out W' (CK_b hW')).mono ?_; rintro e w'' ⟨rfl, hb⟩; exact ⟨rfl, CK_call hb hW'⟩)
               go_big_quiet_on
               try simp only [Act.put, List.setIfInBounds_toArray, List.set_cons_zero, List.set_cons_succ]))
          refine wpQuiet_nil ?_
          intro w2 hS2'
          have hS2 : CK wr.heap.size b off ⟨s, kk, m⟩ ⟨s, kk, m⟩ w w2 := hS2'
          have HBB : Hid (Below w.heap.size w _) := CK_b hS2
          clear hS hS2 hS2'
          go_wp2
          go_ret
          exact ⟨by rw [HNo.out (by trivial)]; rfl, HBB.out⟩
        | true =>
          go_wp2_with fail
          generalize wr.alloc (.cells #[.string s, .int .i64 kk, .bool m] 95) = W at *
          refine wp_region_quiet (C := fun w' => CK wr.heap.size b off ⟨s, kk, m⟩ ⟨s, kk, m⟩ w w') (by kernel_rfl) (by kernel_rfl) (CK_drew hS) ?_
          dsimp only
          repeat (first
            | go_big_quiet_skip
            | (go_big_quiet_want
               apply Exists.intro
               refine ⟨fun W' hW' => ?_, ?_⟩
               · have hW2 : CK wr.heap.size b off ⟨s, kk, m⟩ ⟨s, kk, m⟩ w W' := hW'
                 obtain ⟨g0, g1, g2, -, g3, g4, g5, -, -⟩ := hW2
                 go_simp
                 first
                   | done
                   | rfl
                   | (go_at_call 76; refine (HMk.out W' (CK_b hW')).mono ?_; rintro e w'' ⟨rfl, hb⟩; exact ⟨rfl, CK_call hb hW'⟩)
                   | (go_at_call 77; refine (HCk.out W' (CK_b hW')).mono ?_; rintro e w'' ⟨rfl, hb⟩; exact ⟨rfl, CK_call hb hW'⟩)
               go_big_quiet_on
               try simp only [Act.put, List.setIfInBounds_toArray, List.set_cons_zero, List.set_cons_succ]))
          refine wpQuiet_nil ?_
          intro w2 hS2'
          have hS2 : CK wr.heap.size b off ⟨s, kk, m⟩ ⟨s, kk, m⟩ w w2 := hS2'
          have HBB : Hid (Below w.heap.size w _) := CK_b hS2
          clear hS hS2 hS2'
          go_wp2
          go_roundw
          case rel => exact ⟨rfl, 0 + 1, by omega, by simp, HO2.out (by trivial), HBB.out⟩
          case measure => simp [intOf]; omega
      | succ j =>
        have hj : j < l.length := by omega
        obtain ⟨cj0, cj1, cj2⟩ := hc j hj
        have hS : CK wr.heap.size b (off + j * 3) l[j + 1] l[j] w (wr.alloc (.cells #[.string l[j + 1].n, .int .i64 l[j + 1].k, .bool l[j + 1].m] 95)) :=
          CK_new hB hlt cj0 cj1 cj2
        have HCk : Hid (∀ w', Below w.heap.size w w' → Calls Tryz.prog 77 #[fV l[j], fV l[j + 1]] w' fun e w'' => e = .returned (.int .i64 (cmpL l[j].n.data.toList l[j + 1].n.data.toList)) ∧ Below w'.heap.size w' w'') := fun w' h => HC.out j (j + 1) hj hlk w' (HT.out w' h)
        have hok : okF l (j + 1) hlk ↔ mayF l[j + 1] = true ∧ cmpL l[j].n.data.toList l[j + 1].n.data.toList < 0 := ⟨fun h => ⟨h.1, h.2 j rfl⟩, fun h => ⟨h.1, fun i e => by cases e; exact h.2⟩⟩
        have HO2 : Hid (mayF l[j + 1] = true → cmpL l[j].n.data.toList l[j + 1].n.data.toList < 0 → ∀ (i : Nat) (h : i < l.length), i < j + 1 + 1 → okF l i h) := fun hm hm2 i h hi => by
          by_cases e : i = j + 1
          · subst e; exact hok.2 ⟨hm, hm2⟩
          · exact HO.out i h (by omega)
        have HNo : Hid (mayF l[j + 1] = false ∨ ¬ cmpL l[j].n.data.toList l[j + 1].n.data.toList < 0 → chkF l = false) := fun hm => chkF_no (k := j + 1) hlk fun h => by
          rcases hm with hm | hm
          · rw [(hok.1 h).1] at hm; cases hm
          · exact hm (hok.1 h).2
        generalize mayF l[j + 1] = r at *
        generalize cmpL l[j].n.data.toList l[j + 1].n.data.toList = c at *
        generalize l[j + 1]'hlk = x at *
        generalize l[j]'hj = y at *
        obtain ⟨s, kk, m⟩ := x
        obtain ⟨s', kk', m'⟩ := y
        clear hok hc HO hAl
        have q1 : IntKind.i64.wrap (j : Int) = (j : Int) := by rw [IntKind.wrap_i64]; omega
        have q2 : (0 : Int) ≤ (j : Int) := by omega
        have q3 : (j : Int) < (l.length : Int) := by omega
        have q4 : (j : Int) + 1 - 1 = (j : Int) := by omega
        have q5 : decide ((0 : Int) < (j : Int) + 1) = true := decide_eq_true (by omega)
        cases r with
        | false =>
          go_wp2_with fail
          generalize wr.alloc (.cells #[.string s, .int .i64 kk, .bool m] 95) = W at *
          refine wp_region_quiet (C := fun w' => CK wr.heap.size b (off + j * 3) ⟨s, kk, m⟩ ⟨s', kk', m'⟩ w w') (by kernel_rfl) (by kernel_rfl) (CK_drew hS) ?_
          dsimp only
          repeat (first
            | go_big_quiet_skip
            | (go_big_quiet_want
               apply Exists.intro
               refine ⟨fun W' hW' => ?_, ?_⟩
               · have hW2 : CK wr.heap.size b (off + j * 3) ⟨s, kk, m⟩ ⟨s', kk', m'⟩ w W' := hW'
                 obtain ⟨g0, g1, g2, -, g3, g4, g5, -, -⟩ := hW2
                 go_simp
                 first
                   | done
                   | rfl
                   | (go_at_call 76; refine (HMk.out W' (CK_b hW')).mono ?_; rintro e w'' ⟨rfl, hb⟩; exact ⟨rfl, CK_call hb hW'⟩)
                   | (go_at_call 77; refine (HCk.out W' (CK_b hW')).mono ?_; rintro e w'' ⟨rfl, hb⟩; exact ⟨rfl, CK_call hb hW'⟩)
               go_big_quiet_on
               try simp only [Act.put, List.setIfInBounds_toArray, List.set_cons_zero, List.set_cons_succ]))
          refine wpQuiet_nil ?_
          intro w2 hS2'
          have hS2 : CK wr.heap.size b (off + j * 3) ⟨s, kk, m⟩ ⟨s', kk', m'⟩ w w2 := hS2'
          have HBB : Hid (Below w.heap.size w _) := CK_b hS2
          clear hS hS2 hS2'
          go_wp2
          go_ret
          exact ⟨by rw [HNo.out (.inl (by trivial))]; rfl, HBB.out⟩
        | true =>
          by_cases hc0 : c < 0
          · have q6 : decide ((0 : Int) ≤ c) = false := by simp; omega
            go_wp2_with fail
            generalize wr.alloc (.cells #[.string s, .int .i64 kk, .bool m] 95) = W at *
            refine wp_region_quiet (C := fun w' => CK wr.heap.size b (off + j * 3) ⟨s, kk, m⟩ ⟨s', kk', m'⟩ w w') (by kernel_rfl) (by kernel_rfl) (CK_drew hS) ?_
            dsimp only
            repeat (first
              | go_big_quiet_skip
              | (go_big_quiet_want
                 apply Exists.intro
                 refine ⟨fun W' hW' => ?_, ?_⟩
                 · have hW2 : CK wr.heap.size b (off + j * 3) ⟨s, kk, m⟩ ⟨s', kk', m'⟩ w W' := hW'
                   obtain ⟨g0, g1, g2, -, g3, g4, g5, -, -⟩ := hW2
                   go_simp
                   first
                     | done
                     | rfl
                     | (go_at_call 76; refine (HMk.out W' (CK_b hW')).mono ?_; rintro e w'' ⟨rfl, hb⟩; exact ⟨rfl, CK_call hb hW'⟩)
                     | (go_at_call 77; refine (HCk.out W' (CK_b hW')).mono ?_; rintro e w'' ⟨rfl, hb⟩; exact ⟨rfl, CK_call hb hW'⟩)
                 go_big_quiet_on
                 try simp only [Act.put, List.setIfInBounds_toArray, List.set_cons_zero, List.set_cons_succ]))
            refine wpQuiet_nil ?_
            intro w2 hS2'
            have hS2 : CK wr.heap.size b (off + j * 3) ⟨s, kk, m⟩ ⟨s', kk', m'⟩ w w2 := hS2'
            have HBB : Hid (Below w.heap.size w _) := CK_b hS2
            clear hS hS2 hS2'
            go_wp2
            go_roundw
            case rel => exact ⟨rfl, j + 1 + 1, by omega, by simp, HO2.out (by trivial) hc0, HBB.out⟩
            case measure => simp [intOf]; omega
          · have q6 : decide ((0 : Int) ≤ c) = true := by simp; omega
            go_wp2_with fail
            generalize wr.alloc (.cells #[.string s, .int .i64 kk, .bool m] 95) = W at *
            refine wp_region_quiet (C := fun w' => CK wr.heap.size b (off + j * 3) ⟨s, kk, m⟩ ⟨s', kk', m'⟩ w w') (by kernel_rfl) (by kernel_rfl) (CK_drew hS) ?_
            dsimp only
            repeat (first
              | go_big_quiet_skip
              | (go_big_quiet_want
                 apply Exists.intro
                 refine ⟨fun W' hW' => ?_, ?_⟩
                 · have hW2 : CK wr.heap.size b (off + j * 3) ⟨s, kk, m⟩ ⟨s', kk', m'⟩ w W' := hW'
                   obtain ⟨g0, g1, g2, -, g3, g4, g5, -, -⟩ := hW2
                   go_simp
                   first
                     | done
                     | rfl
                     | (go_at_call 76; refine (HMk.out W' (CK_b hW')).mono ?_; rintro e w'' ⟨rfl, hb⟩; exact ⟨rfl, CK_call hb hW'⟩)
                     | (go_at_call 77; refine (HCk.out W' (CK_b hW')).mono ?_; rintro e w'' ⟨rfl, hb⟩; exact ⟨rfl, CK_call hb hW'⟩)
                 go_big_quiet_on
                 try simp only [Act.put, List.setIfInBounds_toArray, List.set_cons_zero, List.set_cons_succ]))
            refine wpQuiet_nil ?_
            intro w2 hS2'
            have hS2 : CK wr.heap.size b (off + j * 3) ⟨s, kk, m⟩ ⟨s', kk', m'⟩ w w2 := hS2'
            have HBB : Hid (Below w.heap.size w _) := CK_b hS2
            clear hS hS2 hS2'
            go_wp2
            go_ret
            exact ⟨by rw [HNo.out (.inr hc0)]; rfl, HBB.out⟩
    · have hk' : k = l.length := by omega
      subst hk'
      have dk : decide ((l.length : Int) < l.length) = false := by simp
      have hyes : chkF l = true := by unfold chkF; rw [decide_eq_true h24, decide_eq_true (fun k h => HO.out k h h)]; rfl
      clear HO
      have HBB : Hid (Below w.heap.size w wr) := hB
      clear hB
      go_wp2
      go_ret
      exact ⟨by rw [hyes]; rfl, HBB.out⟩
end Go.Proofs.YthdbnlpbidkojaaGreatDoor
/- schema.attrMayBe, schema.Attrs: walks. -/
namespace Go.Proofs.YthdbnlpbidkojaaGreatDoor
open Go.RowKit

def mayA (x : At) : Bool := oneP x.n && chkV x.k x.v x.s
/-- May the attribute at a place be there? -/
def okA (l : List At) (k : Nat) (h : k < l.length) : Prop := mayA l[k] = true ∧ ∀ (j : Nat) (e : j + 1 = k), cmpL (l[j]'(by omega)).n.data.toList l[k].n.data.toList < 0
instance (l : List At) (k : Nat) (h : k < l.length) : Decidable (okA l k h) := by
  unfold okA
  cases k with
  | zero => exact decidable_of_iff (mayA l[0] = true) ⟨fun h => ⟨h, fun j e => absurd e (by omega)⟩, fun h => h.1⟩
  | succ k => exact decidable_of_iff (mayA l[k + 1] = true ∧ cmpL (l[k]'(by omega)).n.data.toList l[k + 1].n.data.toList < 0) ⟨fun h => ⟨h.1, fun j e => by cases e; exact h.2⟩, fun h => ⟨h.1, h.2 k rfl⟩⟩
end Go.Proofs.YthdbnlpbidkojaaGreatDoor
/- schema.Find: its walk. -/
namespace Go.Proofs.YthdbnlpbidkojaaGreatDoor
open Go.RowKit

theorem new_at (w : World) (o : Obj) : (w.alloc o).heap[w.heap.size]? = some o := by show (w.heap.push o)[w.heap.size]? = some o; simp
theorem z3 {w : World} {b : Nat} {x y z : Value} {t : TypeId} (h : w.heap[b]? = some (.cells #[x, y, z] t)) :
    w.cell? ⟨b, 0, none⟩ = some x ∧ w.cell? ⟨b, 1, none⟩ = some y ∧ w.cell? ⟨b, 2, none⟩ = some z ∧ w.frozen? ⟨b, 0, none⟩ = false ∧ w.frozen? ⟨b, 1, none⟩ = false ∧ w.frozen? ⟨b, 2, none⟩ = false :=
  ⟨by rw [Lib.cell_of_heap h]; rfl, by rw [Lib.cell_of_heap h]; rfl, by rw [Lib.cell_of_heap h]; rfl, by simp [World.frozen?, h], by simp [World.frozen?, h], by simp [World.frozen?, h]⟩
end Go.Proofs.YthdbnlpbidkojaaGreatDoor
/- schema.Get: its walk. -/
namespace Go.Proofs.YthdbnlpbidkojaaGreatDoor
open Go.RowKit

theorem z4 {w : World} {b : Nat} {x y z u : Value} {t : TypeId} (h : w.heap[b]? = some (.cells #[x, y, z, u] t)) :
    w.cell? ⟨b, 0, none⟩ = some x ∧ w.cell? ⟨b, 1, none⟩ = some y ∧ w.cell? ⟨b, 2, none⟩ = some z ∧ w.cell? ⟨b, 3, none⟩ = some u :=
  ⟨by rw [Lib.cell_of_heap h]; rfl, by rw [Lib.cell_of_heap h]; rfl, by rw [Lib.cell_of_heap h]; rfl, by rw [Lib.cell_of_heap h]; rfl⟩
end Go.Proofs.YthdbnlpbidkojaaGreatDoor
/- schema.isIn, schema.Within: walks. -/
namespace Go.Proofs.YthdbnlpbidkojaaGreatDoor
open Go.RowKit

/-- The same field, but for how its name is written. -/
def sameF (x y : Fd) : Bool := decide (x.k = y.k) && (decide (x.m = y.m) && sameL x.n.data.toList y.n.data.toList)
def isInL (x : Fd) (l : List Fd) : Bool := l.any (sameF x)
def withinL (a b : List Fd) : Bool := a.all fun x => isInL x b
theorem isIn_yes {x : Fd} {l : List Fd} {k : Nat} (h : k < l.length) (hk : sameF x l[k] = true) : isInL x l = true := List.any_eq_true.2 ⟨_, List.getElem_mem h, hk⟩
theorem isIn_no {x : Fd} {l : List Fd} (h : ∀ (k : Nat) (hk : k < l.length), sameF x l[k] = false) : isInL x l = false := by
  unfold isInL
  rw [List.any_eq_false]
  intro y hy
  obtain ⟨j, hj, rfl⟩ := List.getElem_of_mem hy
  rw [h j hj]
  exact Bool.false_ne_true
theorem within_no {a b : List Fd} {k : Nat} (h : k < a.length) (hk : isInL a[k] b = false) : withinL a b = false := by
  unfold withinL
  rw [List.all_eq_false]
  exact ⟨_, List.getElem_mem h, by rw [hk]; exact Bool.false_ne_true⟩
theorem within_yes {a b : List Fd} (h : ∀ (k : Nat) (hk : k < a.length), isInL a[k] b = true) : withinL a b = true := by
  unfold withinL
  rw [List.all_eq_true]
  intro y hy
  obtain ⟨j, hj, rfl⟩ := List.getElem_of_mem hy
  exact h j hj
set_option maxRecDepth 100000 in
set_option maxHeartbeats 2000000 in
theorem isIn_any (x : Fd) (v : Value) (l : List Fd) (w : World) (hr : IsRow w 3 v l.length (fCells l)) (hl : l.length ≤ 1000000) (hx : x.n.size ≤ 1000000) (hn : NmF l) (hT : UT w) :
    Calls Tryz.prog 78 #[fV x, v] w fun e w' => e = .returned (.bool (isInL x l)) ∧ Below w.heap.size w w' := by
  obtain ⟨a0, cap0, rfl⟩ := hr.form
  have HR : Hid (IsRow w 3 (.slice a0 l.length cap0) l.length (fCells l)) := hr
  have HS : Hid (∀ (k : Nat) (h : k < l.length) (w' : World), Below w.heap.size w w' → Calls Tryz.prog 103 #[.string x.n, .string l[k].n] w' fun e w'' => e = .returned (.bool (sameL x.n.data.toList l[k].n.data.toList)) ∧ Below w'.heap.size w' w'') := fun k h w' h' => same_any _ _ w' hx (hn _ (List.getElem_mem h)) (Utf8Tabs_below hT h')
  clear hr hn hT hx
  obtain ⟨n, kk, m⟩ := x
  have hA := al_b w (.cells #[.string n, .int .i64 kk, .bool m] 95)
  go_enter Tryz.func78, Tryz.ntmps78
  go_wp2_with fail
  go_loopw [4, 9] (fun r i wr => r = .bool false ∧ ∃ k : Nat, k ≤ l.length ∧ i = .int .i64 (k : Int) ∧ Hid (∀ (j : Nat) (h : j < l.length), j < k → sameF ⟨n, kk, m⟩ l[j] = false) ∧ wr.heap[w.heap.size]? = some (.cells #[.string n, .int .i64 kk, .bool m] 95) ∧ Below w.heap.size w wr) (fun _ i _ => l.length - (intOf i).toNat)
  case atStart => exact ⟨rfl, 0, Nat.zero_le _, rfl, fun j h hj => absurd hj (Nat.not_lt_zero _), new_at _ _, hA⟩
  case round =>
    obtain ⟨rfl, k, hk, rfl, HO, hZ, hB⟩ := hrel
    clear hA
    by_cases hlk : k < l.length
    · have dk : decide ((k : Int) < l.length) = true := by simp; omega
      obtain ⟨b, off, rfl, hlt, hcap, hc⟩ := f_at (HR.out.below hB) (by omega)
      obtain ⟨ck0, ck1, ck2⟩ := hc k hlk
      have hAl := al_b wr (.cells #[.string l[k].n, .int .i64 l[k].k, .bool l[k].m] 95)
      have hzl : w.heap.size < wr.heap.size := (Array.getElem?_eq_some_iff.1 hZ).1
      have hB1 := hB.trans (hAl.mono hB.size)
      have hZ1 := (hAl.block _ hzl).trans hZ
      obtain ⟨z0, z1, z2, -, -, -⟩ := z3 hZ1
      have HSk : Hid (Calls Tryz.prog 103 #[.string n, .string l[k].n] (wr.alloc (.cells #[.string l[k].n, .int .i64 l[k].k, .bool l[k].m] 95)) fun e w'' => e = .returned (.bool (sameL n.data.toList l[k].n.data.toList)) ∧ Below (wr.alloc (.cells #[.string l[k].n, .int .i64 l[k].k, .bool l[k].m] 95)).heap.size (wr.alloc (.cells #[.string l[k].n, .int .i64 l[k].k, .bool l[k].m] 95)) w'') := HS.out k hlk _ hB1
      have HN : Hid (∀ w', Below (wr.alloc (.cells #[.string l[k].n, .int .i64 l[k].k, .bool l[k].m] 95)).heap.size (wr.alloc (.cells #[.string l[k].n, .int .i64 l[k].k, .bool l[k].m] 95)) w' → w'.heap[w.heap.size]? = some (.cells #[.string n, .int .i64 kk, .bool m] 95) ∧ Below w.heap.size w w') := fun w' h =>
        ⟨(h.block _ (Nat.lt_of_lt_of_le hzl hAl.size)).trans hZ1, hB1.trans (h.mono hB1.size)⟩
      have HNz := HN.out _ (Below.refl _ _)
      have HO2 : Hid (sameF ⟨n, kk, m⟩ l[k] = false → ∀ (j : Nat) (h : j < l.length), j < k + 1 → sameF ⟨n, kk, m⟩ l[j] = false) := fun hs j h hj => by
        by_cases e : j = k
        · subst e; exact hs
        · exact HO.out j h (by omega)
      have HY : Hid (sameF ⟨n, kk, m⟩ l[k] = true → isInL ⟨n, kk, m⟩ l = true) := fun hs => isIn_yes hlk hs
      have HD : Hid (sameF ⟨n, kk, m⟩ l[k] = (decide (kk = l[k].k) && (decide (m = l[k].m) && sameL n.data.toList l[k].n.data.toList))) := rfl
      generalize sameL n.data.toList l[k].n.data.toList = r at *
      generalize sameF ⟨n, kk, m⟩ l[k] = q at *
      generalize l[k]'hlk = y at *
      obtain ⟨n', kk', m'⟩ := y
      have HDD : Hid (q = (decide (kk = kk') && (decide (m = m') && r))) := HD.out
      clear hc HO hAl hB1 HD hZ1
      by_cases hkk : kk = kk'
      · have hkd := decide_eq_true hkk
        subst hkk
        by_cases hm : m = m'
        · have hq : q = r := by rw [HDD.out, hkd, decide_eq_true hm]; rfl
          subst hm
          clear HDD HNz hkd
          cases m with
          | false =>
            cases r with
            | true =>
              go_wp2_with fail
              refine HSk.out.mono ?_
              rintro e w1 ⟨rfl, hb⟩
              have HBB : Hid (Below w.heap.size w w1) := (HN.out w1 hb).2
              clear hb hB
              go_wp2
              go_ret
              exact ⟨by rw [HY.out hq]; rfl, HBB.out⟩
            | false =>
              go_wp2_with fail
              refine HSk.out.mono ?_
              rintro e w1 ⟨rfl, hb⟩
              have HBB : Hid (w1.heap[w.heap.size]? = some (.cells #[.string n, .int .i64 kk, .bool _] 95) ∧ Below w.heap.size w w1) := HN.out w1 hb
              clear hb hB
              go_wp2
              go_roundw
              case rel => exact ⟨rfl, k + 1, by omega, by simp, HO2.out hq, HBB.out.1, HBB.out.2⟩
              case measure => simp [intOf]; omega
          | true =>
            cases r with
            | true =>
              go_wp2_with fail
              refine HSk.out.mono ?_
              rintro e w1 ⟨rfl, hb⟩
              have HBB : Hid (Below w.heap.size w w1) := (HN.out w1 hb).2
              clear hb hB
              go_wp2
              go_ret
              exact ⟨by rw [HY.out hq]; rfl, HBB.out⟩
            | false =>
              go_wp2_with fail
              refine HSk.out.mono ?_
              rintro e w1 ⟨rfl, hb⟩
              have HBB : Hid (w1.heap[w.heap.size]? = some (.cells #[.string n, .int .i64 kk, .bool _] 95) ∧ Below w.heap.size w w1) := HN.out w1 hb
              clear hb hB
              go_wp2
              go_roundw
              case rel => exact ⟨rfl, k + 1, by omega, by simp, HO2.out hq, HBB.out.1, HBB.out.2⟩
              case measure => simp [intOf]; omega
        · have hq : q = false := by rw [HDD.out, decide_eq_false hm]; simp
          clear HDD hB hkd
          cases m with
          | false =>
            cases m' with
            | false => exact absurd rfl hm
            | true =>
              clear hm
              go_wp2
              go_roundw
              case rel => exact ⟨rfl, k + 1, by omega, by simp, HO2.out hq, HNz.1, HNz.2⟩
              case measure => simp [intOf]; omega
          | true =>
            cases m' with
            | true => exact absurd rfl hm
            | false =>
              clear hm
              go_wp2
              go_roundw
              case rel => exact ⟨rfl, k + 1, by omega, by simp, HO2.out hq, HNz.1, HNz.2⟩
              case measure => simp [intOf]; omega
      · have dkk : (kk == kk') = false := by rw [beq_eq_false_iff_ne]; exact hkk
        have hq : q = false := by rw [HDD.out, decide_eq_false hkk]; simp
        clear HDD hB
        go_wp2
        go_roundw
        case rel => exact ⟨rfl, k + 1, by omega, by simp, HO2.out hq, HNz.1, HNz.2⟩
        case measure => simp [intOf]; omega
    · have hk' : k = l.length := by omega
      subst hk'
      have dk : decide ((l.length : Int) < l.length) = false := by simp
      have HY : Hid (isInL ⟨n, kk, m⟩ l = false) := isIn_no (fun j hj => HO.out j hj hj)
      clear HO
      have HBB : Hid (Below w.heap.size w wr) := hB
      clear hB hZ
      go_wp2
      go_ret
      exact ⟨by rw [HY.out]; rfl, HBB.out⟩
set_option maxRecDepth 100000 in
set_option maxHeartbeats 2000000 in
theorem withinF_any (v u : Value) (a l : List Fd) (w : World) (hq : IsRow w 3 v a.length (fCells a)) (hr : IsRow w 3 u l.length (fCells l)) (hal : a.length ≤ 1000000) (hl : l.length ≤ 1000000) (hna : NmF a) (hn : NmF l) (hT : UT w) :
    Calls Tryz.prog 49 #[v, u] w fun e w' => e = .returned (.bool (withinL a l)) ∧ Below w.heap.size w w' := by
  obtain ⟨a0, cap0, rfl⟩ := hq.form
  have HR : Hid (IsRow w 3 (.slice a0 a.length cap0) a.length (fCells a)) := hq
  have HI : Hid (∀ (k : Nat) (h : k < a.length) (w' : World), Below w.heap.size w w' → Calls Tryz.prog 78 #[fV a[k], u] w' fun e w'' => e = .returned (.bool (isInL a[k] l)) ∧ Below w'.heap.size w' w'') := fun k h w' h' => isIn_any _ u l w' (hr.below h') hl (hna _ (List.getElem_mem h)) hn (Utf8Tabs_below hT h')
  clear hq hr hn hna hT
  go_enter Tryz.func49, Tryz.ntmps49
  go_wp2_with fail
  go_loopw [4, 9] (fun r i wr => r = .bool false ∧ ∃ k : Nat, k ≤ a.length ∧ i = .int .i64 (k : Int) ∧ Hid (∀ (j : Nat) (h : j < a.length), j < k → isInL a[j] l = true) ∧ Below w.heap.size w wr) (fun _ i _ => a.length - (intOf i).toNat)
  case atStart => exact ⟨rfl, 0, Nat.zero_le _, rfl, fun j h hj => absurd hj (Nat.not_lt_zero _), Below.refl _ _⟩
  case round =>
    obtain ⟨rfl, k, hk, rfl, HO, hB⟩ := hrel
    by_cases hlk : k < a.length
    · have dk : decide ((k : Int) < a.length) = true := by simp; omega
      obtain ⟨b, off, rfl, hlt, hcap, hc⟩ := f_at (HR.out.below hB) (by omega)
      obtain ⟨ck0, ck1, ck2⟩ := hc k hlk
      have hAl := al_b wr (.cells #[.string a[k].n, .int .i64 a[k].k, .bool a[k].m] 95)
      have hB1 := hB.trans (hAl.mono hB.size)
      have HIk : Hid (Calls Tryz.prog 78 #[fV a[k], u] (wr.alloc (.cells #[.string a[k].n, .int .i64 a[k].k, .bool a[k].m] 95)) fun e w'' => e = .returned (.bool (isInL a[k] l)) ∧ Below (wr.alloc (.cells #[.string a[k].n, .int .i64 a[k].k, .bool a[k].m] 95)).heap.size (wr.alloc (.cells #[.string a[k].n, .int .i64 a[k].k, .bool a[k].m] 95)) w'') := HI.out k hlk _ hB1
      have HBw : Hid (∀ w', Below (wr.alloc (.cells #[.string a[k].n, .int .i64 a[k].k, .bool a[k].m] 95)).heap.size (wr.alloc (.cells #[.string a[k].n, .int .i64 a[k].k, .bool a[k].m] 95)) w' → Below w.heap.size w w') := fun w' h => hB1.trans (h.mono hB1.size)
      have HO2 : Hid (isInL a[k] l = true → ∀ (j : Nat) (h : j < a.length), j < k + 1 → isInL a[j] l = true) := fun hs j h hj => by
        by_cases e : j = k
        · subst e; exact hs
        · exact HO.out j h (by omega)
      have HNo : Hid (isInL a[k] l = false → withinL a l = false) := fun hs => within_no hlk hs
      generalize isInL a[k] l = q at *
      generalize a[k]'hlk = y at *
      obtain ⟨n', kk', m'⟩ := y
      clear hc HO hAl hB1 hB
      cases q with
      | false =>
        go_wp2_with fail
        refine HIk.out.mono ?_
        rintro e w1 ⟨rfl, hb⟩
        have HBB : Hid (Below w.heap.size w w1) := HBw.out w1 hb
        clear hb
        go_wp2
        go_ret
        exact ⟨by rw [HNo.out (by trivial)]; rfl, HBB.out⟩
      | true =>
        go_wp2_with fail
        refine HIk.out.mono ?_
        rintro e w1 ⟨rfl, hb⟩
        have HBB : Hid (Below w.heap.size w w1) := HBw.out w1 hb
        clear hb
        go_wp2
        go_roundw
        case rel => exact ⟨rfl, k + 1, by omega, by simp, HO2.out (by trivial), HBB.out⟩
        case measure => simp [intOf]; omega
    · have hk' : k = a.length := by omega
      subst hk'
      have dk : decide ((a.length : Int) < a.length) = false := by simp
      have HY : Hid (withinL a l = true) := within_yes (fun j hj => HO.out j hj hj)
      clear HO
      have HBB : Hid (Below w.heap.size w wr) := hB
      clear hB
      go_wp2
      go_ret
      exact ⟨by rw [HY.out]; rfl, HBB.out⟩
end Go.Proofs.YthdbnlpbidkojaaGreatDoor
/- schema.Fits: its walk. -/
namespace Go.Proofs.YthdbnlpbidkojaaGreatDoor
open Go.RowKit

end Go.Proofs.YthdbnlpbidkojaaGreatDoor
/- schema.kindOf, schema.parseField: walks. -/
namespace Go.Proofs.YthdbnlpbidkojaaGreatDoor
open Go.RowKit

end Go.Proofs.YthdbnlpbidkojaaGreatDoor
/- schema.parseField: its walk. -/
namespace Go.Proofs.YthdbnlpbidkojaaGreatDoor
open Go.RowKit

end Go.Proofs.YthdbnlpbidkojaaGreatDoor
/- schema.Parse: its walk. -/
namespace Go.Proofs.YthdbnlpbidkojaaGreatDoor
open Go.RowKit

theorem info_fd : (Tryz.prog.info? 95).map (fun i => (i.zero, i.size, i.bytes)) = some (some (.agg #[.string ⟨#[]⟩, .int .i64 0, .bool false]), 3, 32) := by kernel_rfl
theorem wpl_appE {P : Program} (wr : World) {ops : Array Oper} {rest : List Oper} {o : Oper} {a : Act} {Q : Exit → Act → World → Prop} (hgd : o.guard = none) (s x : Operand) (t e : TypeId)
    (ho : o.op = .call { callee := .builtin .append, args := #[s, x], argTypes := #[t, t] })
    (i : TypeInfo) (z : Value) (size bytes : Nat) (ht : P.underlying t = some (.slice e)) (hi : P.info? e = some i) (hz : i.zero = some z)
    (hsize : i.size = size) (hby : i.bytes = bytes) (hzs : z.cells.size = size) (hsz : 0 < size)
    (base : Nat) (v : Value) (n : Nat) (xs : List Value) (hs : a.eval s = v) (hown : wr.ownsRow base e size v n xs)
    (es : List Value) (hes : es.length = size) (C : Array Value) (hC : C = es.toArray) (hx : a.eval x = .slice (some ⟨wr.heap.size, 0, none⟩) 1 1) (h1 : ∀ u ∈ es, u.oneCell' = true)
    (hbytes : (n + 1) * bytes ≤ 140737488355328) (h63 : n + 1 ≤ maxLen) (hbase : base ≤ wr.heap.size)
    (h : ∀ v' w', w'.ownsRow base e size v' (n + 1) (xs ++ es) → Below base wr w' → wpList P ops Q rest (a.put o.dst v') w') :
    wpList P ops Q (o :: rest) a (wr.alloc (.cells C e)) := by
  subst hC
  refine wpList_append_own _ hgd s x t ho base e i z size bytes ht hi hz hsize hby hzs hsz v n xs hs (hown.alloc _) ⟨wr.heap.size, 0, none⟩ 1 1 es hx (by omega) ?_ h1 h63 hbytes ?_ ?_
  · intro j u hj
    have : (⟨wr.heap.size, 0, none⟩ : Addr).add j = ⟨wr.heap.size, j, none⟩ := by unfold Addr.add; split <;> simp_all
    rw [this]
    simp
    exact hj
  · simp; omega
  · intro v' w' h2 h3 _
    exact h v' w' h2 (((Below.refl _ _).alloc hbase _).grown h3 (by simp; omega) (fun k hk => (hown.lt k hk).1))
theorem own_belowE {w w1 : World} {base : Nat} {e : TypeId} {sz : Nat} {v : Value} {n : Nat} {xs : List Value} (h : w.ownsRow base e sz v n xs) (hb : Below w.heap.size w w1) : w1.ownsRow base e sz v n xs :=
  h.kept (row := none) ⟨hb.os, hb.tape, hb.output, hb.size, fun k hk _ => hb.block k hk⟩ (by cases hv : v.ownBlock <;> simp)
def sVals (l : List ByteArray) : List Value := l.map Value.string
theorem s_at {w : World} {a : Option Addr} {cap n : Nat} {l : List ByteArray} (h : IsRow w 1 (.slice a n cap) l.length (sVals l)) (h0 : 0 < l.length) :
    ∃ b off, a = some ⟨b, off, none⟩ ∧ n = l.length ∧ b < w.heap.size ∧ l.length ≤ cap ∧ ∀ (k : Nat) (hk : k < l.length), w.cell? ⟨b, off + k, none⟩ = some (.string l[k]) := by
  obtain ⟨b, off, cap', hv, hlt, q1, q2, hc⟩ := h.open (by omega)
  simp only [Value.slice.injEq] at hv
  exact ⟨b, off, hv.1, hv.2.1, hlt, by omega, fun k hk => hc k _ (by simp [sVals, hk])⟩
end Go.Proofs.YthdbnlpbidkojaaGreatDoor
/- schema.Merge where it tells an error: its walk. -/
namespace Go.Proofs.YthdbnlpbidkojaaGreatDoor
open Go.RowKit

end Go.Proofs.YthdbnlpbidkojaaGreatDoor
