/- schema.Check: its walk. -/
import Derived.Test.YtbekpemidpngaaaGreatDoorZk4
import Derived.Deep.RegionHeld3
import Derived.BigQuiet
import Derived.Laws.ResultCell
namespace Go.Proofs.YtbekpemidpngaaaGreatDoor
open Go.RowKit

def fCells (l : List Fd) : List Value := l.flatMap enF
theorem fCells_get : ∀ (l : List Fd) (k : Nat) (h : k < l.length) (i : Nat), i < 3 → (fCells l)[k * 3 + i]? = (enF l[k])[i]?
  | [], k, h, _, _ => absurd h (by simp)
  | d :: D, 0, _, i, hi => by
    rw [fCells, List.flatMap_cons, Nat.zero_mul, Nat.zero_add, List.getElem?_append_left (by show i < 3; exact hi)]
    rfl
  | d :: D, k + 1, h, i, hi => by
    have z : (enF d).length = 3 := rfl
    rw [fCells, List.flatMap_cons, List.getElem?_append_right (by omega), show (k + 1) * 3 + i - (enF d).length = k * 3 + i by omega]
    have := fCells_get D k (by simpa using h) i hi
    rw [fCells] at this
    rw [this]
    rfl
theorem f_at {w : World} {a : Option Addr} {cap : Nat} {l : List Fd} (h : IsRow w 3 (.slice a l.length cap) l.length (fCells l)) (h0 : 0 < l.length) :
    ∃ b off, a = some ⟨b, off, none⟩ ∧ b < w.heap.size ∧ l.length ≤ cap ∧ ∀ (k : Nat) (hk : k < l.length), w.cell? ⟨b, off + k * 3, none⟩ = some (.string l[k].n) ∧ w.cell? ⟨b, off + k * 3 + 1, none⟩ = some (.int .i64 l[k].k) ∧ w.cell? ⟨b, off + k * 3 + 2, none⟩ = some (.bool l[k].m) := by
  obtain ⟨b, off, cap', hv, hlt, q1, q2, hc⟩ := h.open (by omega)
  simp only [Value.slice.injEq] at hv
  refine ⟨b, off, hv.1, hlt, by omega, fun k hk => ⟨?_, ?_, ?_⟩⟩
  · have := hc (k * 3) (.string l[k].n) (by have := fCells_get l k hk 0 (by omega); rw [Nat.add_zero] at this; rw [this]; rfl)
    simpa using this
  · have := hc (k * 3 + 1) (.int .i64 l[k].k) (by rw [fCells_get l k hk 1 (by omega)]; rfl)
    rwa [← Nat.add_assoc] at this
  · have := hc (k * 3 + 2) (.bool l[k].m) (by rw [fCells_get l k hk 2 (by omega)]; rfl)
    rwa [← Nat.add_assoc] at this
/-- May the field at a place be there? -/
def okF (l : List Fd) (k : Nat) (h : k < l.length) : Prop := mayF l[k] = true ∧ ∀ (j : Nat) (e : j + 1 = k), cmpL (l[j]'(by omega)).n.data.toList l[k].n.data.toList < 0
instance (l : List Fd) (k : Nat) (h : k < l.length) : Decidable (okF l k h) := by
  unfold okF
  cases k with
  | zero => exact decidable_of_iff (mayF l[0] = true) ⟨fun h => ⟨h, fun j e => absurd e (by omega)⟩, fun h => h.1⟩
  | succ k => exact decidable_of_iff (mayF l[k + 1] = true ∧ cmpL (l[k]'(by omega)).n.data.toList l[k + 1].n.data.toList < 0) ⟨fun h => ⟨h.1, fun j e => by cases e; exact h.2⟩, fun h => ⟨h.1, h.2 k rfl⟩⟩
def chkF (l : List Fd) : Bool := decide (l.length ≤ 24) && decide (∀ (k : Nat) (h : k < l.length), okF l k h)
/-- Names are not too long to be looked at. -/
def NmF (l : List Fd) : Prop := ∀ x ∈ l, x.n.size ≤ 1000000
abbrev CK (nb b o : Nat) (x y : Fd) (w0 w : World) : Prop := w.cell? ⟨nb, 0, none⟩ = some (.string x.n) ∧ w.cell? ⟨nb, 1, none⟩ = some (.int .i64 x.k) ∧ w.cell? ⟨nb, 2, none⟩ = some (.bool x.m) ∧ nb < w.heap.size ∧
  w.cell? ⟨b, o, none⟩ = some (.string y.n) ∧ w.cell? ⟨b, o + 1, none⟩ = some (.int .i64 y.k) ∧ w.cell? ⟨b, o + 2, none⟩ = some (.bool y.m) ∧ b < w.heap.size ∧ Below w0.heap.size w0 w
theorem CK_drew {nb b o : Nat} {x y : Fd} {w0 W : World} (h : CK nb b o x y w0 W) : CK nb b o x y w0 W.drew := ⟨h.1, h.2.1, h.2.2.1, h.2.2.2.1, h.2.2.2.2.1, h.2.2.2.2.2.1, h.2.2.2.2.2.2.1, h.2.2.2.2.2.2.2.1, h.2.2.2.2.2.2.2.2.drew⟩
theorem CK_call {nb b o : Nat} {x y : Fd} {w0 W w' : World} (hb : Below W.heap.size W w') (h : CK nb b o x y w0 W) : CK nb b o x y w0 w' := by
  obtain ⟨a0, a1, a2, l1, c0, c1, c2, l2, B⟩ := h
  exact ⟨(hb.cell (p := ⟨nb, 0, none⟩) l1).trans a0, (hb.cell (p := ⟨nb, 1, none⟩) l1).trans a1, (hb.cell (p := ⟨nb, 2, none⟩) l1).trans a2, Nat.lt_of_lt_of_le l1 hb.size, (hb.cell (p := ⟨b, o, none⟩) l2).trans c0, (hb.cell (p := ⟨b, o + 1, none⟩) l2).trans c1, (hb.cell (p := ⟨b, o + 2, none⟩) l2).trans c2, Nat.lt_of_lt_of_le l2 hb.size, B.trans (hb.mono B.size)⟩
theorem CK_b {nb b o : Nat} {x y : Fd} {w0 W : World} (h : CK nb b o x y w0 W) : Below w0.heap.size w0 W := h.2.2.2.2.2.2.2.2
theorem CK_new {b o : Nat} {x y : Fd} {w0 W : World} {t : TypeId} (hB : Below w0.heap.size w0 W) (hlt : b < W.heap.size) (c0 : W.cell? ⟨b, o, none⟩ = some (.string y.n)) (c1 : W.cell? ⟨b, o + 1, none⟩ = some (.int .i64 y.k)) (c2 : W.cell? ⟨b, o + 2, none⟩ = some (.bool y.m)) :
    CK W.heap.size b o x y w0 (W.alloc (.cells #[.string x.n, .int .i64 x.k, .bool x.m] t)) := by
  have hb := al_b W (.cells #[.string x.n, .int .i64 x.k, .bool x.m] t)
  exact ⟨by simp, by simp, by simp, by simp, (hb.cell (p := ⟨b, o, none⟩) hlt).trans c0, (hb.cell (p := ⟨b, o + 1, none⟩) hlt).trans c1, (hb.cell (p := ⟨b, o + 2, none⟩) hlt).trans c2, Nat.lt_of_lt_of_le hlt hb.size, hB.trans (hb.mono hB.size)⟩
theorem chkF_no {l : List Fd} {k : Nat} (h : k < l.length) (hn : ¬ okF l k h) : chkF l = false := by
  unfold chkF
  rw [Bool.and_eq_false_iff]
  right
  rw [decide_eq_false_iff_not]
  exact fun hh => hn (hh k h)
set_option maxRecDepth 100000 in
set_option maxHeartbeats 2000000 in
theorem checkF_any (v : Value) (l : List Fd) (w : World) (hr : IsRow w 3 v l.length (fCells l)) (hl : l.length ≤ 1000000) (hn : NmF l) (hT : UT w) (hM : ML w) :
    Calls Tryz.prog 30 #[v] w fun e w' => e = .returned (.bool (chkF l)) ∧ Below w.heap.size w w' := by
  obtain ⟨a0, cap0, rfl⟩ := hr.form
  have HR : Hid (IsRow w 3 (.slice a0 l.length cap0) l.length (fCells l)) := hr
  clear hr
  by_cases h24 : l.length ≤ 24
  rotate_left
  · have e0 : chkF l = false := by unfold chkF; rw [decide_eq_false h24, Bool.false_and]
    have d24 : decide ((24 : Int) < (l.length : Int)) = true := by simp; omega
    rw [e0]
    go_enter Tryz.func30, Tryz.ntmps30
    go_wp2
    go_ret
    exact ⟨rfl, Below.refl _ _⟩
  have d24 : decide ((24 : Int) < (l.length : Int)) = false := by simp; omega
  have HK : Hid (∀ (k : Nat) (h : k < l.length) (w' : World), ML w' → Calls Tryz.prog 56 #[fV l[k]] w' fun e w'' => e = .returned (.bool (mayF l[k])) ∧ Below w'.heap.size w' w'') := fun k h w' h' => mayBe_any _ w' (hn _ (List.getElem_mem h)) h'
  have HC : Hid (∀ (j k : Nat) (h1 : j < l.length) (h : k < l.length) (w' : World), UT w' → Calls Tryz.prog 57 #[fV l[j], fV l[k]] w' fun e w'' => e = .returned (.int .i64 (cmpL l[j].n.data.toList l[k].n.data.toList)) ∧ Below w'.heap.size w' w'') := fun j k h1 h w' h' => byName_any _ _ w' (hn _ (List.getElem_mem h1)) (hn _ (List.getElem_mem h)) h'
  have HT : Hid (∀ w', Below w.heap.size w w' → UT w') := fun w' h => Utf8Tabs_below hT h
  have HM : Hid (∀ w', Below w.heap.size w w' → ML w') := fun w' h => ML_below hM h
  clear hT hM hn
  go_enter Tryz.func30, Tryz.ntmps30
  go_wp2_with fail
  go_loopw [2, 10] (fun r i wr => r = .bool false ∧ ∃ k : Nat, k ≤ l.length ∧ i = .int .i64 (k : Int) ∧ Hid (∀ (j : Nat) (h : j < l.length), j < k → okF l j h) ∧ Below w.heap.size w wr) (fun _ i _ => l.length - (intOf i).toNat)
  case atStart => exact ⟨rfl, 0, Nat.zero_le _, rfl, fun j h hj => absurd hj (Nat.not_lt_zero _), Below.refl _ _⟩
  case round =>
    obtain ⟨rfl, k, hk, rfl, HO, hB⟩ := hrel
    by_cases hlk : k < l.length
    · have dk : decide ((k : Int) < l.length) = true := by simp; omega
      obtain ⟨b, off, rfl, hlt, hcap, hc⟩ := f_at (HR.out.below hB) (by omega)
      obtain ⟨ck0, ck1, ck2⟩ := hc k hlk
      have hAl := al_b wr (.cells #[.string l[k].n, .int .i64 l[k].k, .bool l[k].m] 61)
      have HMk : Hid (∀ w', Below w.heap.size w w' → Calls Tryz.prog 56 #[fV l[k]] w' fun e w'' => e = .returned (.bool (mayF l[k])) ∧ Below w'.heap.size w' w'') := fun w' h => HK.out k hlk w' (HM.out w' h)
      cases k with
      | zero =>
        rw [Nat.zero_mul, Nat.add_zero] at ck0 ck1 ck2
        have hS : CK wr.heap.size b off l[0] l[0] w (wr.alloc (.cells #[.string l[0].n, .int .i64 l[0].k, .bool l[0].m] 61)) :=
          CK_new hB hlt ck0 ck1 ck2
        have hok : okF l 0 hlk ↔ mayF l[0] = true := ⟨fun h => h.1, fun h => ⟨h, fun j e => absurd e (by omega)⟩⟩
        have HO2 : Hid (mayF l[0] = true → ∀ (j : Nat) (h : j < l.length), j < 0 + 1 → okF l j h) := fun hm j h hj => by
          obtain rfl : j = 0 := by omega
          exact hok.2 hm
        have HNo : Hid (mayF l[0] = false → chkF l = false) := fun hm => chkF_no (k := 0) hlk fun h => by rw [hok.1 h] at hm; cases hm
        generalize mayF l[0] = r at *
        generalize l[0]'hlk = x at *
        obtain ⟨s, kk, m⟩ := x
        clear hok hc HO hAl
        have dk0 : decide ((0 : Int) < (l.length : Int)) = true := decide_eq_true (by omega)
        cases r with
        | false =>
          go_wp2_with fail
          generalize wr.alloc (.cells #[.string s, .int .i64 kk, .bool m] 61) = W at *
          refine wp_region_quiet (C := fun w' => CK wr.heap.size b off ⟨s, kk, m⟩ ⟨s, kk, m⟩ w w') (by kernel_rfl) (by kernel_rfl) (CK_drew hS) ?_
          dsimp only
          repeat (first
            | go_big_quiet_skip
            | (go_big_quiet_want
               apply Exists.intro
               refine ⟨fun W' hW' => ?_, ?_⟩
               · have hW2 : CK wr.heap.size b off ⟨s, kk, m⟩ ⟨s, kk, m⟩ w W' := hW'
                 obtain ⟨g0, g1, g2, -, g3, g4, g5, -, -⟩ := hW2
                 go_simp
                 first
                   | done
                   | rfl
                   | (go_at_call 56; refine (HMk.out W' (CK_b hW')).mono ?_; rintro e w'' ⟨rfl, hb⟩; exact ⟨rfl, CK_call hb hW'⟩)
                   | (go_at_call 57; refine (HCk.out W' (CK_b hW')).mono ?_; rintro e w'' ⟨rfl, hb⟩; exact ⟨rfl, CK_call hb hW'⟩)
               go_big_quiet_on
               try simp only [Act.put, List.setIfInBounds_toArray, List.set_cons_zero, List.set_cons_succ]))
          refine wpQuiet_nil ?_
          intro w2 hS2'
          have hS2 : CK wr.heap.size b off ⟨s, kk, m⟩ ⟨s, kk, m⟩ w w2 := hS2'
          have HBB : Hid (Below w.heap.size w _) := CK_b hS2
          clear hS hS2 hS2'
          go_wp2
          go_ret
          exact ⟨by rw [HNo.out (by trivial)]; rfl, HBB.out⟩
        | true =>
          go_wp2_with fail
          generalize wr.alloc (.cells #[.string s, .int .i64 kk, .bool m] 61) = W at *
          refine wp_region_quiet (C := fun w' => CK wr.heap.size b off ⟨s, kk, m⟩ ⟨s, kk, m⟩ w w') (by kernel_rfl) (by kernel_rfl) (CK_drew hS) ?_
          dsimp only
          repeat (first
            | go_big_quiet_skip
            | (go_big_quiet_want
               apply Exists.intro
               refine ⟨fun W' hW' => ?_, ?_⟩
               · have hW2 : CK wr.heap.size b off ⟨s, kk, m⟩ ⟨s, kk, m⟩ w W' := hW'
                 obtain ⟨g0, g1, g2, -, g3, g4, g5, -, -⟩ := hW2
                 go_simp
                 first
                   | done
                   | rfl
                   | (go_at_call 56; refine (HMk.out W' (CK_b hW')).mono ?_; rintro e w'' ⟨rfl, hb⟩; exact ⟨rfl, CK_call hb hW'⟩)
                   | (go_at_call 57; refine (HCk.out W' (CK_b hW')).mono ?_; rintro e w'' ⟨rfl, hb⟩; exact ⟨rfl, CK_call hb hW'⟩)
               go_big_quiet_on
               try simp only [Act.put, List.setIfInBounds_toArray, List.set_cons_zero, List.set_cons_succ]))
          refine wpQuiet_nil ?_
          intro w2 hS2'
          have hS2 : CK wr.heap.size b off ⟨s, kk, m⟩ ⟨s, kk, m⟩ w w2 := hS2'
          have HBB : Hid (Below w.heap.size w _) := CK_b hS2
          clear hS hS2 hS2'
          go_wp2
          go_roundw
          case rel => exact ⟨rfl, 0 + 1, by omega, by simp, HO2.out (by trivial), HBB.out⟩
          case measure => simp [intOf]; omega
      | succ j =>
        have hj : j < l.length := by omega
        obtain ⟨cj0, cj1, cj2⟩ := hc j hj
        have hS : CK wr.heap.size b (off + j * 3) l[j + 1] l[j] w (wr.alloc (.cells #[.string l[j + 1].n, .int .i64 l[j + 1].k, .bool l[j + 1].m] 61)) :=
          CK_new hB hlt cj0 cj1 cj2
        have HCk : Hid (∀ w', Below w.heap.size w w' → Calls Tryz.prog 57 #[fV l[j], fV l[j + 1]] w' fun e w'' => e = .returned (.int .i64 (cmpL l[j].n.data.toList l[j + 1].n.data.toList)) ∧ Below w'.heap.size w' w'') := fun w' h => HC.out j (j + 1) hj hlk w' (HT.out w' h)
        have hok : okF l (j + 1) hlk ↔ mayF l[j + 1] = true ∧ cmpL l[j].n.data.toList l[j + 1].n.data.toList < 0 := ⟨fun h => ⟨h.1, h.2 j rfl⟩, fun h => ⟨h.1, fun i e => by cases e; exact h.2⟩⟩
        have HO2 : Hid (mayF l[j + 1] = true → cmpL l[j].n.data.toList l[j + 1].n.data.toList < 0 → ∀ (i : Nat) (h : i < l.length), i < j + 1 + 1 → okF l i h) := fun hm hm2 i h hi => by
          by_cases e : i = j + 1
          · subst e; exact hok.2 ⟨hm, hm2⟩
          · exact HO.out i h (by omega)
        have HNo : Hid (mayF l[j + 1] = false ∨ ¬ cmpL l[j].n.data.toList l[j + 1].n.data.toList < 0 → chkF l = false) := fun hm => chkF_no (k := j + 1) hlk fun h => by
          rcases hm with hm | hm
          · rw [(hok.1 h).1] at hm; cases hm
          · exact hm (hok.1 h).2
        generalize mayF l[j + 1] = r at *
        generalize cmpL l[j].n.data.toList l[j + 1].n.data.toList = c at *
        generalize l[j + 1]'hlk = x at *
        generalize l[j]'hj = y at *
        obtain ⟨s, kk, m⟩ := x
        obtain ⟨s', kk', m'⟩ := y
        clear hok hc HO hAl
        have q1 : IntKind.i64.wrap (j : Int) = (j : Int) := by rw [IntKind.wrap_i64]; omega
        have q2 : (0 : Int) ≤ (j : Int) := by omega
        have q3 : (j : Int) < (l.length : Int) := by omega
        have q4 : (j : Int) + 1 - 1 = (j : Int) := by omega
        have q5 : decide ((0 : Int) < (j : Int) + 1) = true := decide_eq_true (by omega)
        cases r with
        | false =>
          go_wp2_with fail
          generalize wr.alloc (.cells #[.string s, .int .i64 kk, .bool m] 61) = W at *
          refine wp_region_quiet (C := fun w' => CK wr.heap.size b (off + j * 3) ⟨s, kk, m⟩ ⟨s', kk', m'⟩ w w') (by kernel_rfl) (by kernel_rfl) (CK_drew hS) ?_
          dsimp only
          repeat (first
            | go_big_quiet_skip
            | (go_big_quiet_want
               apply Exists.intro
               refine ⟨fun W' hW' => ?_, ?_⟩
               · have hW2 : CK wr.heap.size b (off + j * 3) ⟨s, kk, m⟩ ⟨s', kk', m'⟩ w W' := hW'
                 obtain ⟨g0, g1, g2, -, g3, g4, g5, -, -⟩ := hW2
                 go_simp
                 first
                   | done
                   | rfl
                   | (go_at_call 56; refine (HMk.out W' (CK_b hW')).mono ?_; rintro e w'' ⟨rfl, hb⟩; exact ⟨rfl, CK_call hb hW'⟩)
                   | (go_at_call 57; refine (HCk.out W' (CK_b hW')).mono ?_; rintro e w'' ⟨rfl, hb⟩; exact ⟨rfl, CK_call hb hW'⟩)
               go_big_quiet_on
               try simp only [Act.put, List.setIfInBounds_toArray, List.set_cons_zero, List.set_cons_succ]))
          refine wpQuiet_nil ?_
          intro w2 hS2'
          have hS2 : CK wr.heap.size b (off + j * 3) ⟨s, kk, m⟩ ⟨s', kk', m'⟩ w w2 := hS2'
          have HBB : Hid (Below w.heap.size w _) := CK_b hS2
          clear hS hS2 hS2'
          go_wp2
          go_ret
          exact ⟨by rw [HNo.out (.inl (by trivial))]; rfl, HBB.out⟩
        | true =>
          by_cases hc0 : c < 0
          · have q6 : decide ((0 : Int) ≤ c) = false := by simp; omega
            go_wp2_with fail
            generalize wr.alloc (.cells #[.string s, .int .i64 kk, .bool m] 61) = W at *
            refine wp_region_quiet (C := fun w' => CK wr.heap.size b (off + j * 3) ⟨s, kk, m⟩ ⟨s', kk', m'⟩ w w') (by kernel_rfl) (by kernel_rfl) (CK_drew hS) ?_
            dsimp only
            repeat (first
              | go_big_quiet_skip
              | (go_big_quiet_want
                 apply Exists.intro
                 refine ⟨fun W' hW' => ?_, ?_⟩
                 · have hW2 : CK wr.heap.size b (off + j * 3) ⟨s, kk, m⟩ ⟨s', kk', m'⟩ w W' := hW'
                   obtain ⟨g0, g1, g2, -, g3, g4, g5, -, -⟩ := hW2
                   go_simp
                   first
                     | done
                     | rfl
                     | (go_at_call 56; refine (HMk.out W' (CK_b hW')).mono ?_; rintro e w'' ⟨rfl, hb⟩; exact ⟨rfl, CK_call hb hW'⟩)
                     | (go_at_call 57; refine (HCk.out W' (CK_b hW')).mono ?_; rintro e w'' ⟨rfl, hb⟩; exact ⟨rfl, CK_call hb hW'⟩)
                 go_big_quiet_on
                 try simp only [Act.put, List.setIfInBounds_toArray, List.set_cons_zero, List.set_cons_succ]))
            refine wpQuiet_nil ?_
            intro w2 hS2'
            have hS2 : CK wr.heap.size b (off + j * 3) ⟨s, kk, m⟩ ⟨s', kk', m'⟩ w w2 := hS2'
            have HBB : Hid (Below w.heap.size w _) := CK_b hS2
            clear hS hS2 hS2'
            go_wp2
            go_roundw
            case rel => exact ⟨rfl, j + 1 + 1, by omega, by simp, HO2.out (by trivial) hc0, HBB.out⟩
            case measure => simp [intOf]; omega
          · have q6 : decide ((0 : Int) ≤ c) = true := by simp; omega
            go_wp2_with fail
            generalize wr.alloc (.cells #[.string s, .int .i64 kk, .bool m] 61) = W at *
            refine wp_region_quiet (C := fun w' => CK wr.heap.size b (off + j * 3) ⟨s, kk, m⟩ ⟨s', kk', m'⟩ w w') (by kernel_rfl) (by kernel_rfl) (CK_drew hS) ?_
            dsimp only
            repeat (first
              | go_big_quiet_skip
              | (go_big_quiet_want
                 apply Exists.intro
                 refine ⟨fun W' hW' => ?_, ?_⟩
                 · have hW2 : CK wr.heap.size b (off + j * 3) ⟨s, kk, m⟩ ⟨s', kk', m'⟩ w W' := hW'
                   obtain ⟨g0, g1, g2, -, g3, g4, g5, -, -⟩ := hW2
                   go_simp
                   first
                     | done
                     | rfl
                     | (go_at_call 56; refine (HMk.out W' (CK_b hW')).mono ?_; rintro e w'' ⟨rfl, hb⟩; exact ⟨rfl, CK_call hb hW'⟩)
                     | (go_at_call 57; refine (HCk.out W' (CK_b hW')).mono ?_; rintro e w'' ⟨rfl, hb⟩; exact ⟨rfl, CK_call hb hW'⟩)
                 go_big_quiet_on
                 try simp only [Act.put, List.setIfInBounds_toArray, List.set_cons_zero, List.set_cons_succ]))
            refine wpQuiet_nil ?_
            intro w2 hS2'
            have hS2 : CK wr.heap.size b (off + j * 3) ⟨s, kk, m⟩ ⟨s', kk', m'⟩ w w2 := hS2'
            have HBB : Hid (Below w.heap.size w _) := CK_b hS2
            clear hS hS2 hS2'
            go_wp2
            go_ret
            exact ⟨by rw [HNo.out (.inr hc0)]; rfl, HBB.out⟩
    · have hk' : k = l.length := by omega
      subst hk'
      have dk : decide ((l.length : Int) < l.length) = false := by simp
      have hyes : chkF l = true := by unfold chkF; rw [decide_eq_true h24, decide_eq_true (fun k h => HO.out k h h)]; rfl
      clear HO
      have HBB : Hid (Below w.heap.size w wr) := hB
      clear hB
      go_wp2
      go_ret
      exact ⟨by rw [hyes]; rfl, HBB.out⟩
end Go.Proofs.YtbekpemidpngaaaGreatDoor
/- schema.attrMayBe, schema.Attrs: walks. -/
namespace Go.Proofs.YtbekpemidpngaaaGreatDoor
open Go.RowKit

def mayA (x : At) : Bool := oneP x.n && chkV x.k x.v x.s
/-- May the attribute at a place be there? -/
def okA (l : List At) (k : Nat) (h : k < l.length) : Prop := mayA l[k] = true ∧ ∀ (j : Nat) (e : j + 1 = k), cmpL (l[j]'(by omega)).n.data.toList l[k].n.data.toList < 0
instance (l : List At) (k : Nat) (h : k < l.length) : Decidable (okA l k h) := by
  unfold okA
  cases k with
  | zero => exact decidable_of_iff (mayA l[0] = true) ⟨fun h => ⟨h, fun j e => absurd e (by omega)⟩, fun h => h.1⟩
  | succ k => exact decidable_of_iff (mayA l[k + 1] = true ∧ cmpL (l[k]'(by omega)).n.data.toList l[k + 1].n.data.toList < 0) ⟨fun h => ⟨h.1, fun j e => by cases e; exact h.2⟩, fun h => ⟨h.1, h.2 k rfl⟩⟩
end Go.Proofs.YtbekpemidpngaaaGreatDoor
/- schema.Find: its walk. -/
namespace Go.Proofs.YtbekpemidpngaaaGreatDoor
open Go.RowKit

def zF : Fd := ⟨⟨#[]⟩, 0, false⟩
/-- The first field of a name. -/
def getF (l : List Fd) (s : ByteArray) : Option Fd := l.find? fun x => sameL x.n.data.toList s.data.toList
theorem getF_at {l : List Fd} {s : ByteArray} {k : Nat} (h : k < l.length) (hb : ∀ (j : Nat) (hj : j < l.length), j < k → sameL l[j].n.data.toList s.data.toList = false) (hk : sameL l[k].n.data.toList s.data.toList = true) : getF l s = some l[k] := by
  unfold getF
  rw [List.find?_eq_some_iff_getElem]
  exact ⟨hk, k, h, rfl, fun j hj => by rw [hb j (by omega) hj]; rfl⟩
theorem getF_no {l : List Fd} {s : ByteArray} (hb : ∀ (j : Nat) (hj : j < l.length), sameL l[j].n.data.toList s.data.toList = false) : getF l s = none := by
  unfold getF
  rw [List.find?_eq_none]
  intro x hx
  obtain ⟨j, hj, rfl⟩ := List.getElem_of_mem hx
  rw [hb j hj]
  exact Bool.false_ne_true
theorem new_at (w : World) (o : Obj) : (w.alloc o).heap[w.heap.size]? = some o := by show (w.heap.push o)[w.heap.size]? = some o; simp
theorem z3 {w : World} {b : Nat} {x y z : Value} {t : TypeId} (h : w.heap[b]? = some (.cells #[x, y, z] t)) :
    w.cell? ⟨b, 0, none⟩ = some x ∧ w.cell? ⟨b, 1, none⟩ = some y ∧ w.cell? ⟨b, 2, none⟩ = some z ∧ w.frozen? ⟨b, 0, none⟩ = false ∧ w.frozen? ⟨b, 1, none⟩ = false ∧ w.frozen? ⟨b, 2, none⟩ = false :=
  ⟨by rw [Lib.cell_of_heap h]; rfl, by rw [Lib.cell_of_heap h]; rfl, by rw [Lib.cell_of_heap h]; rfl, by simp [World.frozen?, h], by simp [World.frozen?, h], by simp [World.frozen?, h]⟩
theorem set3_b {w0 w : World} {b : Nat} (h : Below b w0 w) (x y z : Value) : Below b w0 (((w.setCell ⟨b, 0, none⟩ x).setCell ⟨b, 1, none⟩ y).setCell ⟨b, 2, none⟩ z) :=
  ((h.setCell (p := ⟨b, 0, none⟩) (Nat.le_refl _) _).setCell (p := ⟨b, 1, none⟩) (Nat.le_refl _) _).setCell (p := ⟨b, 2, none⟩) (Nat.le_refl _) _
set_option maxRecDepth 100000 in
set_option maxHeartbeats 2000000 in
theorem find_any (v : Value) (l : List Fd) (s : ByteArray) (w : World) (hr : IsRow w 3 v l.length (fCells l)) (hl : l.length ≤ 1000000) (hn : NmF l) (hs : s.size ≤ 1000000) (hT : UT w) :
    Calls Tryz.prog 31 #[v, .string s] w fun e w' => e = .returned (.tuple #[fV ((getF l s).getD zF), .bool (getF l s).isSome]) ∧ Below w.heap.size w w' := by
  obtain ⟨a0, cap0, rfl⟩ := hr.form
  have HR : Hid (IsRow w 3 (.slice a0 l.length cap0) l.length (fCells l)) := hr
  have HS : Hid (∀ (k : Nat) (h : k < l.length) (w' : World), Below w.heap.size w w' → Calls Tryz.prog 43 #[.string l[k].n, .string s] w' fun e w'' => e = .returned (.bool (sameL l[k].n.data.toList s.data.toList)) ∧ Below w'.heap.size w' w'') := fun k h w' h' => same_any _ _ w' (hn _ (List.getElem_mem h)) hs (Utf8Tabs_below hT h')
  clear hr hn hT
  go_enter Tryz.func31, Tryz.ntmps31
  go_wp2_with fail
  go_loopw [5, 10] (fun r i wr => r = .bool false ∧ ∃ k : Nat, k ≤ l.length ∧ i = .int .i64 (k : Int) ∧ Hid (∀ (j : Nat) (h : j < l.length), j < k → sameL l[j].n.data.toList s.data.toList = false) ∧ wr.heap[w.heap.size]? = some (.cells #[.string ⟨#[]⟩, .int .i64 0, .bool false] 61) ∧ Below w.heap.size w wr) (fun _ i _ => l.length - (intOf i).toNat)
  case atStart => exact ⟨rfl, 0, Nat.zero_le _, rfl, fun j h hj => absurd hj (Nat.not_lt_zero _), new_at _ _, al_b _ _⟩
  case round =>
    obtain ⟨rfl, k, hk, rfl, HO, hZ, hB⟩ := hrel
    by_cases hlk : k < l.length
    · have dk : decide ((k : Int) < l.length) = true := by simp; omega
      obtain ⟨b, off, rfl, hlt, hcap, hc⟩ := f_at (HR.out.below hB) (by omega)
      obtain ⟨ck0, ck1, ck2⟩ := hc k hlk
      have hAl := al_b wr (.cells #[.string l[k].n, .int .i64 l[k].k, .bool l[k].m] 61)
      have hzl : w.heap.size < wr.heap.size := (Array.getElem?_eq_some_iff.1 hZ).1
      have hB1 := hB.trans (hAl.mono hB.size)
      have HSk : Hid (Calls Tryz.prog 43 #[.string l[k].n, .string s] (wr.alloc (.cells #[.string l[k].n, .int .i64 l[k].k, .bool l[k].m] 61)) fun e w'' => e = .returned (.bool (sameL l[k].n.data.toList s.data.toList)) ∧ Below (wr.alloc (.cells #[.string l[k].n, .int .i64 l[k].k, .bool l[k].m] 61)).heap.size (wr.alloc (.cells #[.string l[k].n, .int .i64 l[k].k, .bool l[k].m] 61)) w'') := HS.out k hlk _ hB1
      have HN : Hid (∀ w', Below (wr.alloc (.cells #[.string l[k].n, .int .i64 l[k].k, .bool l[k].m] 61)).heap.size (wr.alloc (.cells #[.string l[k].n, .int .i64 l[k].k, .bool l[k].m] 61)) w' → w'.heap[w.heap.size]? = some (.cells #[.string ⟨#[]⟩, .int .i64 0, .bool false] 61) ∧ w'.heap[wr.heap.size]? = some (.cells #[.string l[k].n, .int .i64 l[k].k, .bool l[k].m] 61) ∧ Below w.heap.size w w') := fun w' h =>
        ⟨(h.block _ (Nat.lt_of_lt_of_le hzl hAl.size)).trans ((hAl.block _ hzl).trans hZ), (h.block _ (by simp)).trans (new_at _ _), hB1.trans (h.mono hB1.size)⟩
      cases hsm : sameL l[k].n.data.toList s.data.toList with
      | true =>
        have HY : Hid (getF l s = some l[k]) := getF_at hlk HO.out hsm
        rw [hsm] at HSk
        generalize l[k]'hlk = x at *
        obtain ⟨n, kk, m⟩ := x
        clear hc HO hAl hB1 hsm
        go_wp2_with fail
        refine HSk.out.mono ?_
        rintro e w1 ⟨rfl, hb⟩
        obtain ⟨y0, y1, y2⟩ := HN.out w1 hb
        obtain ⟨c0, c1, c2, f0, f1, f2⟩ := z3 y0
        obtain ⟨d0, d1, d2, -, -, -⟩ := z3 y1
        have HBB : Hid (Below w.heap.size w w1) := y2
        clear hb y0 y1 y2 hB
        go_wp2
        try simp only [Exit.inBlock, Exit.then]
        refine bodyPost_ret (v := .tuple #[.agg #[.string n, .int .i64 kk, .bool m], .bool true]) ?_ rfl ⟨by rw [HY.out]; rfl, set3_b HBB.out _ _ _⟩
        rw [results_cell_tmp rfl]; go_simp
      | false =>
        have HO2 : Hid (∀ (j : Nat) (h : j < l.length), j < k + 1 → sameL l[j].n.data.toList s.data.toList = false) := fun j h hj => by
          by_cases e : j = k
          · subst e; exact hsm
          · exact HO.out j h (by omega)
        rw [hsm] at HSk
        generalize l[k]'hlk = x at *
        obtain ⟨n, kk, m⟩ := x
        clear hc HO hAl hB1 hsm
        go_wp2_with fail
        refine HSk.out.mono ?_
        rintro e w1 ⟨rfl, hb⟩
        obtain ⟨y0, y1, y2⟩ := HN.out w1 hb
        clear hb y1 hB
        go_wp2
        go_roundw
        case rel => exact ⟨rfl, k + 1, by omega, by simp, HO2, y0, y2⟩
        case measure => simp [intOf]; omega
    · have hk' : k = l.length := by omega
      subst hk'
      have dk : decide ((l.length : Int) < l.length) = false := by simp
      have HY : Hid (getF l s = none) := getF_no (fun j hj => HO.out j hj hj)
      clear HO
      have HBB : Hid (Below w.heap.size w wr) := hB
      obtain ⟨c0, c1, c2, f0, f1, f2⟩ := z3 hZ
      clear hB hZ
      go_wp2
      try simp only [Exit.inBlock, Exit.then]
      refine bodyPost_ret (v := .tuple #[.agg #[.string ⟨#[]⟩, .int .i64 0, .bool false], .bool false]) ?_ rfl ⟨by rw [HY.out]; rfl, set3_b HBB.out _ _ _⟩
      rw [results_cell_tmp rfl]; go_simp
end Go.Proofs.YtbekpemidpngaaaGreatDoor
/- A value in a row: Index, Contains; one, another: walks. -/
namespace Go.Proofs.YtbekpemidpngaaaGreatDoor
open Go.RowKit

theorem heap_set {w : World} {g : Nat} {C : Array Value} {ty : TypeId} {z : Nat × Nat} (h : w.heap[g]? = some (.cells C ty z)) (j : Nat) (v : Value) : (w.setCell ⟨g, j, none⟩ v).heap[g]? = some (.cells (C.setIfInBounds j v) ty z) := by
  show (w.heap.modify g _)[g]? = _
  rw [Array.getElem?_modify, if_pos rfl, h]
  rfl
theorem bT {a b c : World} (h1 : Below a.heap.size a b) (h2 : Below b.heap.size b c) : Below a.heap.size a c := h1.trans (h2.mono h1.size)
theorem ba_f {a b : ByteArray} (h : a.data.toList = b.data.toList) : a = b := by
  cases a; cases b
  simp only [Array.toList_inj] at h
  rw [h]
def eqV1 (x y : It) : Bool := decide (x.k = y.k) && (decide (x.n = y.n) && decide (x.s = y.s))
theorem eqV1_iff (x y : It) : eqV1 x y = true ↔ x = y := by
  obtain ⟨a, b, c⟩ := x
  obtain ⟨a', b', c'⟩ := y
  unfold eqV1
  simp only [Bool.and_eq_true, decide_eq_true_eq, It.mk.injEq]
abbrev itV (x : It) : Value := .agg #[.int .i64 x.k, .int .i64 x.n, .string x.s]
/-- Where a value stands. -/
def ixV : List It → It → Nat → Int
  | [], _, _ => -1
  | y :: L, x, k => if eqV1 x y then (k : Int) else ixV L x (k + 1)
def inV (L : List It) (x : It) : Bool := L.any fun y => eqV1 x y
theorem ixV_at : ∀ {L : List It} {x : It} {k j : Nat} (h : j < L.length), eqV1 x L[j] = true → (∀ i (hi : i < L.length), i < j → eqV1 x L[i] = false) → ixV L x k = ((k + j : Nat) : Int)
  | [], _, _, _, h, _, _ => absurd h (by simp)
  | y :: L, x, k, 0, h, h1, h2 => by
    have : eqV1 x y = true := h1
    unfold ixV
    rw [if_pos this]
    rfl
  | y :: L, x, k, j + 1, h, h1, h2 => by
    have h0 : eqV1 x y = false := h2 0 (by simp) (by omega)
    unfold ixV
    rw [if_neg (by rw [h0]; decide), ixV_at (k := k + 1) (j := j) (by simpa using h) h1 (fun i hi hij => h2 (i + 1) (by simpa using hi) (by omega))]
    congr 1
    omega
theorem ixV_no : ∀ {L : List It} {x : It} {k : Nat}, (∀ i (hi : i < L.length), eqV1 x L[i] = false) → ixV L x k = -1
  | [], _, _, _ => rfl
  | y :: L, x, k, h => by
    have h0 : eqV1 x y = false := h 0 (by simp)
    unfold ixV
    rw [if_neg (by rw [h0]; decide)]
    exact ixV_no fun i hi => h (i + 1) (by simpa using hi)
theorem ixV_in : ∀ (L : List It) (x : It) (k : Nat), decide (0 ≤ ixV L x k) = inV L x
  | [], _, _ => rfl
  | y :: L, x, k => by
    unfold ixV inV
    rw [List.any_cons]
    by_cases h : eqV1 x y = true
    · rw [if_pos h, h, Bool.true_or]
      exact decide_eq_true (by omega)
    · rw [if_neg h, Bool.not_eq_true] at *
      rw [h, Bool.false_or]
      exact ixV_in L x (k + 1)
set_option maxRecDepth 100000 in
set_option maxHeartbeats 4000000 in
theorem indexV_any (u : Value) (l : List It) (x : It) (w : World) (hu : IsRow w 3 u l.length (itCells l)) (hl : l.length ≤ 1000000) :
    Calls Tryz.prog 126 #[u, itV x] w fun e w' => e = .returned (.int .i64 (ixV l x 0)) ∧ Below w.heap.size w w' := by
  obtain ⟨a0, c0, rfl⟩ := hu.form
  have HU : Hid (IsRow w 3 (.slice a0 l.length c0) l.length (itCells l)) := hu
  clear hu
  have HA : Hid (∀ j (h : j < l.length), eqV1 x l[j] = true → (∀ i (hi : i < l.length), i < j → eqV1 x l[i] = false) → ixV l x 0 = (j : Int)) := fun j h h1 h2 => by
    have := ixV_at (k := 0) h h1 h2
    rwa [Nat.zero_add] at this
  have HN0 : Hid ((∀ i (hi : i < l.length), eqV1 x l[i] = false) → ixV l x 0 = -1) := ixV_no
  generalize ixV l x 0 = Z at *
  obtain ⟨xk, xn, xs⟩ := x
  try dsimp only at *
  obtain ⟨w1, hw1⟩ : ∃ w1, w1 = w.alloc (.cells #[.int .i64 xk, .int .i64 xn, .string xs] 54) := ⟨_, rfl⟩
  have B1 : Hid (Below w.heap.size w w1) := by show Below _ _ _; rw [hw1]; exact al_b _ _
  have hn1 : w1.heap[w.heap.size]? = some (.cells #[.int .i64 xk, .int .i64 xn, .string xs] 54 (0, 0)) := by rw [hw1]; exact new_at _ _
  have C1 : Hid (∀ W, Below w1.heap.size w1 W → W.heap[w.heap.size]? = some (.cells #[.int .i64 xk, .int .i64 xn, .string xs] 54 (0, 0))) := fun W h => (h.block _ (Array.getElem?_eq_some_iff.1 hn1).1).trans hn1
  clear hn1
  go_enter Tryz.func126, Tryz.ntmps126
  go_wp2_with fail
  rw [← hw1]
  clear hw1
  go_loopw [5, 8] (fun _ i wr => ∃ j : Nat, j ≤ l.length ∧ i = .int .i64 (j : Int) ∧ Hid (∀ k (h : k < l.length), k < j → eqV1 ⟨xk, xn, xs⟩ l[k] = false) ∧ Hid (Below w1.heap.size w1 wr)) (fun _ i _ => l.length - (intOf i).toNat)
  case atStart => exact ⟨0, by omega, rfl, (fun k h hj => absurd hj (Nat.not_lt_zero _)), Below.refl _ _⟩
  case round =>
    obtain ⟨j, hj, rfl, HO, HB⟩ := hrel
    have HBw : Hid (Below w.heap.size w wr) := B1.out.trans (HB.out.mono B1.out.size)
    by_cases hlk : j < l.length
    · have dj : decide ((j : Int) < (l.length : Int)) = true := by simp; omega
      obtain ⟨b0, o0, hab, hlt0, -⟩ := items_at HU.out j hlk
      subst hab
      have HY : Hid (∀ W, Below w.heap.size w W → W.cell? ⟨b0, o0 + j * 3, none⟩ = some (.int .i64 l[j].k) ∧ W.cell? ⟨b0, o0 + j * 3 + 1, none⟩ = some (.int .i64 l[j].n) ∧ W.cell? ⟨b0, o0 + j * 3 + 2, none⟩ = some (.string l[j].s)) := fun W h => by
        obtain ⟨b', o', hv, -, p0, p1, p2⟩ := items_at (HU.out.below h) j hlk
        simp only [Option.some.injEq, Addr.mk.injEq] at hv
        obtain ⟨rfl, rfl, -⟩ := hv
        exact ⟨p0, p1, p2⟩
      have q1 : (0 : Int) ≤ (j : Int) := by omega
      have q2 : (j : Int) < (l.length : Int) := by omega
      have HZ : Hid (eqV1 ⟨xk, xn, xs⟩ l[j] = true → Z = (j : Int)) := fun h => HA.out j hlk h fun i hi hij => HO.out i hi hij
      have HO2 : Hid (eqV1 ⟨xk, xn, xs⟩ l[j] = false → ∀ k (h : k < l.length), k < j + 1 → eqV1 ⟨xk, xn, xs⟩ l[k] = false) := fun hs k h hk => by
        by_cases e : k = j
        · subst e; exact hs
        · exact HO.out k h (by omega)
      generalize l[j]'hlk = y at *
      obtain ⟨yk, yn, ys⟩ := y
      dsimp only at *
      clear HO
      cases hq : eqV1 ⟨xk, xn, xs⟩ ⟨yk, yn, ys⟩ with
      | true =>
        have HZ2 : Hid (Z = (j : Int)) := HZ.out hq
        have he := (eqV1_iff _ _).1 hq
        simp only [It.mk.injEq] at he
        obtain ⟨rfl, rfl, rfl⟩ := he
        have HE : Hid (World → True) := fun _ => trivial
        clear hq HZ HO2 HA HN0
        go_wp2_with fail
        refine wp_region_quiet (C := fun w' => Below w.heap.size w w' ∧ Below w1.heap.size w1 w') (by kernel_rfl) (by kernel_rfl) ⟨HBw.out.drew, HB.out.drew⟩ ?_
        dsimp only
        repeat (first
          | go_big_quiet_skip
          | (go_big_quiet_want
             apply Exists.intro
             refine ⟨fun W' hW' => ?_, ?_⟩
             · obtain ⟨hw, hw1⟩ : Below w.heap.size w W' ∧ Below w1.heap.size w1 W' := hW'
               obtain ⟨g0, g1, g2⟩ := HY.out W' hw
               have hk := C1.out W' hw1
               have k0 : W'.cell? ⟨w.heap.size, 0, none⟩ = some (.int .i64 xk) := by rw [Lib.cell_of_heap hk]; rfl
               have k1 : W'.cell? ⟨w.heap.size, 1, none⟩ = some (.int .i64 xn) := by rw [Lib.cell_of_heap hk]; rfl
               have k2 : W'.cell? ⟨w.heap.size, 2, none⟩ = some (.string xs) := by rw [Lib.cell_of_heap hk]; rfl
               clear hk
               go_simp
               first
                 | done
                 | rfl
                 | (rw [HE.out W']; exact ⟨rfl, rfl⟩)
             go_big_quiet_on
             try simp only [Act.put, List.setIfInBounds_toArray, List.set_cons_zero, List.set_cons_succ]))
        refine wpQuiet_nil ?_
        intro w2 hqw2
        have H2 : Hid (Below w.heap.size w w2) := hqw2.1
        have H3 : Hid (Below w1.heap.size w1 w2) := hqw2.2
        clear hqw2
        go_wp2
        go_ret
        exact ⟨by rw [HZ2.out]; rfl, H2.out⟩
      | false =>
        have HO4 := HO2.out hq
        have HO5 : Hid (∀ k (h : k < l.length), k < j + 1 → eqV1 ⟨xk, xn, xs⟩ l[k] = false) := HO4
        have hne : ¬ (xk = yk ∧ xn = yn ∧ xs.toList = ys.toList) := fun h => by
          obtain ⟨rfl, rfl, h4⟩ := h
          rw [ByteArray.toList_eq, ByteArray.toList_eq] at h4
          obtain rfl : xs = ys := ba_f h4
          rw [(eqV1_iff _ _).2 rfl] at hq
          cases hq
        have HE : Hid (∀ W : World, (if xk = yk then if xn = yn then if xs.toList = ys.toList then Result.ok (Next.value (Value.bool true)) W else Result.ok (Next.value (Value.bool false)) W else Result.ok (Next.value (Value.bool false)) W else Result.ok (Next.value (Value.bool false)) W) = (Result.ok (Next.value (Value.bool false)) W : Result Next)) := fun W => by
          by_cases h1 : xk = yk
          · by_cases h2 : xn = yn
            · by_cases h4 : xs.toList = ys.toList
              · exact absurd ⟨h1, h2, h4⟩ hne
              · simp [h1, h2, h4]
            · simp [h1, h2]
          · simp [h1]
        clear hq HZ HO2 hne HO4
        go_wp2_with fail
        refine wp_region_quiet (C := fun w' => Below w.heap.size w w' ∧ Below w1.heap.size w1 w') (by kernel_rfl) (by kernel_rfl) ⟨HBw.out.drew, HB.out.drew⟩ ?_
        dsimp only
        repeat (first
          | go_big_quiet_skip
          | (go_big_quiet_want
             apply Exists.intro
             refine ⟨fun W' hW' => ?_, ?_⟩
             · obtain ⟨hw, hw1⟩ : Below w.heap.size w W' ∧ Below w1.heap.size w1 W' := hW'
               obtain ⟨g0, g1, g2⟩ := HY.out W' hw
               have hk := C1.out W' hw1
               have k0 : W'.cell? ⟨w.heap.size, 0, none⟩ = some (.int .i64 xk) := by rw [Lib.cell_of_heap hk]; rfl
               have k1 : W'.cell? ⟨w.heap.size, 1, none⟩ = some (.int .i64 xn) := by rw [Lib.cell_of_heap hk]; rfl
               have k2 : W'.cell? ⟨w.heap.size, 2, none⟩ = some (.string xs) := by rw [Lib.cell_of_heap hk]; rfl
               clear hk
               go_simp
               first
                 | done
                 | rfl
                 | (rw [HE.out W']; exact ⟨rfl, rfl⟩)
             go_big_quiet_on
             try simp only [Act.put, List.setIfInBounds_toArray, List.set_cons_zero, List.set_cons_succ]))
        refine wpQuiet_nil ?_
        intro w2 hqw2
        have H2 : Hid (Below w.heap.size w w2) := hqw2.1
        have H3 : Hid (Below w1.heap.size w1 w2) := hqw2.2
        clear hqw2
        go_wp2
        go_roundw
        case rel => exact ⟨j + 1, by omega, by simp, HO5, H3⟩
        case measure => simp [intOf]; omega
    · have dj : decide ((j : Int) < (l.length : Int)) = false := by simp; omega
      have HZ : Hid (Z = -1) := HN0.out fun i hi => HO.out i hi (by omega)
      clear HO HA HN0 HU
      go_wp2
      go_ret
      exact ⟨by rw [HZ.out]; rfl, HBw.out⟩
set_option maxRecDepth 100000 in
set_option maxHeartbeats 1000000 in
theorem containsV_any (u : Value) (l : List It) (x : It) (w : World) (hu : IsRow w 3 u l.length (itCells l)) (hl : l.length ≤ 1000000) :
    Calls Tryz.prog 94 #[u, itV x] w fun e w' => e = .returned (.bool (inV l x)) ∧ Below w.heap.size w w' := by
  obtain ⟨a0, c0, rfl⟩ := hu.form
  have HI : Hid (∀ W, Below w.heap.size w W → Calls Tryz.prog 126 #[.slice a0 l.length c0, itV x] W fun e w' => e = .returned (.int .i64 (ixV l x 0)) ∧ Below W.heap.size W w') := fun W hb => indexV_any _ l x W (hu.below hb) hl
  have HD : Hid (decide (0 ≤ ixV l x 0) = inV l x) := ixV_in l x 0
  clear hu
  generalize ixV l x 0 = Z at *
  generalize inV l x = X at *
  obtain ⟨xk, xn, xs⟩ := x
  try dsimp only at *
  obtain ⟨w1, hw1⟩ : ∃ w1, w1 = w.alloc (.cells #[.int .i64 xk, .int .i64 xn, .string xs] 54) := ⟨_, rfl⟩
  have B1 : Hid (Below w.heap.size w w1) := by show Below _ _ _; rw [hw1]; exact al_b _ _
  have hn1 : w1.heap[w.heap.size]? = some (.cells #[.int .i64 xk, .int .i64 xn, .string xs] 54 (0, 0)) := by rw [hw1]; exact new_at _ _
  have C1 : Hid (∀ W, Below w1.heap.size w1 W → W.heap[w.heap.size]? = some (.cells #[.int .i64 xk, .int .i64 xn, .string xs] 54 (0, 0))) := fun W h => (h.block _ (Array.getElem?_eq_some_iff.1 hn1).1).trans hn1
  clear hn1
  have hk := C1.out w1 (Below.refl _ _)
  have c1_0 : w1.cell? ⟨w.heap.size, 0, none⟩ = some (.int .i64 xk) := by rw [Lib.cell_of_heap hk]; rfl
  have c1_1 : w1.cell? ⟨w.heap.size, 1, none⟩ = some (.int .i64 xn) := by rw [Lib.cell_of_heap hk]; rfl
  have c1_2 : w1.cell? ⟨w.heap.size, 2, none⟩ = some (.string xs) := by rw [Lib.cell_of_heap hk]; rfl
  clear hk
  rw [hw1] at c1_0 c1_1 c1_2
  go_enter Tryz.func94, Tryz.ntmps94
  go_wp2_with fail
  rw [← hw1]
  clear hw1
  clear c1_0 c1_1 c1_2
  refine (HI.out _ B1.out).mono ?_
  rintro e w2 ⟨rfl, hb⟩
  have B2 : Hid (Below w1.heap.size w1 w2) := hb
  clear hb 
  go_wp2
  go_ret
  exact ⟨by rw [← HD.out]; rfl, (bT B1.out B2.out)⟩
end Go.Proofs.YtbekpemidpngaaaGreatDoor
