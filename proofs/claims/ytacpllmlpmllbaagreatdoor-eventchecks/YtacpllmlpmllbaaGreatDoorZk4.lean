/- schema.attrMayBe, schema.Attrs: walks. -/
import Derived.Test.YtacpllmlpmllbaaGreatDoorZk3
import Derived.Laws.ResultCell
import Derived.Lib.SplitLaws
import Derived.WalkMore
import Derived.Deep.QuietTactic
import Derived.BigQuiet
import Derived.Test.YtacpllmlpmllbaaGreatDoorZk1
import Derived.Lib.AppendZeros
import Derived.Maps.AppendAt
import Derived.Below
import Derived.Calls
namespace Go.Proofs.YtacpllmlpmllbaaGreatDoor
open Go.RowKit

def mayA (x : At) : Bool := oneP x.n && chkV x.k x.v x.s
set_option maxRecDepth 100000 in
theorem attrMayBe_any (x : At) (w : World) (hs : x.n.size ≤ 1000000) (hs2 : x.s.size ≤ 140737488355328) (hT : UT w) (hM : ML w) :
    Calls Tryz.prog 89 #[aV x] w fun e w' => e = .returned (.bool (mayA x)) ∧ Below w.heap.size w w' := by
  obtain ⟨n, k, v, s⟩ := x
  have hA := al_b w (.cells #[.string n, .int .i64 k, .int .i64 v, .string s] 78)
  have HP : Hid (Calls Tryz.prog 138 #[.string n] (w.alloc (.cells #[.string n, .int .i64 k, .int .i64 v, .string s] 78)) fun e w' => e = .returned (.bool (oneP n)) ∧ Below (w.alloc (.cells #[.string n, .int .i64 k, .int .i64 v, .string s] 78)).heap.size (w.alloc (.cells #[.string n, .int .i64 k, .int .i64 v, .string s] 78)) w') := onePart_any n _ hs (ML_below hM hA)
  have HV : Hid (∀ w', Below w.heap.size w w' → Calls Tryz.prog 96 #[vv k v s] w' fun e w'' => e = .returned (.bool (chkV k v s)) ∧ Below w'.heap.size w' w'') := fun w' h => vcheck_any k v s w' hs2 (Utf8Tabs_below hT h)
  have HA : Hid (Below w.heap.size w (w.alloc (.cells #[.string n, .int .i64 k, .int .i64 v, .string s] 78))) := hA
  have HZ : Hid (∀ w', Below (w.alloc (.cells #[.string n, .int .i64 k, .int .i64 v, .string s] 78)).heap.size (w.alloc (.cells #[.string n, .int .i64 k, .int .i64 v, .string s] 78)) w' → w'.cell? ⟨w.heap.size, 1, none⟩ = some (.int .i64 k) ∧ w'.cell? ⟨w.heap.size, 2, none⟩ = some (.int .i64 v) ∧ w'.cell? ⟨w.heap.size, 3, none⟩ = some (.string s)) := fun w' h => by
    have hl : w.heap.size < (w.alloc (.cells #[.string n, .int .i64 k, .int .i64 v, .string s] 78)).heap.size := by simp
    exact ⟨(h.cell (p := ⟨w.heap.size, 1, none⟩) hl).trans (by simp), (h.cell (p := ⟨w.heap.size, 2, none⟩) hl).trans (by simp), (h.cell (p := ⟨w.heap.size, 3, none⟩) hl).trans (by simp)⟩
  clear hA
  show Calls _ _ _ _ fun e w' => e = .returned (.bool (oneP n && chkV k v s)) ∧ _
  generalize oneP n = p at *
  generalize chkV k v s = q at *
  cases p with
  | false =>
    rw [Bool.false_and]
    go_enter Tryz.func89, Tryz.ntmps89
    go_wp2_with fail
    refine HP.out.mono ?_
    rintro e w1 ⟨rfl, hb⟩
    have HB : Hid (Below w.heap.size w w1) := HA.out.trans (hb.mono HA.out.size)
    clear hb
    go_wp2
    go_ret
    exact ⟨rfl, HB.out⟩
  | true =>
    rw [Bool.true_and]
    go_enter Tryz.func89, Tryz.ntmps89
    go_wp2_with fail
    refine HP.out.mono ?_
    rintro e w1 ⟨rfl, hb⟩
    have HB : Hid (Below w.heap.size w w1) := HA.out.trans (hb.mono HA.out.size)
    obtain ⟨z1, z2, z3⟩ := HZ.out w1 hb
    clear hb
    go_wp2_with fail
    refine (HV.out w1 HB.out).mono ?_
    rintro e w2 ⟨rfl, hb⟩
    have HB2 : Hid (Below w.heap.size w w2) := HB.out.trans (hb.mono HB.out.size)
    clear hb
    go_wp2
    go_ret
    exact ⟨rfl, HB2.out⟩
def aCells (l : List At) : List Value := l.flatMap enA
theorem aCells_get : ∀ (l : List At) (k : Nat) (h : k < l.length) (i : Nat), i < 4 → (aCells l)[k * 4 + i]? = (enA l[k])[i]?
  | [], k, h, _, _ => absurd h (by simp)
  | d :: D, 0, _, i, hi => by
    rw [aCells, List.flatMap_cons, Nat.zero_mul, Nat.zero_add, List.getElem?_append_left (by show i < 4; exact hi)]
    rfl
  | d :: D, k + 1, h, i, hi => by
    have z : (enA d).length = 4 := rfl
    rw [aCells, List.flatMap_cons, List.getElem?_append_right (by omega), show (k + 1) * 4 + i - (enA d).length = k * 4 + i by omega]
    have := aCells_get D k (by simpa using h) i hi
    rw [aCells] at this
    rw [this]
    rfl
theorem a_at {w : World} {a : Option Addr} {cap : Nat} {l : List At} (h : IsRow w 4 (.slice a l.length cap) l.length (aCells l)) (h0 : 0 < l.length) :
    ∃ b off, a = some ⟨b, off, none⟩ ∧ b < w.heap.size ∧ l.length ≤ cap ∧ ∀ (k : Nat) (hk : k < l.length), w.cell? ⟨b, off + k * 4, none⟩ = some (.string l[k].n) ∧ w.cell? ⟨b, off + k * 4 + 1, none⟩ = some (.int .i64 l[k].k) ∧ w.cell? ⟨b, off + k * 4 + 2, none⟩ = some (.int .i64 l[k].v) ∧ w.cell? ⟨b, off + k * 4 + 3, none⟩ = some (.string l[k].s) := by
  obtain ⟨b, off, cap', hv, hlt, q1, q2, hc⟩ := h.open (by omega)
  simp only [Value.slice.injEq] at hv
  refine ⟨b, off, hv.1, hlt, by omega, fun k hk => ⟨?_, ?_, ?_, ?_⟩⟩
  · have := hc (k * 4) (.string l[k].n) (by have := aCells_get l k hk 0 (by omega); rw [Nat.add_zero] at this; rw [this]; rfl)
    simpa using this
  · have := hc (k * 4 + 1) (.int .i64 l[k].k) (by rw [aCells_get l k hk 1 (by omega)]; rfl)
    rwa [← Nat.add_assoc] at this
  · have := hc (k * 4 + 2) (.int .i64 l[k].v) (by rw [aCells_get l k hk 2 (by omega)]; rfl)
    rwa [← Nat.add_assoc] at this
  · have := hc (k * 4 + 3) (.string l[k].s) (by rw [aCells_get l k hk 3 (by omega)]; rfl)
    rwa [← Nat.add_assoc] at this
/-- May the attribute at a place be there? -/
def okA (l : List At) (k : Nat) (h : k < l.length) : Prop := mayA l[k] = true ∧ ∀ (j : Nat) (e : j + 1 = k), cmpL (l[j]'(by omega)).n.data.toList l[k].n.data.toList < 0
instance (l : List At) (k : Nat) (h : k < l.length) : Decidable (okA l k h) := by
  unfold okA
  cases k with
  | zero => exact decidable_of_iff (mayA l[0] = true) ⟨fun h => ⟨h, fun j e => absurd e (by omega)⟩, fun h => h.1⟩
  | succ k => exact decidable_of_iff (mayA l[k + 1] = true ∧ cmpL (l[k]'(by omega)).n.data.toList l[k + 1].n.data.toList < 0) ⟨fun h => ⟨h.1, fun j e => by cases e; exact h.2⟩, fun h => ⟨h.1, h.2 k rfl⟩⟩
def chkA (l : List At) : Bool := decide (l.length ≤ 24) && decide (∀ (k : Nat) (h : k < l.length), okA l k h)
/-- Names are not too long to be looked at. -/
def NmA (l : List At) : Prop := ∀ x ∈ l, x.n.size ≤ 1000000 ∧ x.s.size ≤ 140737488355328
abbrev CA (nb b o : Nat) (x y : At) (w0 w : World) : Prop := w.cell? ⟨nb, 0, none⟩ = some (.string x.n) ∧ w.cell? ⟨nb, 1, none⟩ = some (.int .i64 x.k) ∧ w.cell? ⟨nb, 2, none⟩ = some (.int .i64 x.v) ∧ w.cell? ⟨nb, 3, none⟩ = some (.string x.s) ∧ nb < w.heap.size ∧
  w.cell? ⟨b, o, none⟩ = some (.string y.n) ∧ b < w.heap.size ∧ Below w0.heap.size w0 w
theorem CA_drew {nb b o : Nat} {x y : At} {w0 W : World} (h : CA nb b o x y w0 W) : CA nb b o x y w0 W.drew := ⟨h.1, h.2.1, h.2.2.1, h.2.2.2.1, h.2.2.2.2.1, h.2.2.2.2.2.1, h.2.2.2.2.2.2.1, h.2.2.2.2.2.2.2.drew⟩
theorem CA_call {nb b o : Nat} {x y : At} {w0 W w' : World} (hb : Below W.heap.size W w') (h : CA nb b o x y w0 W) : CA nb b o x y w0 w' := by
  obtain ⟨a0, a1, a2, a3, l1, c0, l2, B⟩ := h
  exact ⟨(hb.cell (p := ⟨nb, 0, none⟩) l1).trans a0, (hb.cell (p := ⟨nb, 1, none⟩) l1).trans a1, (hb.cell (p := ⟨nb, 2, none⟩) l1).trans a2, (hb.cell (p := ⟨nb, 3, none⟩) l1).trans a3, Nat.lt_of_lt_of_le l1 hb.size, (hb.cell (p := ⟨b, o, none⟩) l2).trans c0, Nat.lt_of_lt_of_le l2 hb.size, B.trans (hb.mono B.size)⟩
theorem CA_b {nb b o : Nat} {x y : At} {w0 W : World} (h : CA nb b o x y w0 W) : Below w0.heap.size w0 W := h.2.2.2.2.2.2.2
theorem CA_new {b o : Nat} {x y : At} {w0 W : World} {t : TypeId} (hB : Below w0.heap.size w0 W) (hlt : b < W.heap.size) (c0 : W.cell? ⟨b, o, none⟩ = some (.string y.n)) :
    CA W.heap.size b o x y w0 (W.alloc (.cells #[.string x.n, .int .i64 x.k, .int .i64 x.v, .string x.s] t)) := by
  have hb := al_b W (.cells #[.string x.n, .int .i64 x.k, .int .i64 x.v, .string x.s] t)
  exact ⟨by simp, by simp, by simp, by simp, by simp, (hb.cell (p := ⟨b, o, none⟩) hlt).trans c0, Nat.lt_of_lt_of_le hlt hb.size, hB.trans (hb.mono hB.size)⟩
theorem chkA_no {l : List At} {k : Nat} (h : k < l.length) (hn : ¬ okA l k h) : chkA l = false := by
  unfold chkA
  rw [Bool.and_eq_false_iff]
  right
  rw [decide_eq_false_iff_not]
  exact fun hh => hn (hh k h)
set_option maxRecDepth 100000 in
set_option maxHeartbeats 2000000 in
theorem attrs_any (v : Value) (l : List At) (w : World) (hr : IsRow w 4 v l.length (aCells l)) (hl : l.length ≤ 1000000) (hn : NmA l) (hT : UT w) (hM : ML w) :
    Calls Tryz.prog 43 #[v] w fun e w' => e = .returned (.bool (chkA l)) ∧ Below w.heap.size w w' := by
  obtain ⟨a0, cap0, rfl⟩ := hr.form
  have HR : Hid (IsRow w 4 (.slice a0 l.length cap0) l.length (aCells l)) := hr
  clear hr
  by_cases h24 : l.length ≤ 24
  rotate_left
  · have e0 : chkA l = false := by unfold chkA; rw [decide_eq_false h24, Bool.false_and]
    have d24 : decide ((24 : Int) < (l.length : Int)) = true := by simp; omega
    rw [e0]
    go_enter Tryz.func43, Tryz.ntmps43
    go_wp2
    go_ret
    exact ⟨rfl, Below.refl _ _⟩
  have d24 : decide ((24 : Int) < (l.length : Int)) = false := by simp; omega
  have HK : Hid (∀ (k : Nat) (h : k < l.length) (w' : World), Below w.heap.size w w' → Calls Tryz.prog 89 #[aV l[k]] w' fun e w'' => e = .returned (.bool (mayA l[k])) ∧ Below w'.heap.size w' w'') := fun k h w' h' => attrMayBe_any _ w' (hn _ (List.getElem_mem h)).1 (hn _ (List.getElem_mem h)).2 (Utf8Tabs_below hT h') (ML_below hM h')
  have HC : Hid (∀ (j k : Nat) (h1 : j < l.length) (h : k < l.length) (w' : World), UT w' → Calls Tryz.prog 65 #[.string l[j].n, .string l[k].n] w' fun e w'' => e = .returned (.int .i64 (cmpL l[j].n.data.toList l[k].n.data.toList)) ∧ Below w'.heap.size w' w'') := fun j k h1 h w' h' => compare_any _ _ w' (hn _ (List.getElem_mem h1)).1 (hn _ (List.getElem_mem h)).1 h'
  have HT : Hid (∀ w', Below w.heap.size w w' → UT w') := fun w' h => Utf8Tabs_below hT h
  clear hT hM hn
  go_enter Tryz.func43, Tryz.ntmps43
  go_wp2_with fail
  go_loopw [2, 10] (fun r i wr => r = .bool false ∧ ∃ k : Nat, k ≤ l.length ∧ i = .int .i64 (k : Int) ∧ Hid (∀ (j : Nat) (h : j < l.length), j < k → okA l j h) ∧ Below w.heap.size w wr) (fun _ i _ => l.length - (intOf i).toNat)
  case atStart => exact ⟨rfl, 0, Nat.zero_le _, rfl, fun j h hj => absurd hj (Nat.not_lt_zero _), Below.refl _ _⟩
  case round =>
    obtain ⟨rfl, k, hk, rfl, HO, hB⟩ := hrel
    by_cases hlk : k < l.length
    · have dk : decide ((k : Int) < l.length) = true := by simp; omega
      obtain ⟨b, off, rfl, hlt, hcap, hc⟩ := a_at (HR.out.below hB) (by omega)
      obtain ⟨ck0, ck1, ck2, ck3⟩ := hc k hlk
      have hAl := al_b wr (.cells #[.string l[k].n, .int .i64 l[k].k, .int .i64 l[k].v, .string l[k].s] 78)
      have HMk : Hid (∀ w', Below w.heap.size w w' → Calls Tryz.prog 89 #[aV l[k]] w' fun e w'' => e = .returned (.bool (mayA l[k])) ∧ Below w'.heap.size w' w'') := fun w' h => HK.out k hlk w' h
      cases k with
      | zero =>
        rw [Nat.zero_mul, Nat.add_zero] at ck0 ck1 ck2 ck3
        have hS : CA wr.heap.size b off l[0] l[0] w (wr.alloc (.cells #[.string l[0].n, .int .i64 l[0].k, .int .i64 l[0].v, .string l[0].s] 78)) :=
          CA_new hB hlt ck0
        have hok : okA l 0 hlk ↔ mayA l[0] = true := ⟨fun h => h.1, fun h => ⟨h, fun j e => absurd e (by omega)⟩⟩
        have HO2 : Hid (mayA l[0] = true → ∀ (j : Nat) (h : j < l.length), j < 0 + 1 → okA l j h) := fun hm j h hj => by
          obtain rfl : j = 0 := by omega
          exact hok.2 hm
        have HNo : Hid (mayA l[0] = false → chkA l = false) := fun hm => chkA_no (k := 0) hlk fun h => by rw [hok.1 h] at hm; cases hm
        generalize mayA l[0] = r at *
        generalize l[0]'hlk = x at *
        obtain ⟨s, kk, nn, tt⟩ := x
        clear hok hc HO hAl
        have dk0 : decide ((0 : Int) < (l.length : Int)) = true := decide_eq_true (by omega)
        cases r with
        | false =>
          go_wp2_with fail
          generalize wr.alloc (.cells #[.string s, .int .i64 kk, .int .i64 nn, .string tt] 78) = W at *
          refine wp_region_quiet (C := fun w' => CA wr.heap.size b off ⟨s, kk, nn, tt⟩ ⟨s, kk, nn, tt⟩ w w') (by kernel_rfl) (by kernel_rfl) (CA_drew hS) ?_
          dsimp only
          repeat (first
            | go_big_quiet_skip
            | (go_big_quiet_want
               apply Exists.intro
               refine ⟨fun W' hW' => ?_, ?_⟩
               · have hW2 : CA wr.heap.size b off ⟨s, kk, nn, tt⟩ ⟨s, kk, nn, tt⟩ w W' := hW'
                 obtain ⟨g0, g1, g2, g3, -, g4, -, -⟩ := hW2
                 go_simp
                 first
                   | done
                   | rfl
                   | (go_at_call 89; refine (HMk.out W' (CA_b hW')).mono ?_; rintro e w'' ⟨rfl, hb⟩; exact ⟨rfl, CA_call hb hW'⟩)
                   | (go_at_call 65; refine (HCk.out W' (CA_b hW')).mono ?_; rintro e w'' ⟨rfl, hb⟩; exact ⟨rfl, CA_call hb hW'⟩)
               go_big_quiet_on
               try simp only [Act.put, List.setIfInBounds_toArray, List.set_cons_zero, List.set_cons_succ]))
          refine wpQuiet_nil ?_
          intro w2 hS2'
          have hS2 : CA wr.heap.size b off ⟨s, kk, nn, tt⟩ ⟨s, kk, nn, tt⟩ w w2 := hS2'
          have HBB : Hid (Below w.heap.size w _) := CA_b hS2
          clear hS hS2 hS2'
          go_wp2
          go_ret
          exact ⟨by rw [HNo.out (by trivial)]; rfl, HBB.out⟩
        | true =>
          go_wp2_with fail
          generalize wr.alloc (.cells #[.string s, .int .i64 kk, .int .i64 nn, .string tt] 78) = W at *
          refine wp_region_quiet (C := fun w' => CA wr.heap.size b off ⟨s, kk, nn, tt⟩ ⟨s, kk, nn, tt⟩ w w') (by kernel_rfl) (by kernel_rfl) (CA_drew hS) ?_
          dsimp only
          repeat (first
            | go_big_quiet_skip
            | (go_big_quiet_want
               apply Exists.intro
               refine ⟨fun W' hW' => ?_, ?_⟩
               · have hW2 : CA wr.heap.size b off ⟨s, kk, nn, tt⟩ ⟨s, kk, nn, tt⟩ w W' := hW'
                 obtain ⟨g0, g1, g2, g3, -, g4, -, -⟩ := hW2
                 go_simp
                 first
                   | done
                   | rfl
                   | (go_at_call 89; refine (HMk.out W' (CA_b hW')).mono ?_; rintro e w'' ⟨rfl, hb⟩; exact ⟨rfl, CA_call hb hW'⟩)
                   | (go_at_call 65; refine (HCk.out W' (CA_b hW')).mono ?_; rintro e w'' ⟨rfl, hb⟩; exact ⟨rfl, CA_call hb hW'⟩)
               go_big_quiet_on
               try simp only [Act.put, List.setIfInBounds_toArray, List.set_cons_zero, List.set_cons_succ]))
          refine wpQuiet_nil ?_
          intro w2 hS2'
          have hS2 : CA wr.heap.size b off ⟨s, kk, nn, tt⟩ ⟨s, kk, nn, tt⟩ w w2 := hS2'
          have HBB : Hid (Below w.heap.size w _) := CA_b hS2
          clear hS hS2 hS2'
          go_wp2
          go_roundw
          case rel => exact ⟨rfl, 0 + 1, by omega, by simp, HO2.out (by trivial), HBB.out⟩
          case measure => simp [intOf]; omega
      | succ j =>
        have hj : j < l.length := by omega
        obtain ⟨cj0, -⟩ := hc j hj
        have hS : CA wr.heap.size b (off + j * 4) l[j + 1] l[j] w (wr.alloc (.cells #[.string l[j + 1].n, .int .i64 l[j + 1].k, .int .i64 l[j + 1].v, .string l[j + 1].s] 78)) :=
          CA_new hB hlt cj0
        have HCk : Hid (∀ w', Below w.heap.size w w' → Calls Tryz.prog 65 #[.string l[j].n, .string l[j + 1].n] w' fun e w'' => e = .returned (.int .i64 (cmpL l[j].n.data.toList l[j + 1].n.data.toList)) ∧ Below w'.heap.size w' w'') := fun w' h => HC.out j (j + 1) hj hlk w' (HT.out w' h)
        have hok : okA l (j + 1) hlk ↔ mayA l[j + 1] = true ∧ cmpL l[j].n.data.toList l[j + 1].n.data.toList < 0 := ⟨fun h => ⟨h.1, h.2 j rfl⟩, fun h => ⟨h.1, fun i e => by cases e; exact h.2⟩⟩
        have HO2 : Hid (mayA l[j + 1] = true → cmpL l[j].n.data.toList l[j + 1].n.data.toList < 0 → ∀ (i : Nat) (h : i < l.length), i < j + 1 + 1 → okA l i h) := fun hm hm2 i h hi => by
          by_cases e : i = j + 1
          · subst e; exact hok.2 ⟨hm, hm2⟩
          · exact HO.out i h (by omega)
        have HNo : Hid (mayA l[j + 1] = false ∨ ¬ cmpL l[j].n.data.toList l[j + 1].n.data.toList < 0 → chkA l = false) := fun hm => chkA_no (k := j + 1) hlk fun h => by
          rcases hm with hm | hm
          · rw [(hok.1 h).1] at hm; cases hm
          · exact hm (hok.1 h).2
        generalize mayA l[j + 1] = r at *
        generalize cmpL l[j].n.data.toList l[j + 1].n.data.toList = c at *
        generalize l[j + 1]'hlk = x at *
        generalize l[j]'hj = y at *
        obtain ⟨s, kk, nn, tt⟩ := x
        obtain ⟨s', kk', nn', tt'⟩ := y
        clear hok hc HO hAl
        have q1 : IntKind.i64.wrap (j : Int) = (j : Int) := by rw [IntKind.wrap_i64]; omega
        have q2 : (0 : Int) ≤ (j : Int) := by omega
        have q3 : (j : Int) < (l.length : Int) := by omega
        have q4 : (j : Int) + 1 - 1 = (j : Int) := by omega
        have q5 : decide ((0 : Int) < (j : Int) + 1) = true := decide_eq_true (by omega)
        cases r with
        | false =>
          go_wp2_with fail
          generalize wr.alloc (.cells #[.string s, .int .i64 kk, .int .i64 nn, .string tt] 78) = W at *
          refine wp_region_quiet (C := fun w' => CA wr.heap.size b (off + j * 4) ⟨s, kk, nn, tt⟩ ⟨s', kk', nn', tt'⟩ w w') (by kernel_rfl) (by kernel_rfl) (CA_drew hS) ?_
          dsimp only
          repeat (first
            | go_big_quiet_skip
            | (go_big_quiet_want
               apply Exists.intro
               refine ⟨fun W' hW' => ?_, ?_⟩
               · have hW2 : CA wr.heap.size b (off + j * 4) ⟨s, kk, nn, tt⟩ ⟨s', kk', nn', tt'⟩ w W' := hW'
                 obtain ⟨g0, g1, g2, g3, -, g4, -, -⟩ := hW2
                 go_simp
                 first
                   | done
                   | rfl
                   | (go_at_call 89; refine (HMk.out W' (CA_b hW')).mono ?_; rintro e w'' ⟨rfl, hb⟩; exact ⟨rfl, CA_call hb hW'⟩)
                   | (go_at_call 65; refine (HCk.out W' (CA_b hW')).mono ?_; rintro e w'' ⟨rfl, hb⟩; exact ⟨rfl, CA_call hb hW'⟩)
               go_big_quiet_on
               try simp only [Act.put, List.setIfInBounds_toArray, List.set_cons_zero, List.set_cons_succ]))
          refine wpQuiet_nil ?_
          intro w2 hS2'
          have hS2 : CA wr.heap.size b (off + j * 4) ⟨s, kk, nn, tt⟩ ⟨s', kk', nn', tt'⟩ w w2 := hS2'
          have HBB : Hid (Below w.heap.size w _) := CA_b hS2
          clear hS hS2 hS2'
          go_wp2
          go_ret
          exact ⟨by rw [HNo.out (.inl (by trivial))]; rfl, HBB.out⟩
        | true =>
          by_cases hc0 : c < 0
          · have q6 : decide ((0 : Int) ≤ c) = false := by simp; omega
            go_wp2_with fail
            generalize wr.alloc (.cells #[.string s, .int .i64 kk, .int .i64 nn, .string tt] 78) = W at *
            refine wp_region_quiet (C := fun w' => CA wr.heap.size b (off + j * 4) ⟨s, kk, nn, tt⟩ ⟨s', kk', nn', tt'⟩ w w') (by kernel_rfl) (by kernel_rfl) (CA_drew hS) ?_
            dsimp only
            repeat (first
              | go_big_quiet_skip
              | (go_big_quiet_want
                 apply Exists.intro
                 refine ⟨fun W' hW' => ?_, ?_⟩
                 · have hW2 : CA wr.heap.size b (off + j * 4) ⟨s, kk, nn, tt⟩ ⟨s', kk', nn', tt'⟩ w W' := hW'
                   obtain ⟨g0, g1, g2, g3, -, g4, -, -⟩ := hW2
                   go_simp
                   first
                     | done
                     | rfl
                     | (go_at_call 89; refine (HMk.out W' (CA_b hW')).mono ?_; rintro e w'' ⟨rfl, hb⟩; exact ⟨rfl, CA_call hb hW'⟩)
                     | (go_at_call 65; refine (HCk.out W' (CA_b hW')).mono ?_; rintro e w'' ⟨rfl, hb⟩; exact ⟨rfl, CA_call hb hW'⟩)
                 go_big_quiet_on
                 try simp only [Act.put, List.setIfInBounds_toArray, List.set_cons_zero, List.set_cons_succ]))
            refine wpQuiet_nil ?_
            intro w2 hS2'
            have hS2 : CA wr.heap.size b (off + j * 4) ⟨s, kk, nn, tt⟩ ⟨s', kk', nn', tt'⟩ w w2 := hS2'
            have HBB : Hid (Below w.heap.size w _) := CA_b hS2
            clear hS hS2 hS2'
            go_wp2
            go_roundw
            case rel => exact ⟨rfl, j + 1 + 1, by omega, by simp, HO2.out (by trivial) hc0, HBB.out⟩
            case measure => simp [intOf]; omega
          · have q6 : decide ((0 : Int) ≤ c) = true := by simp; omega
            go_wp2_with fail
            generalize wr.alloc (.cells #[.string s, .int .i64 kk, .int .i64 nn, .string tt] 78) = W at *
            refine wp_region_quiet (C := fun w' => CA wr.heap.size b (off + j * 4) ⟨s, kk, nn, tt⟩ ⟨s', kk', nn', tt'⟩ w w') (by kernel_rfl) (by kernel_rfl) (CA_drew hS) ?_
            dsimp only
            repeat (first
              | go_big_quiet_skip
              | (go_big_quiet_want
                 apply Exists.intro
                 refine ⟨fun W' hW' => ?_, ?_⟩
                 · have hW2 : CA wr.heap.size b (off + j * 4) ⟨s, kk, nn, tt⟩ ⟨s', kk', nn', tt'⟩ w W' := hW'
                   obtain ⟨g0, g1, g2, g3, -, g4, -, -⟩ := hW2
                   go_simp
                   first
                     | done
                     | rfl
                     | (go_at_call 89; refine (HMk.out W' (CA_b hW')).mono ?_; rintro e w'' ⟨rfl, hb⟩; exact ⟨rfl, CA_call hb hW'⟩)
                     | (go_at_call 65; refine (HCk.out W' (CA_b hW')).mono ?_; rintro e w'' ⟨rfl, hb⟩; exact ⟨rfl, CA_call hb hW'⟩)
                 go_big_quiet_on
                 try simp only [Act.put, List.setIfInBounds_toArray, List.set_cons_zero, List.set_cons_succ]))
            refine wpQuiet_nil ?_
            intro w2 hS2'
            have hS2 : CA wr.heap.size b (off + j * 4) ⟨s, kk, nn, tt⟩ ⟨s', kk', nn', tt'⟩ w w2 := hS2'
            have HBB : Hid (Below w.heap.size w _) := CA_b hS2
            clear hS hS2 hS2'
            go_wp2
            go_ret
            exact ⟨by rw [HNo.out (.inr hc0)]; rfl, HBB.out⟩
    · have hk' : k = l.length := by omega
      subst hk'
      have dk : decide ((l.length : Int) < l.length) = false := by simp
      have hyes : chkA l = true := by unfold chkA; rw [decide_eq_true h24, decide_eq_true (fun k h => HO.out k h h)]; rfl
      clear HO
      have HBB : Hid (Below w.heap.size w wr) := hB
      clear hB
      go_wp2
      go_ret
      exact ⟨by rw [hyes]; rfl, HBB.out⟩
end Go.Proofs.YtacpllmlpmllbaaGreatDoor
/- schema.Find: its walk. -/
namespace Go.Proofs.YtacpllmlpmllbaaGreatDoor
open Go.RowKit

theorem new_at (w : World) (o : Obj) : (w.alloc o).heap[w.heap.size]? = some o := by show (w.heap.push o)[w.heap.size]? = some o; simp
theorem z3 {w : World} {b : Nat} {x y z : Value} {t : TypeId} (h : w.heap[b]? = some (.cells #[x, y, z] t)) :
    w.cell? ⟨b, 0, none⟩ = some x ∧ w.cell? ⟨b, 1, none⟩ = some y ∧ w.cell? ⟨b, 2, none⟩ = some z ∧ w.frozen? ⟨b, 0, none⟩ = false ∧ w.frozen? ⟨b, 1, none⟩ = false ∧ w.frozen? ⟨b, 2, none⟩ = false :=
  ⟨by rw [Lib.cell_of_heap h]; rfl, by rw [Lib.cell_of_heap h]; rfl, by rw [Lib.cell_of_heap h]; rfl, by simp [World.frozen?, h], by simp [World.frozen?, h], by simp [World.frozen?, h]⟩
end Go.Proofs.YtacpllmlpmllbaaGreatDoor
/- schema.Get: its walk. -/
namespace Go.Proofs.YtacpllmlpmllbaaGreatDoor
open Go.RowKit

theorem z4 {w : World} {b : Nat} {x y z u : Value} {t : TypeId} (h : w.heap[b]? = some (.cells #[x, y, z, u] t)) :
    w.cell? ⟨b, 0, none⟩ = some x ∧ w.cell? ⟨b, 1, none⟩ = some y ∧ w.cell? ⟨b, 2, none⟩ = some z ∧ w.cell? ⟨b, 3, none⟩ = some u :=
  ⟨by rw [Lib.cell_of_heap h]; rfl, by rw [Lib.cell_of_heap h]; rfl, by rw [Lib.cell_of_heap h]; rfl, by rw [Lib.cell_of_heap h]; rfl⟩
end Go.Proofs.YtacpllmlpmllbaaGreatDoor
/- schema.isIn, schema.Within: walks. -/
namespace Go.Proofs.YtacpllmlpmllbaaGreatDoor
open Go.RowKit

end Go.Proofs.YtacpllmlpmllbaaGreatDoor
/- schema.Fits: its walk. -/
namespace Go.Proofs.YtacpllmlpmllbaaGreatDoor
open Go.RowKit

end Go.Proofs.YtacpllmlpmllbaaGreatDoor
/- schema.kindOf, schema.parseField: walks. -/
namespace Go.Proofs.YtacpllmlpmllbaaGreatDoor
open Go.RowKit

end Go.Proofs.YtacpllmlpmllbaaGreatDoor
/- schema.parseField: its walk. -/
namespace Go.Proofs.YtacpllmlpmllbaaGreatDoor
open Go.RowKit

end Go.Proofs.YtacpllmlpmllbaaGreatDoor
/- schema.Parse: its walk. -/
namespace Go.Proofs.YtacpllmlpmllbaaGreatDoor
open Go.RowKit

theorem wpl_appE {P : Program} (wr : World) {ops : Array Oper} {rest : List Oper} {o : Oper} {a : Act} {Q : Exit → Act → World → Prop} (hgd : o.guard = none) (s x : Operand) (t e : TypeId)
    (ho : o.op = .call { callee := .builtin .append, args := #[s, x], argTypes := #[t, t] })
    (i : TypeInfo) (z : Value) (size bytes : Nat) (ht : P.underlying t = some (.slice e)) (hi : P.info? e = some i) (hz : i.zero = some z)
    (hsize : i.size = size) (hby : i.bytes = bytes) (hzs : z.cells.size = size) (hsz : 0 < size)
    (base : Nat) (v : Value) (n : Nat) (xs : List Value) (hs : a.eval s = v) (hown : wr.ownsRow base e size v n xs)
    (es : List Value) (hes : es.length = size) (C : Array Value) (hC : C = es.toArray) (hx : a.eval x = .slice (some ⟨wr.heap.size, 0, none⟩) 1 1) (h1 : ∀ u ∈ es, u.oneCell' = true)
    (hbytes : (n + 1) * bytes ≤ 140737488355328) (h63 : n + 1 ≤ maxLen) (hbase : base ≤ wr.heap.size)
    (h : ∀ v' w', w'.ownsRow base e size v' (n + 1) (xs ++ es) → Below base wr w' → wpList P ops Q rest (a.put o.dst v') w') :
    wpList P ops Q (o :: rest) a (wr.alloc (.cells C e)) := by
  subst hC
  refine wpList_append_own _ hgd s x t ho base e i z size bytes ht hi hz hsize hby hzs hsz v n xs hs (hown.alloc _) ⟨wr.heap.size, 0, none⟩ 1 1 es hx (by omega) ?_ h1 h63 hbytes ?_ ?_
  · intro j u hj
    have : (⟨wr.heap.size, 0, none⟩ : Addr).add j = ⟨wr.heap.size, j, none⟩ := by unfold Addr.add; split <;> simp_all
    rw [this]
    simp
    exact hj
  · simp; omega
  · intro v' w' h2 h3 _
    exact h v' w' h2 (((Below.refl _ _).alloc hbase _).grown h3 (by simp; omega) (fun k hk => (hown.lt k hk).1))
def sVals (l : List ByteArray) : List Value := l.map Value.string
end Go.Proofs.YtacpllmlpmllbaaGreatDoor
/- schema.Merge where it tells an error: its walk. -/
namespace Go.Proofs.YtacpllmlpmllbaaGreatDoor
open Go.RowKit

end Go.Proofs.YtacpllmlpmllbaaGreatDoor
/- The law's awake: its walk. -/
namespace Go.Proofs.YtacpllmlpmllbaaGreatDoor
open Go.RowKit

end Go.Proofs.YtacpllmlpmllbaaGreatDoor
/- The law's Few and FewAttrs: walks. -/
namespace Go.Proofs.YtacpllmlpmllbaaGreatDoor
open Go.RowKit

def okW (l : List Fd) (k : Nat) (h : k < l.length) : Prop := k ≤ 40 ∧ l[k].n.size ≤ 200
instance (l : List Fd) (k : Nat) (h : k < l.length) : Decidable (okW l k h) := by unfold okW; exact inferInstance
def okWA (l : List At) (k : Nat) (h : k < l.length) : Prop := k ≤ 40 ∧ l[k].n.size ≤ 200 ∧ l[k].s.size ≤ 500
instance (l : List At) (k : Nat) (h : k < l.length) : Decidable (okWA l k h) := by unfold okWA; exact inferInstance
def fewA (l : List At) : Bool := decide (∀ (k : Nat) (h : k < l.length), okWA l k h)
theorem fewA_no {l : List At} {k : Nat} (h : k < l.length) (hn : ¬ okWA l k h) : fewA l = false := decide_eq_false fun hh => hn (hh k h)
set_option maxRecDepth 100000 in
set_option maxHeartbeats 2000000 in
theorem fewA_any (v : Value) (l : List At) (w : World) (hr : IsRow w 4 v l.length (aCells l)) (hl : l.length ≤ 140737488355328) :
    Calls Tryz.prog 23 #[v] w fun e w' => e = .returned (.bool (fewA l)) ∧ w' = w := by
  obtain ⟨a0, cap0, rfl⟩ := hr.form
  have HR : Hid (IsRow w 4 (.slice a0 l.length cap0) l.length (aCells l)) := hr
  clear hr
  go_enter Tryz.func23, Tryz.ntmps23
  go_wp2_with fail
  go_loopw [2, 3] (fun r i wr => r = .bool false ∧ ∃ k : Nat, k ≤ l.length ∧ k ≤ 41 ∧ i = .int .i64 (k : Int) ∧ Hid (∀ (j : Nat) (h : j < l.length), j < k → okWA l j h) ∧ w = wr) (fun _ i _ => l.length - (intOf i).toNat)
  case atStart => exact ⟨rfl, 0, Nat.zero_le _, by omega, rfl, fun j h hj => absurd hj (Nat.not_lt_zero _), rfl⟩
  case round =>
    obtain ⟨rfl, k, hk, hk41, rfl, HO, rfl⟩ := hrel
    by_cases hlk : k < l.length
    · have dk : decide ((k : Int) < l.length) = true := by simp; omega
      obtain ⟨b, off, rfl, hlt, hcap, hc⟩ := a_at HR.out (by omega)
      obtain ⟨ck0, -, -, ck3⟩ := hc k hlk
      have HN : Hid (¬ okWA l k hlk → fewA l = false) := fewA_no hlk
      by_cases h40 : k ≤ 40
      · have d40 : decide ((40 : Int) < (k : Int)) = false := by simp; omega
        by_cases h200 : l[k].n.size ≤ 200
        · have d200 : decide ((200 : Int) < (l[k].n.size : Int)) = false := by simp; omega
          by_cases h500 : l[k].s.size ≤ 500
          · have d500 : decide ((500 : Int) < (l[k].s.size : Int)) = false := by simp; omega
            have HO2 : Hid (∀ (j : Nat) (h : j < l.length), j < k + 1 → okWA l j h) := fun j h hj => by
              by_cases e : j = k
              · subst e; exact ⟨h40, h200, h500⟩
              · exact HO.out j h (by omega)
            generalize l[k].n = nm at *
            generalize l[k].s = tx at *
            clear hc HO h200 h500 HN
            go_wp2
            go_roundw
            case rel => exact ⟨rfl, k + 1, by omega, by omega, by simp, HO2, trivial⟩
            case measure => simp [intOf]; omega
          · have d500 : decide ((500 : Int) < (l[k].s.size : Int)) = true := by simp; omega
            have HNn : Hid (fewA l = false) := HN.out fun h => h500 h.2.2
            generalize l[k].n = nm at *
            generalize l[k].s = tx at *
            clear hc HO h200 h500 HN
            go_wp2
            go_ret
            exact ⟨by rw [HNn.out]; rfl, rfl⟩
        · have d200 : decide ((200 : Int) < (l[k].n.size : Int)) = true := by simp; omega
          have HNn : Hid (fewA l = false) := HN.out fun h => h200 h.2.1
          generalize l[k].n = nm at *
          clear hc HO h200 HN
          go_wp2
          go_ret
          exact ⟨by rw [HNn.out]; rfl, rfl⟩
      · have d40 : decide ((40 : Int) < (k : Int)) = true := by simp; omega
        have HNn : Hid (fewA l = false) := HN.out fun h => h40 h.1
        clear hc HO HN
        go_wp2
        go_ret
        exact ⟨by rw [HNn.out]; rfl, rfl⟩
    · have hk' : k = l.length := by omega
      subst hk'
      have dk : decide ((l.length : Int) < l.length) = false := by simp
      have HY : Hid (fewA l = true) := decide_eq_true fun j hj => HO.out j hj hj
      clear HO
      go_wp2
      go_ret
      exact ⟨by rw [HY.out]; rfl, rfl⟩
end Go.Proofs.YtacpllmlpmllbaaGreatDoor
/- The law's Refs; the reference's Same of fields: walks. -/
namespace Go.Proofs.YtacpllmlpmllbaaGreatDoor
open Go.RowKit

end Go.Proofs.YtacpllmlpmllbaaGreatDoor
/- The reference's Same of fields: its walk. -/
namespace Go.Proofs.YtacpllmlpmllbaaGreatDoor
open Go.RowKit

end Go.Proofs.YtacpllmlpmllbaaGreatDoor
/- forest.counts, IsID, climb: walks. -/
namespace Go.Proofs.YtacpllmlpmllbaaGreatDoor
open Go.RowKit

def cntI (n : Int) : Bool := decide (1 ≤ n) && decide (n ≤ 1099511627775)
/-- May an identity be? -/
def idB (a b c : Int) : Bool := decide (1 ≤ a) && (decide (a ≤ 15) && (cntI b && cntI c))
abbrev idV (a b c : Int) : Value := .agg #[.int .i64 a, .int .i64 b, .int .i64 c]
theorem countsI_any (n : Int) (w : World) : Calls Tryz.prog 86 #[.int .i64 n] w fun e w' => e = .returned (.bool (cntI n)) ∧ w' = w := by
  by_cases h1 : 1 ≤ n
  · have d1 : decide (1 ≤ n) = true := decide_eq_true h1
    have e : cntI n = decide (n ≤ 1099511627775) := by unfold cntI; rw [d1, Bool.true_and]
    rw [e]
    clear e
    go_enter Tryz.func86, Tryz.ntmps86
    go_wp2
    go_ret
    exact ⟨rfl, rfl⟩
  · have d1 : decide (1 ≤ n) = false := decide_eq_false h1
    have e : cntI n = false := by unfold cntI; rw [d1, Bool.false_and]
    rw [e]
    clear e
    go_enter Tryz.func86, Tryz.ntmps86
    go_wp2
    go_ret
    exact ⟨rfl, rfl⟩
set_option maxRecDepth 100000 in
set_option maxHeartbeats 1000000 in
theorem isID_any (a b c : Int) (w : World) : Calls Tryz.prog 41 #[idV a b c] w fun e w' => e = .returned (.bool (idB a b c)) ∧ Below w.heap.size w w' := by
  have HB : Hid (Below w.heap.size w (w.alloc (.cells #[.int .i64 a, .int .i64 b, .int .i64 c] 23))) := al_b w _
  have HC : Hid (∀ n W, Calls Tryz.prog 86 #[.int .i64 n] W fun e w' => e = .returned (.bool (cntI n)) ∧ w' = W) := fun n W => countsI_any n W
  by_cases h1 : 1 ≤ a
  · have d1 : decide (1 ≤ a) = true := decide_eq_true h1
    by_cases h2 : a ≤ 15
    · have d2 : decide (a ≤ 15) = true := decide_eq_true h2
      have e0 : idB a b c = (cntI b && cntI c) := by unfold idB; rw [d1, d2, Bool.true_and, Bool.true_and]
      rw [e0]
      cases hb : cntI b
      · rw [Bool.false_and]
        have HCb := HC.out b
        rw [hb] at HCb
        clear e0 hb h1 h2
        go_enter Tryz.func41, Tryz.ntmps41
        go_wp2_with fail
        refine (HCb _).mono ?_
        rintro e w1 ⟨rfl, h1⟩
        obtain rfl := h1.symm
        go_wp2
        go_ret
        exact ⟨rfl, HB.out⟩
      · rw [Bool.true_and]
        have HCb := HC.out b
        rw [hb] at HCb
        have HCc := HC.out c
        generalize cntI c = cc at *
        clear e0 hb h1 h2 HC
        go_enter Tryz.func41, Tryz.ntmps41
        go_wp2_with fail
        refine (HCb _).mono ?_
        rintro e w1 ⟨rfl, h1⟩
        obtain rfl := h1.symm
        go_wp2_with fail
        refine (HCc _).mono ?_
        rintro e w2 ⟨rfl, h2⟩
        obtain rfl := h2.symm
        go_wp2
        go_ret
        exact ⟨rfl, HB.out⟩
    · have d2 : decide (a ≤ 15) = false := decide_eq_false h2
      have e0 : idB a b c = false := by unfold idB; rw [d1, d2, Bool.true_and, Bool.false_and]
      rw [e0]
      clear e0 HC h1 h2
      go_enter Tryz.func41, Tryz.ntmps41
      go_wp2
      go_ret
      exact ⟨rfl, HB.out⟩
  · have d1 : decide (1 ≤ a) = false := decide_eq_false h1
    have e0 : idB a b c = false := by unfold idB; rw [d1, Bool.false_and]
    rw [e0]
    clear e0 HC h1
    go_enter Tryz.func41, Tryz.ntmps41
    go_wp2
    go_ret
    exact ⟨rfl, HB.out⟩
end Go.Proofs.YtacpllmlpmllbaaGreatDoor
/- slices.Equal at fields: its walk (EO over again). -/
namespace Go.Proofs.YtacpllmlpmllbaaGreatDoor
open Go.RowKit

end Go.Proofs.YtacpllmlpmllbaaGreatDoor
/- forest.Check at any type: its walk. -/
namespace Go.Proofs.YtacpllmlpmllbaaGreatDoor
open Go.RowKit

/-- A type, plainly. -/
structure Ty where
  n : ByteArray
  p : ByteArray
  own : List Fd
  all : List Fd
  ch : List ByteArray
  nd : Int
  lf : Int
  sq : Int
abbrev tyA (t : Ty) (vo va vc : Value) : Array Value := #[.string t.n, .string t.p, vo, va, vc, .int .i64 t.nd, .int .i64 t.lf, .int .i64 t.sq]
abbrev tyV (t : Ty) (vo va vc : Value) : Value := .agg (tyA t vo va vc)
/-- The rows of a type. -/
def IsTy (w : World) (t : Ty) (vo va vc : Value) : Prop := IsRow w 3 vo t.own.length (fCells t.own) ∧ IsRow w 3 va t.all.length (fCells t.all) ∧ IsRow w 1 vc t.ch.length (sVals t.ch)
theorem IsTy.below {w w' : World} {t : Ty} {vo va vc : Value} (h : IsTy w t vo va vc) (hb : Below w.heap.size w w') : IsTy w' t vo va vc := ⟨h.1.below hb, h.2.1.below hb, h.2.2.below hb⟩
/-- It is not too great to be looked at. -/
structure NmT (t : Ty) : Prop where
  n : t.n.size ≤ 1000000
  p : t.p.size ≤ 1000000
  c : ∀ s ∈ t.ch, s.size ≤ 1000000
  o : NmF t.own
  a : NmF t.all
  lo : t.own.length ≤ 1000000
  la : t.all.length ≤ 1000000
  lc : t.ch.length ≤ 1000000
end Go.Proofs.YtacpllmlpmllbaaGreatDoor
/- How bytes stand: plain. -/
namespace Go.Proofs.YtacpllmlpmllbaaGreatDoor
open Go.RowKit

end Go.Proofs.YtacpllmlpmllbaaGreatDoor
/- Fields that are sorted: plain mathematics of a merge. -/
namespace Go.Proofs.YtacpllmlpmllbaaGreatDoor
open Go.RowKit

/-! ### what fits a part fits the whole -/
end Go.Proofs.YtacpllmlpmllbaaGreatDoor
/- Types and forests: plain mathematics. -/
namespace Go.Proofs.YtacpllmlpmllbaaGreatDoor
open Go.RowKit

/-! ### what two schemas make together -/
/-! ### names -/
/-! ### places -/
/-- The type of a name. -/
def parN (l : List Ty) (s : ByteArray) : Option Ty := l.find? fun u => sameL u.n.data.toList s.data.toList
/-! ### forests -/
def zT : Ty := ⟨⟨#[]⟩, ⟨#[]⟩, [], [], [], 0, 0, 0⟩
def insT (l : List Ty) (k : Nat) (t : Ty) : List Ty := l.take k ++ t :: l.drop k
end Go.Proofs.YtacpllmlpmllbaaGreatDoor
/- What is made can be added: plain mathematics of forests. -/
namespace Go.Proofs.YtacpllmlpmllbaaGreatDoor
open Go.RowKit

end Go.Proofs.YtacpllmlpmllbaaGreatDoor
/- Chains of a forest: plain mathematics. -/
namespace Go.Proofs.YtacpllmlpmllbaaGreatDoor
open Go.RowKit

end Go.Proofs.YtacpllmlpmllbaaGreatDoor
/- slices.Clone, slices.Grow of nothing, slices.Concat of two, at fields: walks. -/
namespace Go.Proofs.YtacpllmlpmllbaaGreatDoor
open Go.RowKit Go.ChangeMaps

end Go.Proofs.YtacpllmlpmllbaaGreatDoor
/- slices.Clone at names; a type in memory: walks. -/
namespace Go.Proofs.YtacpllmlpmllbaaGreatDoor
open Go.RowKit Go.ChangeMaps

/-- A type whose rows are owned. -/
def OwnTy (base : Nat) (w : World) (t : Ty) (vo va vc : Value) : Prop := w.ownsRow base 110 3 vo t.own.length (fCells t.own) ∧ w.ownsRow base 110 3 va t.all.length (fCells t.all) ∧ w.ownsRow base 9 1 vc t.ch.length (sVals t.ch)
theorem OwnTy.is {base : Nat} {w : World} {t : Ty} {vo va vc : Value} (h : OwnTy base w t vo va vc) : IsTy w t vo va vc := ⟨IsRow.own h.1, IsRow.own h.2.1, IsRow.own h.2.2⟩
theorem own_leT {w : World} {base base' : Nat} {e : TypeId} {sz : Nat} {v : Value} {n : Nat} {xs : List Value} (h : w.ownsRow base e sz v n xs) (hb : base' ≤ base) : w.ownsRow base' e sz v n xs :=
  ⟨h.1, h.2.imp id fun ⟨g, cap, cur, a, b, c⟩ => ⟨g, cap, cur, a, Nat.le_trans hb b, c⟩⟩
/-- The box of a type, cell by cell. -/
def BxT (g : Nat) (t : Ty) (vo va vc : Value) (w : World) : Prop := (w.cell? ⟨g, 0, none⟩ = some (.string t.n) ∧ w.cell? ⟨g, 1, none⟩ = some (.string t.p) ∧ w.cell? ⟨g, 2, none⟩ = some vo ∧ w.cell? ⟨g, 3, none⟩ = some va) ∧ w.cell? ⟨g, 4, none⟩ = some vc ∧ w.cell? ⟨g, 5, none⟩ = some (.int .i64 t.nd) ∧ w.cell? ⟨g, 6, none⟩ = some (.int .i64 t.lf) ∧ w.cell? ⟨g, 7, none⟩ = some (.int .i64 t.sq)
theorem BxT.of {g : Nat} {t : Ty} {vo va vc : Value} {w : World} (h : w.heap[g]? = some (.cells (tyA t vo va vc) 67 (0, 0))) : BxT g t vo va vc w := by
  have c : ∀ j, w.cell? ⟨g, j, none⟩ = (tyA t vo va vc)[j]? := fun j => by rw [Lib.cell_of_heap h]
  exact ⟨⟨c 0, c 1, c 2, c 3⟩, c 4, c 5, c 6, c 7⟩
theorem BxT.set {g : Nat} {t : Ty} {vo va vc : Value} {w : World} (h : BxT g t vo va vc w) (v1 v2 v3 : Value) : BxT g t v1 v2 v3 (((w.setCell ⟨g, 2, none⟩ v1).setCell ⟨g, 3, none⟩ v2).setCell ⟨g, 4, none⟩ v3) := by
  have o : ∀ (w : World) (i j : Nat) (v : Value), i ≠ j → (w.setCell ⟨g, i, none⟩ v).cell? ⟨g, j, none⟩ = w.cell? ⟨g, j, none⟩ := fun w i j v hij => World.cell?_setCell_other _ _ _ _ (by simp only [ne_eq, Addr.mk.injEq, not_and]; intro _ e; omega)
  obtain ⟨⟨c0, c1, c2, c3⟩, c4, c5, c6, c7⟩ := h
  refine ⟨⟨?_, ?_, ?_, ?_⟩, ?_, ?_, ?_, ?_⟩
  · rw [o _ _ _ _ (by decide), o _ _ _ _ (by decide), o _ _ _ _ (by decide)]; exact c0
  · rw [o _ _ _ _ (by decide), o _ _ _ _ (by decide), o _ _ _ _ (by decide)]; exact c1
  · rw [o _ _ _ _ (by decide), o _ _ _ _ (by decide)]; exact World.cell?_setCell_same _ _ _ c2
  · rw [o _ _ _ _ (by decide)]; exact World.cell?_setCell_same _ _ _ ((o _ _ _ _ (by decide)).trans c3)
  · exact World.cell?_setCell_same _ _ _ ((o _ _ _ _ (by decide)).trans ((o _ _ _ _ (by decide)).trans c4))
  · rw [o _ _ _ _ (by decide), o _ _ _ _ (by decide), o _ _ _ _ (by decide)]; exact c5
  · rw [o _ _ _ _ (by decide), o _ _ _ _ (by decide), o _ _ _ _ (by decide)]; exact c6
  · rw [o _ _ _ _ (by decide), o _ _ _ _ (by decide), o _ _ _ _ (by decide)]; exact c7
theorem OwnTy.set {base : Nat} {w : World} {t : Ty} {vo va vc : Value} (h : OwnTy base w t vo va vc) {g : Nat} (hg : g < base) (j : Nat) (v : Value) : OwnTy base (w.setCell ⟨g, j, none⟩ v) t vo va vc :=
  ⟨ownsRow_setCell_below h.1 hg v, ownsRow_setCell_below h.2.1 hg v, ownsRow_setCell_below h.2.2 hg v⟩
theorem OwnTy.le {base base' : Nat} {w : World} {t : Ty} {vo va vc : Value} (h : OwnTy base w t vo va vc) (hb : base' ≤ base) : OwnTy base' w t vo va vc := ⟨own_leT h.1 hb, own_leT h.2.1 hb, own_leT h.2.2 hb⟩
end Go.Proofs.YtacpllmlpmllbaaGreatDoor
/- Rows of types; slices.BinarySearchFunc at them, place, parentOf: walks. -/
namespace Go.Proofs.YtacpllmlpmllbaaGreatDoor
open Go.RowKit Go.ChangeMaps

/-- A type that lies somewhere: where its rows are. -/
structure LT where
  t : Ty
  ao : Option Addr
  co : Nat
  aa : Option Addr
  ca : Nat
  ac : Option Addr
  cc : Nat
abbrev LT.vo (x : LT) : Value := .slice x.ao x.t.own.length x.co
abbrev LT.va (x : LT) : Value := .slice x.aa x.t.all.length x.ca
abbrev LT.vc (x : LT) : Value := .slice x.ac x.t.ch.length x.cc
def enT (x : LT) : List Value := [.string x.t.n, .string x.t.p, x.vo, x.va, x.vc, .int .i64 x.t.nd, .int .i64 x.t.lf, .int .i64 x.t.sq]
abbrev ltV (x : LT) : Value := tyV x.t x.vo x.va x.vc
def tCells (L : List LT) : List Value := L.flatMap enT
def tys (L : List LT) : List Ty := L.map LT.t
/-- Types in memory. -/
def IsTys (w : World) (v : Value) (L : List LT) : Prop := IsRow w 8 v L.length (tCells L) ∧ ∀ x ∈ L, IsTy w x.t x.vo x.va x.vc
theorem IsTys.below {w w' : World} {v : Value} {L : List LT} (h : IsTys w v L) (hb : Below w.heap.size w w') : IsTys w' v L := ⟨h.1.below hb, fun x hx => (h.2 x hx).below hb⟩
end Go.Proofs.YtacpllmlpmllbaaGreatDoor
/- slices.Concat of two rows of fields: its walk. -/
namespace Go.Proofs.YtacpllmlpmllbaaGreatDoor
open Go.RowKit Go.ChangeMaps

end Go.Proofs.YtacpllmlpmllbaaGreatDoor
/- How often the tape was asked never falls: of one operation. -/
namespace Go.Proofs.YtacpllmlpmllbaaGreatDoor
end Go.Proofs.YtacpllmlpmllbaaGreatDoor
/- How often the tape was asked never falls: of one step of a goroutine, in its parts (stepG.exec, stepG itself and the machine's step are left). -/
namespace Go.Proofs.YtacpllmlpmllbaaGreatDoor
end Go.Proofs.YtacpllmlpmllbaaGreatDoor
