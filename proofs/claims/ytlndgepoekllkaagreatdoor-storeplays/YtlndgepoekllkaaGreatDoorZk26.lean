/- The reference's Check of fields, its Find: walks. -/
import Derived.Test.YtlndgepoekllkaaGreatDoorZk25
import Derived.Test.YtlndgepoekllkaaGreatDoorZk9
import Derived.Deep.QuietTactic
namespace Go.Proofs.YtlndgepoekllkaaGreatDoor
open Go.RowKit

/-- A field and the one ahead of it, where they lie. -/
def CR (b o o2 : Nat) (x y : Fd) (w0 w : World) : Prop := (w.cell? ⟨b, o, none⟩ = some (.string x.n) ∧ w.cell? ⟨b, o + 1, none⟩ = some (.int .i64 x.k) ∧ w.cell? ⟨b, o + 2, none⟩ = some (.bool x.m) ∧ w.cell? ⟨b, o2, none⟩ = some (.string y.n)) ∧ b < w.heap.size ∧ Below w0.heap.size w0 w
theorem CR_call {b o o2 : Nat} {x y : Fd} {w0 W w' : World} (hb : Below W.heap.size W w') (h : CR b o o2 x y w0 W) : CR b o o2 x y w0 w' := by
  obtain ⟨⟨c0, c1, c2, c3⟩, l, B⟩ := h
  exact ⟨⟨(hb.cell (p := ⟨b, o, none⟩) l).trans c0, (hb.cell (p := ⟨b, o + 1, none⟩) l).trans c1, (hb.cell (p := ⟨b, o + 2, none⟩) l).trans c2, (hb.cell (p := ⟨b, o2, none⟩) l).trans c3⟩, Nat.lt_of_lt_of_le l hb.size, B.trans (hb.mono B.size)⟩
theorem CR_drew {b o o2 : Nat} {x y : Fd} {w0 W : World} (h : CR b o o2 x y w0 W) : CR b o o2 x y w0 W.drew := CR_call (Below.refl _ _).drew h
def NmR (l : List Fd) : Prop := ∀ x ∈ l, x.n.size ≤ 200000
theorem allF (l : List Fd) (h : ∀ (k : Nat) (h : k < l.length), okF l k h) : chkF l = decide (l.length ≤ 24) := by unfold chkF; rw [decide_eq_true h, Bool.and_true]
set_option maxRecDepth 100000 in
set_option maxHeartbeats 2000000 in
theorem refCheckF_any (v : Value) (l : List Fd) (w : World) (hr : IsRow w 3 v l.length (fCells l)) (hl : l.length ≤ 1000000) (hn : NmR l) :
    Calls Tryz.prog 71 #[v] w fun e w' => e = .returned (.bool (chkF l)) ∧ Below w.heap.size w w' := by
  obtain ⟨a0, cap0, rfl⟩ := hr.form
  have HR : Hid (IsRow w 3 (.slice a0 l.length cap0) l.length (fCells l)) := hr
  have HK : Hid (∀ (k : Nat) (h : k < l.length) (w' : World), Calls Tryz.prog 90 #[fV l[k]] w' fun e w'' => e = .returned (.bool (mayF l[k])) ∧ Below w'.heap.size w' w'') := fun k h w' => refMay_any _ w' (by have := hn _ (List.getElem_mem h); omega)
  have HC : Hid (∀ (j k : Nat) (h1 : j < l.length) (h : k < l.length) (w' : World), Calls Tryz.prog 76 #[.string l[j].n, .string l[k].n] w' fun e w'' => e = .returned (.int .i64 (cmpL l[j].n.data.toList l[k].n.data.toList)) ∧ Below w'.heap.size w' w'') := fun j k h1 h w' => refCompare_any _ _ w' (hn _ (List.getElem_mem h1)) (hn _ (List.getElem_mem h))
  clear hr hn
  go_enter Tryz.func71, Tryz.ntmps71
  go_wp2_with fail
  go_loopw [2, 3] (fun r i wr => r = .bool false ∧ ∃ k : Nat, k ≤ l.length ∧ i = .int .i64 (k : Int) ∧ Hid (∀ (j : Nat) (h : j < l.length), j < k → okF l j h) ∧ Below w.heap.size w wr) (fun _ i _ => l.length - (intOf i).toNat)
  case atStart => exact ⟨rfl, 0, Nat.zero_le _, rfl, fun j h hj => absurd hj (Nat.not_lt_zero _), Below.refl _ _⟩
  case round =>
    obtain ⟨rfl, k, hk, rfl, HO, hB⟩ := hrel
    by_cases hlk : k < l.length
    · have dk : decide ((k : Int) < l.length) = true := by simp; omega
      obtain ⟨b, off, rfl, hlt, hcap, hc⟩ := f_at (HR.out.below hB) (by omega)
      obtain ⟨ck0, ck1, ck2⟩ := hc k hlk
      have HMk : Hid (∀ w', Calls Tryz.prog 90 #[fV l[k]] w' fun e w'' => e = .returned (.bool (mayF l[k])) ∧ Below w'.heap.size w' w'') := HK.out k hlk
      have q7 : (0 : Int) ≤ (k : Int) := by omega
      have q8 : (k : Int) < (l.length : Int) := by omega
      cases k with
      | zero =>
        rw [Nat.zero_mul, Nat.add_zero] at ck0 ck1 ck2
        have hS : CR b off off l[0] l[0] w wr := ⟨⟨ck0, ck1, ck2, ck0⟩, hlt, hB⟩
        have hok : okF l 0 hlk ↔ mayF l[0] = true := ⟨fun h => h.1, fun h => ⟨h, fun j e => absurd e (by omega)⟩⟩
        have HO2 : Hid (mayF l[0] = true → ∀ (j : Nat) (h : j < l.length), j < 0 + 1 → okF l j h) := fun hm j h hj => by
          obtain rfl : j = 0 := by omega
          exact hok.2 hm
        have HNo : Hid (mayF l[0] = false → chkF l = false) := fun hm => chkF_no (k := 0) hlk fun h => by rw [hok.1 h] at hm; cases hm
        generalize mayF l[0] = r at *
        generalize l[0]'hlk = x at *
        obtain ⟨s, kk, m⟩ := x
        clear hok hc HO
        have dk0 : decide ((0 : Int) < (l.length : Int)) = true := decide_eq_true (by omega)
        have hS0 := CR_drew hS
        cases r with
        | false =>
          go_wp2_with fail
          refine wp_region_quiet (C := fun w' => CR b off off ⟨s, kk, m⟩ ⟨s, kk, m⟩ w w') (by kernel_rfl) (by kernel_rfl) hS0 ?_
          dsimp only
          repeat (first
            | go_big_quiet_skip
            | (go_big_quiet_want
               apply Exists.intro
               refine ⟨fun W' hW' => ?_, ?_⟩
               · obtain ⟨⟨g0, g1, g2, g3⟩, -, -⟩ := (show CR b off off ⟨s, kk, m⟩ ⟨s, kk, m⟩ w W' from hW')
                 go_simp
                 first
                   | done
                   | rfl
                   | (go_at_call 90; refine (HMk.out W').mono ?_; rintro e w'' ⟨rfl, hb⟩; exact ⟨rfl, CR_call hb hW'⟩)
               go_big_quiet_on
               try simp only [Act.put, List.setIfInBounds_toArray, List.set_cons_zero, List.set_cons_succ]))
          refine wpQuiet_nil ?_
          intro w2 hS2
          have HBB : Hid (Below w.heap.size w _) := (show CR b off off ⟨s, kk, m⟩ ⟨s, kk, m⟩ w w2 from hS2).2.2
          clear hS hS0 hS2
          go_wp2
          go_ret
          exact ⟨by rw [HNo.out (by trivial)]; rfl, HBB.out⟩
        | true =>
          go_wp2_with fail
          refine wp_region_quiet (C := fun w' => CR b off off ⟨s, kk, m⟩ ⟨s, kk, m⟩ w w') (by kernel_rfl) (by kernel_rfl) hS0 ?_
          dsimp only
          repeat (first
            | go_big_quiet_skip
            | (go_big_quiet_want
               apply Exists.intro
               refine ⟨fun W' hW' => ?_, ?_⟩
               · obtain ⟨⟨g0, g1, g2, g3⟩, -, -⟩ := (show CR b off off ⟨s, kk, m⟩ ⟨s, kk, m⟩ w W' from hW')
                 go_simp
                 first
                   | done
                   | rfl
                   | (go_at_call 90; refine (HMk.out W').mono ?_; rintro e w'' ⟨rfl, hb⟩; exact ⟨rfl, CR_call hb hW'⟩)
               go_big_quiet_on
               try simp only [Act.put, List.setIfInBounds_toArray, List.set_cons_zero, List.set_cons_succ]))
          refine wpQuiet_nil ?_
          intro w2 hS2
          have HBB : Hid (Below w.heap.size w _) := (show CR b off off ⟨s, kk, m⟩ ⟨s, kk, m⟩ w w2 from hS2).2.2
          clear hS hS0 hS2
          go_wp2
          go_roundw
          case rel => exact ⟨rfl, 0 + 1, by omega, by simp, HO2.out (by trivial), HBB.out⟩
          case measure => simp [intOf]; omega
      | succ j =>
        have hj : j < l.length := by omega
        obtain ⟨cj0, -, -⟩ := hc j hj
        have hS : CR b (off + (j + 1) * 3) (off + j * 3) l[j + 1] l[j] w wr := ⟨⟨ck0, ck1, ck2, cj0⟩, hlt, hB⟩
        have HCk : Hid (∀ w', Calls Tryz.prog 76 #[.string l[j].n, .string l[j + 1].n] w' fun e w'' => e = .returned (.int .i64 (cmpL l[j].n.data.toList l[j + 1].n.data.toList)) ∧ Below w'.heap.size w' w'') := HC.out j (j + 1) hj hlk
        have hok : okF l (j + 1) hlk ↔ mayF l[j + 1] = true ∧ cmpL l[j].n.data.toList l[j + 1].n.data.toList < 0 := ⟨fun h => ⟨h.1, h.2 j rfl⟩, fun h => ⟨h.1, fun i e => by cases e; exact h.2⟩⟩
        have HO2 : Hid (mayF l[j + 1] = true → cmpL l[j].n.data.toList l[j + 1].n.data.toList < 0 → ∀ (i : Nat) (h : i < l.length), i < j + 1 + 1 → okF l i h) := fun hm hm2 i h hi => by
          by_cases e : i = j + 1
          · subst e; exact hok.2 ⟨hm, hm2⟩
          · exact HO.out i h (by omega)
        have HNo : Hid (mayF l[j + 1] = false ∨ ¬ cmpL l[j].n.data.toList l[j + 1].n.data.toList < 0 → chkF l = false) := fun hm => chkF_no (k := j + 1) hlk fun h => by
          rcases hm with hm | hm
          · rw [(hok.1 h).1] at hm; cases hm
          · exact hm (hok.1 h).2
        generalize mayF l[j + 1] = r at *
        generalize cmpL l[j].n.data.toList l[j + 1].n.data.toList = c at *
        generalize l[j + 1]'hlk = x at *
        generalize l[j]'hj = y at *
        obtain ⟨s, kk, m⟩ := x
        obtain ⟨s', kk', m'⟩ := y
        clear hok hc HO
        have q1 : IntKind.i64.wrap (j : Int) = (j : Int) := by rw [IntKind.wrap_i64]; omega
        have q2 : (0 : Int) ≤ (j : Int) := by omega
        have q3 : (j : Int) < (l.length : Int) := by omega
        have q4 : (j : Int) + 1 - 1 = (j : Int) := by omega
        have q5 : decide ((0 : Int) < (j : Int) + 1) = true := decide_eq_true (by omega)
        have q9 : (0 : Int) ≤ (j : Int) + 1 := by omega
        have q10 : (j : Int) + 1 < (l.length : Int) := by omega
        have hS0 := CR_drew hS
        cases r with
        | false =>
          go_wp2_with fail
          refine wp_region_quiet (C := fun w' => CR b (off + (j + 1) * 3) (off + j * 3) ⟨s, kk, m⟩ ⟨s', kk', m'⟩ w w') (by kernel_rfl) (by kernel_rfl) hS0 ?_
          dsimp only
          repeat (first
            | go_big_quiet_skip
            | (go_big_quiet_want
               apply Exists.intro
               refine ⟨fun W' hW' => ?_, ?_⟩
               · obtain ⟨⟨g0, g1, g2, g3⟩, -, -⟩ := (show CR b (off + (j + 1) * 3) (off + j * 3) ⟨s, kk, m⟩ ⟨s', kk', m'⟩ w W' from hW')
                 go_simp
                 first
                   | done
                   | rfl
                   | (go_at_call 90; refine (HMk.out W').mono ?_; rintro e w'' ⟨rfl, hb⟩; exact ⟨rfl, CR_call hb hW'⟩)
                   | (go_at_call 76; refine (HCk.out W').mono ?_; rintro e w'' ⟨rfl, hb⟩; exact ⟨rfl, CR_call hb hW'⟩)
               go_big_quiet_on
               try simp only [Act.put, List.setIfInBounds_toArray, List.set_cons_zero, List.set_cons_succ]))
          refine wpQuiet_nil ?_
          intro w2 hS2
          have HBB : Hid (Below w.heap.size w _) := (show CR b (off + (j + 1) * 3) (off + j * 3) ⟨s, kk, m⟩ ⟨s', kk', m'⟩ w w2 from hS2).2.2
          clear hS hS0 hS2
          go_wp2
          go_ret
          exact ⟨by rw [HNo.out (.inl (by trivial))]; rfl, HBB.out⟩
        | true =>
          by_cases hc0 : c < 0
          · have q6 : decide ((0 : Int) ≤ c) = false := by simp; omega
            go_wp2_with fail
            refine wp_region_quiet (C := fun w' => CR b (off + (j + 1) * 3) (off + j * 3) ⟨s, kk, m⟩ ⟨s', kk', m'⟩ w w') (by kernel_rfl) (by kernel_rfl) hS0 ?_
            dsimp only
            repeat (first
              | go_big_quiet_skip
              | (go_big_quiet_want
                 apply Exists.intro
                 refine ⟨fun W' hW' => ?_, ?_⟩
                 · obtain ⟨⟨g0, g1, g2, g3⟩, -, -⟩ := (show CR b (off + (j + 1) * 3) (off + j * 3) ⟨s, kk, m⟩ ⟨s', kk', m'⟩ w W' from hW')
                   go_simp
                   first
                     | done
                     | rfl
                     | (go_at_call 90; refine (HMk.out W').mono ?_; rintro e w'' ⟨rfl, hb⟩; exact ⟨rfl, CR_call hb hW'⟩)
                     | (go_at_call 76; refine (HCk.out W').mono ?_; rintro e w'' ⟨rfl, hb⟩; exact ⟨rfl, CR_call hb hW'⟩)
                 go_big_quiet_on
                 try simp only [Act.put, List.setIfInBounds_toArray, List.set_cons_zero, List.set_cons_succ]))
            refine wpQuiet_nil ?_
            intro w2 hS2
            have HBB : Hid (Below w.heap.size w _) := (show CR b (off + (j + 1) * 3) (off + j * 3) ⟨s, kk, m⟩ ⟨s', kk', m'⟩ w w2 from hS2).2.2
            clear hS hS0 hS2
            go_wp2
            go_roundw
            case rel => exact ⟨rfl, j + 1 + 1, by omega, by simp, HO2.out (by trivial) hc0, HBB.out⟩
            case measure => simp [intOf]; omega
          · have q6 : decide ((0 : Int) ≤ c) = true := by simp; omega
            go_wp2_with fail
            refine wp_region_quiet (C := fun w' => CR b (off + (j + 1) * 3) (off + j * 3) ⟨s, kk, m⟩ ⟨s', kk', m'⟩ w w') (by kernel_rfl) (by kernel_rfl) hS0 ?_
            dsimp only
            repeat (first
              | go_big_quiet_skip
              | (go_big_quiet_want
                 apply Exists.intro
                 refine ⟨fun W' hW' => ?_, ?_⟩
                 · obtain ⟨⟨g0, g1, g2, g3⟩, -, -⟩ := (show CR b (off + (j + 1) * 3) (off + j * 3) ⟨s, kk, m⟩ ⟨s', kk', m'⟩ w W' from hW')
                   go_simp
                   first
                     | done
                     | rfl
                     | (go_at_call 90; refine (HMk.out W').mono ?_; rintro e w'' ⟨rfl, hb⟩; exact ⟨rfl, CR_call hb hW'⟩)
                     | (go_at_call 76; refine (HCk.out W').mono ?_; rintro e w'' ⟨rfl, hb⟩; exact ⟨rfl, CR_call hb hW'⟩)
                 go_big_quiet_on
                 try simp only [Act.put, List.setIfInBounds_toArray, List.set_cons_zero, List.set_cons_succ]))
            refine wpQuiet_nil ?_
            intro w2 hS2
            have HBB : Hid (Below w.heap.size w _) := (show CR b (off + (j + 1) * 3) (off + j * 3) ⟨s, kk, m⟩ ⟨s', kk', m'⟩ w w2 from hS2).2.2
            clear hS hS0 hS2
            go_wp2
            go_ret
            exact ⟨by rw [HNo.out (.inr hc0)]; rfl, HBB.out⟩
    · have hk' : k = l.length := by omega
      subst hk'
      have dk : decide ((l.length : Int) < l.length) = false := by simp
      have HY : Hid (chkF l = decide ((l.length : Int) ≤ 24)) := by
        show _ = _
        rw [allF l (fun k h => HO.out k h h), Bool.eq_iff_iff]; simp; omega
      clear HO
      have HBB : Hid (Below w.heap.size w wr) := hB
      clear hB
      go_wp2
      go_ret
      exact ⟨by rw [HY.out]; rfl, HBB.out⟩
/-- The place of the first field of a name; below 0: none. -/
def FiR (l : List Fd) (s : ByteArray) (r : Int) : Prop := (∃ (k : Nat) (h : k < l.length), r = k ∧ getF l s = some l[k]) ∨ (r = -1 ∧ getF l s = none)
set_option maxRecDepth 100000 in
set_option maxHeartbeats 1000000 in
theorem refFindF_any (v : Value) (l : List Fd) (s : ByteArray) (w : World) (hr : IsRow w 3 v l.length (fCells l)) (hl : l.length ≤ 1000000) (hn : NmR l) (hs : s.size ≤ 200000) :
    Calls Tryz.prog 95 #[v, .string s] w fun e w' => ∃ r, e = .returned (.int .i64 r) ∧ FiR l s r ∧ Below w.heap.size w w' := by
  obtain ⟨a0, cap0, rfl⟩ := hr.form
  have HR : Hid (IsRow w 3 (.slice a0 l.length cap0) l.length (fCells l)) := hr
  have HS : Hid (∀ (k : Nat) (h : k < l.length) (w' : World), Calls Tryz.prog 111 #[.string l[k].n, .string s] w' fun e w'' => e = .returned (.bool (sameL l[k].n.data.toList s.data.toList)) ∧ Below w'.heap.size w' w'') := fun k h w' => refSameN_any _ _ w' (by have := hn _ (List.getElem_mem h); omega) (by omega)
  clear hr hn
  go_enter Tryz.func95, Tryz.ntmps95
  go_wp2_with fail
  go_loopw [4, 5] (fun r i wr => r = .int .i64 0 ∧ ∃ k : Nat, k ≤ l.length ∧ i = .int .i64 (k : Int) ∧ Hid (∀ (j : Nat) (h : j < l.length), j < k → sameL l[j].n.data.toList s.data.toList = false) ∧ Below w.heap.size w wr) (fun _ i _ => l.length - (intOf i).toNat)
  case atStart => exact ⟨rfl, 0, Nat.zero_le _, rfl, fun j h hj => absurd hj (Nat.not_lt_zero _), Below.refl _ _⟩
  case round =>
    obtain ⟨rfl, k, hk, rfl, HO, hB⟩ := hrel
    by_cases hlk : k < l.length
    · have dk : decide ((k : Int) < l.length) = true := by simp; omega
      obtain ⟨b, off, rfl, hlt, hcap, hc⟩ := f_at (HR.out.below hB) (by omega)
      obtain ⟨ck0, -, -⟩ := hc k hlk
      have HSk : Hid (Calls Tryz.prog 111 #[.string l[k].n, .string s] wr fun e w'' => e = .returned (.bool (sameL l[k].n.data.toList s.data.toList)) ∧ Below wr.heap.size wr w'') := HS.out k hlk wr
      have HB : Hid (Below w.heap.size w wr) := hB
      cases hsm : sameL l[k].n.data.toList s.data.toList with
      | true =>
        have HY : Hid (FiR l s k) := .inl ⟨k, hlk, rfl, getF_at hlk HO.out hsm⟩
        rw [hsm] at HSk
        generalize l[k].n = nm at *
        clear hc HO hsm hB
        go_wp2_with fail
        refine HSk.out.mono ?_
        rintro e w1 ⟨rfl, hb⟩
        have HB1 : Hid (Below w.heap.size w w1) := HB.out.trans (hb.mono HB.out.size)
        clear hb
        go_wp2
        go_ret
        exact ⟨_, rfl, HY.out, HB1.out⟩
      | false =>
        have HO2 : Hid (∀ (j : Nat) (h : j < l.length), j < k + 1 → sameL l[j].n.data.toList s.data.toList = false) := fun j h hj => by
          by_cases e : j = k
          · subst e; exact hsm
          · exact HO.out j h (by omega)
        rw [hsm] at HSk
        generalize l[k].n = nm at *
        clear hc HO hsm hB
        go_wp2_with fail
        refine HSk.out.mono ?_
        rintro e w1 ⟨rfl, hb⟩
        have HB1 : Hid (Below w.heap.size w w1) := HB.out.trans (hb.mono HB.out.size)
        clear hb
        go_wp2
        go_roundw
        case rel => exact ⟨rfl, k + 1, by omega, by simp, HO2, HB1.out⟩
        case measure => simp [intOf]; omega
    · have hk' : k = l.length := by omega
      subst hk'
      have dk : decide ((l.length : Int) < l.length) = false := by simp
      have HY : Hid (FiR l s (-1)) := .inr ⟨rfl, getF_no fun j hj => HO.out j hj hj⟩
      clear HO
      have HBB : Hid (Below w.heap.size w wr) := hB
      clear hB
      go_wp2
      go_ret
      exact ⟨_, rfl, HY.out, HBB.out⟩
end Go.Proofs.YtlndgepoekllkaaGreatDoor
/- What fits a type fits its parent; the reference's Check plainly: mathematics. -/
namespace Go.Proofs.YtlndgepoekllkaaGreatDoor
open Go.RowKit

/-- What the reference asks of a type's names and fields. -/
theorem chkT_ref (t : Ty) : chkT t = true ↔ chkF t.own = true ∧ chkF t.all = true ∧ idB t.nd t.lf t.sq = true ∧ 1 ≤ t.ch.length ∧ t.ch.length ≤ 8 ∧ t.ch[0]? = some t.n ∧ (∀ (k : Nat) (h : k < t.ch.length), checkL t.ch[k].data.toList = 0 ∧ ((t.ch.take k).any fun u => sameL u.data.toList t.ch[k].data.toList) = false) ∧ (if t.ch.length = 1 then t.p.size = 0 ∧ sameR t.own t.all = true else t.ch[1]? = some t.p ∧ withinL t.own t.all = true) := by
  rw [chkT_iff]
  unfold chkR
  simp only [Bool.and_eq_true]
  have key : ((∀ s ∈ t.ch, checkL s.data.toList = 0) ∧ (t.ch.map fun s => foldL s.data.toList).Nodup) ↔ ∀ (k : Nat) (h : k < t.ch.length), checkL t.ch[k].data.toList = 0 ∧ ((t.ch.take k).any fun u => sameL u.data.toList t.ch[k].data.toList) = false := by
    constructor
    · rintro ⟨h1, h2⟩ k hk
      refine ⟨h1 _ (List.getElem_mem hk), ?_⟩
      rw [List.any_eq_false]
      intro u hu hs
      obtain ⟨i, hi, rfl⟩ := List.mem_iff_getElem.1 hu
      rw [List.length_take] at hi
      simp only [List.getElem_take] at hs
      have := List.pairwise_iff_getElem.1 h2 i k (by simp; omega) (by simpa using hk) (by omega)
      apply this
      simp only [List.getElem_map]
      simpa [sameL] using hs
    · intro h
      refine ⟨fun s hs => ?_, ?_⟩
      · obtain ⟨i, hi, rfl⟩ := List.mem_iff_getElem.1 hs
        exact (h i hi).1
      · refine List.pairwise_iff_getElem.2 fun i j hi hj hij he => ?_
        have hj' : j < t.ch.length := by simpa using hj
        have hi' : i < t.ch.length := by simpa using hi
        have h2 := (h j hj').2
        rw [List.any_eq_false] at h2
        refine h2 t.ch[i] (List.mem_iff_getElem.2 ⟨i, by rw [List.length_take]; omega, by simp⟩) ?_
        simp only [List.getElem_map] at he
        simpa [sameL] using he
  rw [key]
  by_cases hl : t.ch.length = 1
  · rw [if_pos hl, if_pos hl]
    simp only [Bool.and_eq_true, decide_eq_true_eq]
    have e : sameR t.all t.own = true ↔ sameR t.own t.all = true := by
      rw [sameR_iff, sameR_iff]; exact eq_comm
    rw [e]
    constructor
    · rintro ⟨a, b, c, d, f, g, h, i, j⟩; exact ⟨g, h, f, a, b, c, d, i, j⟩
    · rintro ⟨g, h, f, a, b, c, d, i, j⟩; exact ⟨a, b, c, d, f, g, h, i, j⟩
  · rw [if_neg hl, if_neg hl]
    simp only [Bool.and_eq_true, decide_eq_true_eq]
    constructor
    · rintro ⟨a, b, c, d, f, g, h, i, j⟩; exact ⟨g, h, f, a, b, c, d, i, j⟩
    · rintro ⟨g, h, f, a, b, c, d, i, j⟩; exact ⟨a, b, c, d, f, g, h, i, j⟩
/-- The reference's Within plainly. -/
def rwE (a : List Fd) (x : Fd) : Bool := match getF a x.n with
  | none => false
  | some f => decide (f.k = x.k) && decide (f.m = x.m)
def rwL (b a : List Fd) : Bool := b.all (rwE a)
theorem sameL_comm (a b : List UInt8) : sameL a b = sameL b a := by
  unfold sameL
  exact decide_eq_decide.2 eq_comm
theorem rwL_eq {b a : List Fd} (h : chkF a = true) : rwL b a = withinL b a := by
  unfold rwL withinL
  congr 1
  funext x
  unfold rwE isInL
  cases hg : getF a x.n with
  | none =>
    symm
    show a.any (sameF x) = false
    rw [List.any_eq_false]
    intro y hy hs
    have := List.find?_eq_none.1 hg y hy
    unfold sameF at hs
    simp only [Bool.and_eq_true] at hs
    rw [sameL_comm, hs.2.2] at this
    exact this rfl
  | some f =>
    obtain ⟨m1, s1⟩ := getF_mem hg
    show (decide (f.k = x.k) && decide (f.m = x.m)) = a.any (sameF x)
    rw [Bool.eq_iff_iff, List.any_eq_true]
    simp only [Bool.and_eq_true, decide_eq_true_eq]
    constructor
    · rintro ⟨h1, h2⟩
      refine ⟨f, m1, ?_⟩
      unfold sameF
      rw [h1, h2, sameL_comm, s1]
      simp
    · rintro ⟨y, hy, hs⟩
      unfold sameF at hs
      simp only [Bool.and_eq_true, decide_eq_true_eq] at hs
      have : f = y := pair_ne (chk_sorted h) m1 hy (by
        simp only [sameL, decide_eq_true_eq] at s1 hs ⊢
        rw [s1, hs.2.2])
      subst this
      exact ⟨hs.1.symm, hs.2.1.symm⟩
end Go.Proofs.YtlndgepoekllkaaGreatDoor
/- The reference's Within: its walk. -/
namespace Go.Proofs.YtlndgepoekllkaaGreatDoor
open Go.RowKit

set_option maxRecDepth 100000 in
set_option maxHeartbeats 4000000 in
theorem refWithin_any (v u : Value) (b a : List Fd) (w : World) (hq : IsRow w 3 v b.length (fCells b)) (hr : IsRow w 3 u a.length (fCells a)) (hbl : b.length ≤ 1000000) (hal : a.length ≤ 1000000) (hnb : NmR b) (hna : NmR a) :
    Calls Tryz.prog 75 #[v, u] w fun e w' => e = .returned (.bool (rwL b a)) ∧ Below w.heap.size w w' := by
  obtain ⟨a0, cap0, rfl⟩ := hq.form
  obtain ⟨a1, cap1, rfl⟩ := hr.form
  have HQ : Hid (∀ w', Below w.heap.size w w' → IsRow w' 3 (.slice a0 b.length cap0) b.length (fCells b)) := fun w' h => hq.below h
  have HR : Hid (∀ w', Below w.heap.size w w' → IsRow w' 3 (.slice a1 a.length cap1) a.length (fCells a)) := fun w' h => hr.below h
  have HF : Hid (∀ (k : Nat) (hk : k < b.length) w', Below w.heap.size w w' → Calls Tryz.prog 95 #[.slice a1 a.length cap1, .string b[k].n] w' fun e w'' => ∃ r, e = .returned (.int .i64 r) ∧ FiR a b[k].n r ∧ Below w'.heap.size w' w'') := fun k hk w' hw' => refFindF_any _ a _ w' (hr.below hw') hal hna (hnb _ (List.getElem_mem hk))
  obtain ⟨R, hR⟩ : ∃ R, R = rwL b a := ⟨_, rfl⟩
  have HNo : Hid (∀ (k : Nat) (hk : k < b.length), rwE a b[k] = false → R = false) := fun k hk h => by
    rw [hR]; unfold rwL; rw [List.all_eq_false]; exact ⟨_, List.getElem_mem hk, by rw [h]; decide⟩
  have HYes : Hid ((∀ (k : Nat) (hk : k < b.length), rwE a b[k] = true) → R = true) := fun h => by
    rw [hR]; unfold rwL; rw [List.all_eq_true]
    intro x hx
    obtain ⟨k, hk, rfl⟩ := List.mem_iff_getElem.1 hx
    exact h k hk
  rw [← hR]
  clear hq hr hnb hna hR
  go_enter Tryz.func75, Tryz.ntmps75
  go_wp2_with fail
  go_loopw [5, 6] (fun i _ wr => ∃ k : Nat, k ≤ b.length ∧ i = .int .i64 (k : Int) ∧ Hid (∀ (j : Nat) (hj : j < b.length), j < k → rwE a b[j] = true) ∧ Hid (Below w.heap.size w wr)) (fun i _ _ => b.length - (intOf i).toNat)
  case atStart => exact ⟨0, Nat.zero_le _, rfl, fun j _ h => absurd h (Nat.not_lt_zero _), Below.refl _ _⟩
  case round =>
    obtain ⟨k, hk, rfl, HO, HB⟩ := hrel
    have hsz := HB.out.size
    by_cases hlk : k < b.length
    · have dk : decide ((k : Int) < (b.length : Int)) = true := by simp; omega
      obtain ⟨g, off, hga, hlt, hcap, hc⟩ := f_at (HQ.out wr HB.out) (by omega)
      subst hga
      obtain ⟨c0, c1, c2⟩ := hc k hlk
      have HFk : Hid (Calls Tryz.prog 95 #[.slice a1 a.length cap1, .string b[k].n] wr fun e w'' => ∃ r, e = .returned (.int .i64 r) ∧ FiR a b[k].n r ∧ Below wr.heap.size wr w'') := HF.out k hlk wr HB.out
      have HQk : Hid (∀ w', Below w.heap.size w w' → w'.cell? ⟨g, off + k * 3, none⟩ = some (.string b[k].n) ∧ w'.cell? ⟨g, off + k * 3 + 1, none⟩ = some (.int .i64 b[k].k) ∧ w'.cell? ⟨g, off + k * 3 + 2, none⟩ = some (.bool b[k].m)) := fun w' h => by
        obtain ⟨g', off', e, -, -, hc'⟩ := f_at (HQ.out w' h) (by omega)
        simp only [Option.some.injEq, Addr.mk.injEq, and_true] at e
        obtain ⟨rfl, rfl⟩ := e
        exact hc' k hlk
      have HNk : Hid (rwE a b[k] = false → R = false) := HNo.out k hlk
      have HOk : Hid (rwE a b[k] = true → ∀ (j : Nat) (hj : j < b.length), j < k + 1 → rwE a b[j] = true) := fun h j hj hjk => by
        by_cases e : j = k
        · subst e; exact h
        · exact HO.out j hj (by omega)
      have i1 : (0 : Int) ≤ (k : Int) := by omega
      have i2 : (k : Int) < (b.length : Int) := by omega
      clear hc HF HQ HNo HYes HO
      go_wp2_with fail
      refine HFk.out.mono ?_
      rintro e w1 ⟨r, rfl, hF, hb1⟩
      have HB1 : Hid (Below w.heap.size w w1) := HB.out.trans (hb1.mono hsz)
      have HBd : Hid (∀ q, Below w.heap.size w (w1.drewN q)) := fun q => ⟨HB1.out.os, HB1.out.tape, HB1.out.output, HB1.out.size, HB1.out.block⟩
      obtain ⟨z0, z1, z2⟩ := HQk.out w1 HB1.out
      rcases hF with ⟨j, hj, rfl, hg⟩ | ⟨rfl, hg⟩
      · obtain ⟨g1, off1, hga1, hlt1, hcap1, hc1⟩ := f_at (HR.out w1 HB1.out) (by omega)
        subst hga1
        obtain ⟨y0, y1, y2⟩ := hc1 j hj
        have j0 : decide ((j : Int) < 0) = false := by simp
        have j1 : (0 : Int) ≤ (j : Int) := by omega
        have j2 : (j : Int) < (a.length : Int) := by omega
        have hE : rwE a b[k] = (decide (a[j].k = b[k].k) && decide (a[j].m = b[k].m)) := by unfold rwE; rw [hg]
        rw [hE] at HNk HOk
        generalize b[k]'hlk = x at *
        generalize a[j]'hj = y at *
        obtain ⟨xn, xk, xm⟩ := x
        obtain ⟨yn, yk, ym⟩ := y
        dsimp only at *
        clear hc1 hb1 HFk HQk HR HB c0 c1 c2 hg hE
        by_cases hk1 : yk = xk
        · subst hk1
          by_cases hm1 : ym = xm
          · subst hm1
            have HOk2 : Hid (∀ (j : Nat) (hj : j < b.length), j < k + 1 → rwE a b[j] = true) := HOk.out (by simp)
            clear HNk HOk
            go_wp2_with fail
            go_quiet (fail)
            go_wp2
            go_roundw
            case rel => exact ⟨k + 1, by omega, by simp, HOk2.out, HBd.out _⟩
            case measure => simp [intOf]; omega
          · have HN2 : Hid (R = false) := HNk.out (by simp [hm1])
            have dm : (ym == xm) = false := by simp [hm1]
            have dm' : (ym != xm) = true := by simp [hm1]
            clear HNk HOk hm1
            go_wp2_with fail
            go_quiet (fail)
            go_wp2
            go_ret
            exact ⟨by rw [HN2.out]; rfl, HBd.out _⟩
        · have HN2 : Hid (R = false) := HNk.out (by simp [hk1])
          have dm : (yk == xk) = false := by simp [hk1]
          have dm' : (yk != xk) = true := by simp [hk1]
          clear HNk HOk hk1
          go_wp2_with fail
          go_quiet (fail)
          go_wp2
          go_ret
          exact ⟨by rw [HN2.out]; rfl, HBd.out _⟩
      · have HN2 : Hid (R = false) := HNk.out (by unfold rwE; rw [hg])
        clear hb1 HFk HQk HR HB c0 c1 c2 hg HNk HOk
        go_wp2_with fail
        go_quiet (fail)
        go_wp2
        go_ret
        exact ⟨by rw [HN2.out]; rfl, HBd.out _⟩
    · have hk' : k = b.length := by omega
      have dk : decide ((k : Int) < (b.length : Int)) = false := by simp; omega
      have HY2 : Hid (R = true) := HYes.out fun j hj => HO.out j hj (by omega)
      clear HF HQ HR HO HYes HNo
      go_wp2
      go_ret
      exact ⟨by rw [HY2.out]; rfl, HB.out⟩
end Go.Proofs.YtlndgepoekllkaaGreatDoor
