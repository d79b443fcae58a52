/- The reference's Check of fields, its Find: walks. -/
import Derived.Test.YtfbnlkgopncejaaGreatDoorES
namespace Go.Proofs.YtfbnlkgopncejaaGreatDoor
open Go.RowKit

/-- A field and the one ahead of it, where they lie. -/
def CR (b o o2 : Nat) (x y : Fd) (w0 w : World) : Prop := (w.cell? ⟨b, o, none⟩ = some (.string x.n) ∧ w.cell? ⟨b, o + 1, none⟩ = some (.int .i64 x.k) ∧ w.cell? ⟨b, o + 2, none⟩ = some (.bool x.m) ∧ w.cell? ⟨b, o2, none⟩ = some (.string y.n)) ∧ b < w.heap.size ∧ Below w0.heap.size w0 w
theorem CR_call {b o o2 : Nat} {x y : Fd} {w0 W w' : World} (hb : Below W.heap.size W w') (h : CR b o o2 x y w0 W) : CR b o o2 x y w0 w' := by
  obtain ⟨⟨c0, c1, c2, c3⟩, l, B⟩ := h
  exact ⟨⟨(hb.cell (p := ⟨b, o, none⟩) l).trans c0, (hb.cell (p := ⟨b, o + 1, none⟩) l).trans c1, (hb.cell (p := ⟨b, o + 2, none⟩) l).trans c2, (hb.cell (p := ⟨b, o2, none⟩) l).trans c3⟩, Nat.lt_of_lt_of_le l hb.size, B.trans (hb.mono B.size)⟩
theorem CR_drew {b o o2 : Nat} {x y : Fd} {w0 W : World} (h : CR b o o2 x y w0 W) : CR b o o2 x y w0 W.drew := CR_call (Below.refl _ _).drew h
def NmR (l : List Fd) : Prop := ∀ x ∈ l, x.n.size ≤ 200000
theorem allF (l : List Fd) (h : ∀ (k : Nat) (h : k < l.length), okF l k h) : chkF l = decide (l.length ≤ 24) := by unfold chkF; rw [decide_eq_true h, Bool.and_true]
set_option maxRecDepth 100000 in
set_option maxHeartbeats 2000000 in
theorem refCheckF_any (v : Value) (l : List Fd) (w : World) (hr : IsRow w 3 v l.length (fCells l)) (hl : l.length ≤ 1000000) (hn : NmR l) :
    Calls Tryz.prog 10 #[v] w fun e w' => e = .returned (.bool (chkF l)) ∧ Below w.heap.size w w' := by
  obtain ⟨a0, cap0, rfl⟩ := hr.form
  have HR : Hid (IsRow w 3 (.slice a0 l.length cap0) l.length (fCells l)) := hr
  have HK : Hid (∀ (k : Nat) (h : k < l.length) (w' : World), Calls Tryz.prog 21 #[fV l[k]] w' fun e w'' => e = .returned (.bool (mayF l[k])) ∧ Below w'.heap.size w' w'') := fun k h w' => refMay_any _ w' (by have := hn _ (List.getElem_mem h); omega)
  have HC : Hid (∀ (j k : Nat) (h1 : j < l.length) (h : k < l.length) (w' : World), Calls Tryz.prog 23 #[.string l[j].n, .string l[k].n] w' fun e w'' => e = .returned (.int .i64 (cmpL l[j].n.data.toList l[k].n.data.toList)) ∧ Below w'.heap.size w' w'') := fun j k h1 h w' => refCompare_any _ _ w' (hn _ (List.getElem_mem h1)) (hn _ (List.getElem_mem h))
  clear hr hn
  go_enter Tryz.func10, Tryz.ntmps10
  go_wp2_with fail
  go_loopw [2, 3] (fun r i wr => r = .bool false ∧ ∃ k : Nat, k ≤ l.length ∧ i = .int .i64 (k : Int) ∧ Hid (∀ (j : Nat) (h : j < l.length), j < k → okF l j h) ∧ Below w.heap.size w wr) (fun _ i _ => l.length - (intOf i).toNat)
  case atStart => exact ⟨rfl, 0, Nat.zero_le _, rfl, fun j h hj => absurd hj (Nat.not_lt_zero _), Below.refl _ _⟩
  case round =>
    obtain ⟨rfl, k, hk, rfl, HO, hB⟩ := hrel
    by_cases hlk : k < l.length
    · have dk : decide ((k : Int) < l.length) = true := by simp; omega
      obtain ⟨b, off, rfl, hlt, hcap, hc⟩ := f_at (HR.out.below hB) (by omega)
      obtain ⟨ck0, ck1, ck2⟩ := hc k hlk
      have HMk : Hid (∀ w', Calls Tryz.prog 21 #[fV l[k]] w' fun e w'' => e = .returned (.bool (mayF l[k])) ∧ Below w'.heap.size w' w'') := HK.out k hlk
      have q7 : (0 : Int) ≤ (k : Int) := by omega
      have q8 : (k : Int) < (l.length : Int) := by omega
      cases k with
      | zero =>
        rw [Nat.zero_mul, Nat.add_zero] at ck0 ck1 ck2
        have hS : CR b off off l[0] l[0] w wr := ⟨⟨ck0, ck1, ck2, ck0⟩, hlt, hB⟩
        have hok : okF l 0 hlk ↔ mayF l[0] = true := ⟨fun h => h.1, fun h => ⟨h, fun j e => absurd e (by omega)⟩⟩
        have HO2 : Hid (mayF l[0] = true → ∀ (j : Nat) (h : j < l.length), j < 0 + 1 → okF l j h) := fun hm j h hj => by
          obtain rfl : j = 0 := by omega
          exact hok.2 hm
        have HNo : Hid (mayF l[0] = false → chkF l = false) := fun hm => chkF_no (k := 0) hlk fun h => by rw [hok.1 h] at hm; cases hm
        generalize mayF l[0] = r at *
        generalize l[0]'hlk = x at *
        obtain ⟨s, kk, m⟩ := x
        clear hok hc HO
        have dk0 : decide ((0 : Int) < (l.length : Int)) = true := decide_eq_true (by omega)
        have hS0 := CR_drew hS
        cases r with
        | false =>
          go_wp2_with fail
          refine wp_region_quiet (C := fun w' => CR b off off ⟨s, kk, m⟩ ⟨s, kk, m⟩ w w') (by kernel_rfl) (by kernel_rfl) hS0 ?_
          dsimp only
          repeat (first
            | go_big_quiet_skip
            | (go_big_quiet_want
               apply Exists.intro
               refine ⟨fun W' hW' => ?_, ?_⟩
               · obtain ⟨⟨g0, g1, g2, g3⟩, -, -⟩ := (show CR b off off ⟨s, kk, m⟩ ⟨s, kk, m⟩ w W' from hW')
                 go_simp
                 first
                   | done
                   | rfl
                   | (go_at_call 21; refine (HMk.out W').mono ?_; rintro e w'' ⟨rfl, hb⟩; exact ⟨rfl, CR_call hb hW'⟩)
               go_big_quiet_on
               try simp only [Act.put, List.setIfInBounds_toArray, List.set_cons_zero, List.set_cons_succ]))
          refine wpQuiet_nil ?_
          intro w2 hS2
          have HBB : Hid (Below w.heap.size w _) := (show CR b off off ⟨s, kk, m⟩ ⟨s, kk, m⟩ w w2 from hS2).2.2
          clear hS hS0 hS2
          go_wp2
          go_ret
          exact ⟨by rw [HNo.out (by trivial)]; rfl, HBB.out⟩
        | true =>
          go_wp2_with fail
          refine wp_region_quiet (C := fun w' => CR b off off ⟨s, kk, m⟩ ⟨s, kk, m⟩ w w') (by kernel_rfl) (by kernel_rfl) hS0 ?_
          dsimp only
          repeat (first
            | go_big_quiet_skip
            | (go_big_quiet_want
               apply Exists.intro
               refine ⟨fun W' hW' => ?_, ?_⟩
               · obtain ⟨⟨g0, g1, g2, g3⟩, -, -⟩ := (show CR b off off ⟨s, kk, m⟩ ⟨s, kk, m⟩ w W' from hW')
                 go_simp
                 first
                   | done
                   | rfl
                   | (go_at_call 21; refine (HMk.out W').mono ?_; rintro e w'' ⟨rfl, hb⟩; exact ⟨rfl, CR_call hb hW'⟩)
               go_big_quiet_on
               try simp only [Act.put, List.setIfInBounds_toArray, List.set_cons_zero, List.set_cons_succ]))
          refine wpQuiet_nil ?_
          intro w2 hS2
          have HBB : Hid (Below w.heap.size w _) := (show CR b off off ⟨s, kk, m⟩ ⟨s, kk, m⟩ w w2 from hS2).2.2
          clear hS hS0 hS2
          go_wp2
          go_roundw
          case rel => exact ⟨rfl, 0 + 1, by omega, by simp, HO2.out (by trivial), HBB.out⟩
          case measure => simp [intOf]; omega
      | succ j =>
        have hj : j < l.length := by omega
        obtain ⟨cj0, -, -⟩ := hc j hj
        have hS : CR b (off + (j + 1) * 3) (off + j * 3) l[j + 1] l[j] w wr := ⟨⟨ck0, ck1, ck2, cj0⟩, hlt, hB⟩
        have HCk : Hid (∀ w', Calls Tryz.prog 23 #[.string l[j].n, .string l[j + 1].n] w' fun e w'' => e = .returned (.int .i64 (cmpL l[j].n.data.toList l[j + 1].n.data.toList)) ∧ Below w'.heap.size w' w'') := HC.out j (j + 1) hj hlk
        have hok : okF l (j + 1) hlk ↔ mayF l[j + 1] = true ∧ cmpL l[j].n.data.toList l[j + 1].n.data.toList < 0 := ⟨fun h => ⟨h.1, h.2 j rfl⟩, fun h => ⟨h.1, fun i e => by cases e; exact h.2⟩⟩
        have HO2 : Hid (mayF l[j + 1] = true → cmpL l[j].n.data.toList l[j + 1].n.data.toList < 0 → ∀ (i : Nat) (h : i < l.length), i < j + 1 + 1 → okF l i h) := fun hm hm2 i h hi => by
          by_cases e : i = j + 1
          · subst e; exact hok.2 ⟨hm, hm2⟩
          · exact HO.out i h (by omega)
        have HNo : Hid (mayF l[j + 1] = false ∨ ¬ cmpL l[j].n.data.toList l[j + 1].n.data.toList < 0 → chkF l = false) := fun hm => chkF_no (k := j + 1) hlk fun h => by
          rcases hm with hm | hm
          · rw [(hok.1 h).1] at hm; cases hm
          · exact hm (hok.1 h).2
        generalize mayF l[j + 1] = r at *
        generalize cmpL l[j].n.data.toList l[j + 1].n.data.toList = c at *
        generalize l[j + 1]'hlk = x at *
        generalize l[j]'hj = y at *
        obtain ⟨s, kk, m⟩ := x
        obtain ⟨s', kk', m'⟩ := y
        clear hok hc HO
        have q1 : IntKind.i64.wrap (j : Int) = (j : Int) := by rw [IntKind.wrap_i64]; omega
        have q2 : (0 : Int) ≤ (j : Int) := by omega
        have q3 : (j : Int) < (l.length : Int) := by omega
        have q4 : (j : Int) + 1 - 1 = (j : Int) := by omega
        have q5 : decide ((0 : Int) < (j : Int) + 1) = true := decide_eq_true (by omega)
        have q9 : (0 : Int) ≤ (j : Int) + 1 := by omega
        have q10 : (j : Int) + 1 < (l.length : Int) := by omega
        have hS0 := CR_drew hS
        cases r with
        | false =>
          go_wp2_with fail
          refine wp_region_quiet (C := fun w' => CR b (off + (j + 1) * 3) (off + j * 3) ⟨s, kk, m⟩ ⟨s', kk', m'⟩ w w') (by kernel_rfl) (by kernel_rfl) hS0 ?_
          dsimp only
          repeat (first
            | go_big_quiet_skip
            | (go_big_quiet_want
               apply Exists.intro
               refine ⟨fun W' hW' => ?_, ?_⟩
               · obtain ⟨⟨g0, g1, g2, g3⟩, -, -⟩ := (show CR b (off + (j + 1) * 3) (off + j * 3) ⟨s, kk, m⟩ ⟨s', kk', m'⟩ w W' from hW')
                 go_simp
                 first
                   | done
                   | rfl
                   | (go_at_call 21; refine (HMk.out W').mono ?_; rintro e w'' ⟨rfl, hb⟩; exact ⟨rfl, CR_call hb hW'⟩)
                   | (go_at_call 23; refine (HCk.out W').mono ?_; rintro e w'' ⟨rfl, hb⟩; exact ⟨rfl, CR_call hb hW'⟩)
               go_big_quiet_on
               try simp only [Act.put, List.setIfInBounds_toArray, List.set_cons_zero, List.set_cons_succ]))
          refine wpQuiet_nil ?_
          intro w2 hS2
          have HBB : Hid (Below w.heap.size w _) := (show CR b (off + (j + 1) * 3) (off + j * 3) ⟨s, kk, m⟩ ⟨s', kk', m'⟩ w w2 from hS2).2.2
          clear hS hS0 hS2
          go_wp2
          go_ret
          exact ⟨by rw [HNo.out (.inl (by trivial))]; rfl, HBB.out⟩
        | true =>
          by_cases hc0 : c < 0
          · have q6 : decide ((0 : Int) ≤ c) = false := by simp; omega
            go_wp2_with fail
            refine wp_region_quiet (C := fun w' => CR b (off + (j + 1) * 3) (off + j * 3) ⟨s, kk, m⟩ ⟨s', kk', m'⟩ w w') (by kernel_rfl) (by kernel_rfl) hS0 ?_
            dsimp only
            repeat (first
              | go_big_quiet_skip
              | (go_big_quiet_want
                 apply Exists.intro
                 refine ⟨fun W' hW' => ?_, ?_⟩
                 · obtain ⟨⟨g0, g1, g2, g3⟩, -, -⟩ := (show CR b (off + (j + 1) * 3) (off + j * 3) ⟨s, kk, m⟩ ⟨s', kk', m'⟩ w W' from hW')
                   go_simp
                   first
                     | done
                     | rfl
                     | (go_at_call 21; refine (HMk.out W').mono ?_; rintro e w'' ⟨rfl, hb⟩; exact ⟨rfl, CR_call hb hW'⟩)
                     | (go_at_call 23; refine (HCk.out W').mono ?_; rintro e w'' ⟨rfl, hb⟩; exact ⟨rfl, CR_call hb hW'⟩)
                 go_big_quiet_on
                 try simp only [Act.put, List.setIfInBounds_toArray, List.set_cons_zero, List.set_cons_succ]))
            refine wpQuiet_nil ?_
            intro w2 hS2
            have HBB : Hid (Below w.heap.size w _) := (show CR b (off + (j + 1) * 3) (off + j * 3) ⟨s, kk, m⟩ ⟨s', kk', m'⟩ w w2 from hS2).2.2
            clear hS hS0 hS2
            go_wp2
            go_roundw
            case rel => exact ⟨rfl, j + 1 + 1, by omega, by simp, HO2.out (by trivial) hc0, HBB.out⟩
            case measure => simp [intOf]; omega
          · have q6 : decide ((0 : Int) ≤ c) = true := by simp; omega
            go_wp2_with fail
            refine wp_region_quiet (C := fun w' => CR b (off + (j + 1) * 3) (off + j * 3) ⟨s, kk, m⟩ ⟨s', kk', m'⟩ w w') (by kernel_rfl) (by kernel_rfl) hS0 ?_
            dsimp only
            repeat (first
              | go_big_quiet_skip
              | (go_big_quiet_want
                 apply Exists.intro
                 refine ⟨fun W' hW' => ?_, ?_⟩
                 · obtain ⟨⟨g0, g1, g2, g3⟩, -, -⟩ := (show CR b (off + (j + 1) * 3) (off + j * 3) ⟨s, kk, m⟩ ⟨s', kk', m'⟩ w W' from hW')
                   go_simp
                   first
                     | done
                     | rfl
                     | (go_at_call 21; refine (HMk.out W').mono ?_; rintro e w'' ⟨rfl, hb⟩; exact ⟨rfl, CR_call hb hW'⟩)
                     | (go_at_call 23; refine (HCk.out W').mono ?_; rintro e w'' ⟨rfl, hb⟩; exact ⟨rfl, CR_call hb hW'⟩)
                 go_big_quiet_on
                 try simp only [Act.put, List.setIfInBounds_toArray, List.set_cons_zero, List.set_cons_succ]))
            refine wpQuiet_nil ?_
            intro w2 hS2
            have HBB : Hid (Below w.heap.size w _) := (show CR b (off + (j + 1) * 3) (off + j * 3) ⟨s, kk, m⟩ ⟨s', kk', m'⟩ w w2 from hS2).2.2
            clear hS hS0 hS2
            go_wp2
            go_ret
            exact ⟨by rw [HNo.out (.inr hc0)]; rfl, HBB.out⟩
    · have hk' : k = l.length := by omega
      subst hk'
      have dk : decide ((l.length : Int) < l.length) = false := by simp
      have HY : Hid (chkF l = decide ((l.length : Int) ≤ 24)) := by
        show _ = _
        rw [allF l (fun k h => HO.out k h h), Bool.eq_iff_iff]; simp; omega
      clear HO
      have HBB : Hid (Below w.heap.size w wr) := hB
      clear hB
      go_wp2
      go_ret
      exact ⟨by rw [HY.out]; rfl, HBB.out⟩
/-- The place of the first field of a name; below 0: none. -/
def FiR (l : List Fd) (s : ByteArray) (r : Int) : Prop := (∃ (k : Nat) (h : k < l.length), r = k ∧ getF l s = some l[k]) ∨ (r = -1 ∧ getF l s = none)
end Go.Proofs.YtfbnlkgopncejaaGreatDoor
