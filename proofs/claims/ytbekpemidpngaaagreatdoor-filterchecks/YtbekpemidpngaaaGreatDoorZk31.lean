/- The reference's Check of fields, its Find: walks. -/
import Derived.Test.YtbekpemidpngaaaGreatDoorZk28
import Derived.Deep.AppendLies
import Derived.Test.YtbekpemidpngaaaGreatDoorZk30
import Derived.Lib.Strings
namespace Go.Proofs.YtbekpemidpngaaaGreatDoor
open Go.RowKit

/-- A field and the one ahead of it, where they lie. -/
def CR (b o o2 : Nat) (x y : Fd) (w0 w : World) : Prop := (w.cell? ⟨b, o, none⟩ = some (.string x.n) ∧ w.cell? ⟨b, o + 1, none⟩ = some (.int .i64 x.k) ∧ w.cell? ⟨b, o + 2, none⟩ = some (.bool x.m) ∧ w.cell? ⟨b, o2, none⟩ = some (.string y.n)) ∧ b < w.heap.size ∧ Below w0.heap.size w0 w
theorem CR_call {b o o2 : Nat} {x y : Fd} {w0 W w' : World} (hb : Below W.heap.size W w') (h : CR b o o2 x y w0 W) : CR b o o2 x y w0 w' := by
  obtain ⟨⟨c0, c1, c2, c3⟩, l, B⟩ := h
  exact ⟨⟨(hb.cell (p := ⟨b, o, none⟩) l).trans c0, (hb.cell (p := ⟨b, o + 1, none⟩) l).trans c1, (hb.cell (p := ⟨b, o + 2, none⟩) l).trans c2, (hb.cell (p := ⟨b, o2, none⟩) l).trans c3⟩, Nat.lt_of_lt_of_le l hb.size, B.trans (hb.mono B.size)⟩
theorem CR_drew {b o o2 : Nat} {x y : Fd} {w0 W : World} (h : CR b o o2 x y w0 W) : CR b o o2 x y w0 W.drew := CR_call (Below.refl _ _).drew h
def NmR (l : List Fd) : Prop := ∀ x ∈ l, x.n.size ≤ 200000
theorem allF (l : List Fd) (h : ∀ (k : Nat) (h : k < l.length), okF l k h) : chkF l = decide (l.length ≤ 24) := by unfold chkF; rw [decide_eq_true h, Bool.and_true]
set_option maxRecDepth 100000 in
set_option maxHeartbeats 2000000 in
theorem refCheckF_any (v : Value) (l : List Fd) (w : World) (hr : IsRow w 3 v l.length (fCells l)) (hl : l.length ≤ 1000000) (hn : NmR l) :
    Calls Tryz.prog 32 #[v] w fun e w' => e = .returned (.bool (chkF l)) ∧ Below w.heap.size w w' := by
  obtain ⟨a0, cap0, rfl⟩ := hr.form
  have HR : Hid (IsRow w 3 (.slice a0 l.length cap0) l.length (fCells l)) := hr
  have HK : Hid (∀ (k : Nat) (h : k < l.length) (w' : World), Calls Tryz.prog 58 #[fV l[k]] w' fun e w'' => e = .returned (.bool (mayF l[k])) ∧ Below w'.heap.size w' w'') := fun k h w' => refMay_any _ w' (by have := hn _ (List.getElem_mem h); omega)
  have HC : Hid (∀ (j k : Nat) (h1 : j < l.length) (h : k < l.length) (w' : World), Calls Tryz.prog 59 #[.string l[j].n, .string l[k].n] w' fun e w'' => e = .returned (.int .i64 (cmpL l[j].n.data.toList l[k].n.data.toList)) ∧ Below w'.heap.size w' w'') := fun j k h1 h w' => refCompare_any _ _ w' (hn _ (List.getElem_mem h1)) (hn _ (List.getElem_mem h))
  clear hr hn
  go_enter Tryz.func32, Tryz.ntmps32
  go_wp2_with fail
  go_loopw [2, 3] (fun r i wr => r = .bool false ∧ ∃ k : Nat, k ≤ l.length ∧ i = .int .i64 (k : Int) ∧ Hid (∀ (j : Nat) (h : j < l.length), j < k → okF l j h) ∧ Below w.heap.size w wr) (fun _ i _ => l.length - (intOf i).toNat)
  case atStart => exact ⟨rfl, 0, Nat.zero_le _, rfl, fun j h hj => absurd hj (Nat.not_lt_zero _), Below.refl _ _⟩
  case round =>
    obtain ⟨rfl, k, hk, rfl, HO, hB⟩ := hrel
    by_cases hlk : k < l.length
    · have dk : decide ((k : Int) < l.length) = true := by simp; omega
      obtain ⟨b, off, rfl, hlt, hcap, hc⟩ := f_at (HR.out.below hB) (by omega)
      obtain ⟨ck0, ck1, ck2⟩ := hc k hlk
      have HMk : Hid (∀ w', Calls Tryz.prog 58 #[fV l[k]] w' fun e w'' => e = .returned (.bool (mayF l[k])) ∧ Below w'.heap.size w' w'') := HK.out k hlk
      have q7 : (0 : Int) ≤ (k : Int) := by omega
      have q8 : (k : Int) < (l.length : Int) := by omega
      cases k with
      | zero =>
        rw [Nat.zero_mul, Nat.add_zero] at ck0 ck1 ck2
        have hS : CR b off off l[0] l[0] w wr := ⟨⟨ck0, ck1, ck2, ck0⟩, hlt, hB⟩
        have hok : okF l 0 hlk ↔ mayF l[0] = true := ⟨fun h => h.1, fun h => ⟨h, fun j e => absurd e (by omega)⟩⟩
        have HO2 : Hid (mayF l[0] = true → ∀ (j : Nat) (h : j < l.length), j < 0 + 1 → okF l j h) := fun hm j h hj => by
          obtain rfl : j = 0 := by omega
          exact hok.2 hm
        have HNo : Hid (mayF l[0] = false → chkF l = false) := fun hm => chkF_no (k := 0) hlk fun h => by rw [hok.1 h] at hm; cases hm
        generalize mayF l[0] = r at *
        generalize l[0]'hlk = x at *
        obtain ⟨s, kk, m⟩ := x
        clear hok hc HO
        have dk0 : decide ((0 : Int) < (l.length : Int)) = true := decide_eq_true (by omega)
        have hS0 := CR_drew hS
        cases r with
        | false =>
          go_wp2_with fail
          refine wp_region_quiet (C := fun w' => CR b off off ⟨s, kk, m⟩ ⟨s, kk, m⟩ w w') (by kernel_rfl) (by kernel_rfl) hS0 ?_
          dsimp only
          repeat (first
            | go_big_quiet_skip
            | (go_big_quiet_want
               apply Exists.intro
               refine ⟨fun W' hW' => ?_, ?_⟩
               · obtain ⟨⟨g0, g1, g2, g3⟩, -, -⟩ := (show CR b off off ⟨s, kk, m⟩ ⟨s, kk, m⟩ w W' from hW')
                 go_simp
                 first
                   | done
                   | rfl
                   | (go_at_call 58; refine (HMk.out W').mono ?_; rintro e w'' ⟨rfl, hb⟩; exact ⟨rfl, CR_call hb hW'⟩)
               go_big_quiet_on
               try simp only [Act.put, List.setIfInBounds_toArray, List.set_cons_zero, List.set_cons_succ]))
          refine wpQuiet_nil ?_
          intro w2 hS2
          have HBB : Hid (Below w.heap.size w _) := (show CR b off off ⟨s, kk, m⟩ ⟨s, kk, m⟩ w w2 from hS2).2.2
          clear hS hS0 hS2
          go_wp2
          go_ret
          exact ⟨by rw [HNo.out (by trivial)]; rfl, HBB.out⟩
        | true =>
          go_wp2_with fail
          refine wp_region_quiet (C := fun w' => CR b off off ⟨s, kk, m⟩ ⟨s, kk, m⟩ w w') (by kernel_rfl) (by kernel_rfl) hS0 ?_
          dsimp only
          repeat (first
            | go_big_quiet_skip
            | (go_big_quiet_want
               apply Exists.intro
               refine ⟨fun W' hW' => ?_, ?_⟩
               · obtain ⟨⟨g0, g1, g2, g3⟩, -, -⟩ := (show CR b off off ⟨s, kk, m⟩ ⟨s, kk, m⟩ w W' from hW')
                 go_simp
                 first
                   | done
                   | rfl
                   | (go_at_call 58; refine (HMk.out W').mono ?_; rintro e w'' ⟨rfl, hb⟩; exact ⟨rfl, CR_call hb hW'⟩)
               go_big_quiet_on
               try simp only [Act.put, List.setIfInBounds_toArray, List.set_cons_zero, List.set_cons_succ]))
          refine wpQuiet_nil ?_
          intro w2 hS2
          have HBB : Hid (Below w.heap.size w _) := (show CR b off off ⟨s, kk, m⟩ ⟨s, kk, m⟩ w w2 from hS2).2.2
          clear hS hS0 hS2
          go_wp2
          go_roundw
          case rel => exact ⟨rfl, 0 + 1, by omega, by simp, HO2.out (by trivial), HBB.out⟩
          case measure => simp [intOf]; omega
      | succ j =>
        have hj : j < l.length := by omega
        obtain ⟨cj0, -, -⟩ := hc j hj
        have hS : CR b (off + (j + 1) * 3) (off + j * 3) l[j + 1] l[j] w wr := ⟨⟨ck0, ck1, ck2, cj0⟩, hlt, hB⟩
        have HCk : Hid (∀ w', Calls Tryz.prog 59 #[.string l[j].n, .string l[j + 1].n] w' fun e w'' => e = .returned (.int .i64 (cmpL l[j].n.data.toList l[j + 1].n.data.toList)) ∧ Below w'.heap.size w' w'') := HC.out j (j + 1) hj hlk
        have hok : okF l (j + 1) hlk ↔ mayF l[j + 1] = true ∧ cmpL l[j].n.data.toList l[j + 1].n.data.toList < 0 := ⟨fun h => ⟨h.1, h.2 j rfl⟩, fun h => ⟨h.1, fun i e => by cases e; exact h.2⟩⟩
        have HO2 : Hid (mayF l[j + 1] = true → cmpL l[j].n.data.toList l[j + 1].n.data.toList < 0 → ∀ (i : Nat) (h : i < l.length), i < j + 1 + 1 → okF l i h) := fun hm hm2 i h hi => by
          by_cases e : i = j + 1
          · subst e; exact hok.2 ⟨hm, hm2⟩
          · exact HO.out i h (by omega)
        have HNo : Hid (mayF l[j + 1] = false ∨ ¬ cmpL l[j].n.data.toList l[j + 1].n.data.toList < 0 → chkF l = false) := fun hm => chkF_no (k := j + 1) hlk fun h => by
          rcases hm with hm | hm
          · rw [(hok.1 h).1] at hm; cases hm
          · exact hm (hok.1 h).2
        generalize mayF l[j + 1] = r at *
        generalize cmpL l[j].n.data.toList l[j + 1].n.data.toList = c at *
        generalize l[j + 1]'hlk = x at *
        generalize l[j]'hj = y at *
        obtain ⟨s, kk, m⟩ := x
        obtain ⟨s', kk', m'⟩ := y
        clear hok hc HO
        have q1 : IntKind.i64.wrap (j : Int) = (j : Int) := by rw [IntKind.wrap_i64]; omega
        have q2 : (0 : Int) ≤ (j : Int) := by omega
        have q3 : (j : Int) < (l.length : Int) := by omega
        have q4 : (j : Int) + 1 - 1 = (j : Int) := by omega
        have q5 : decide ((0 : Int) < (j : Int) + 1) = true := decide_eq_true (by omega)
        have q9 : (0 : Int) ≤ (j : Int) + 1 := by omega
        have q10 : (j : Int) + 1 < (l.length : Int) := by omega
        have hS0 := CR_drew hS
        cases r with
        | false =>
          go_wp2_with fail
          refine wp_region_quiet (C := fun w' => CR b (off + (j + 1) * 3) (off + j * 3) ⟨s, kk, m⟩ ⟨s', kk', m'⟩ w w') (by kernel_rfl) (by kernel_rfl) hS0 ?_
          dsimp only
          repeat (first
            | go_big_quiet_skip
            | (go_big_quiet_want
               apply Exists.intro
               refine ⟨fun W' hW' => ?_, ?_⟩
               · obtain ⟨⟨g0, g1, g2, g3⟩, -, -⟩ := (show CR b (off + (j + 1) * 3) (off + j * 3) ⟨s, kk, m⟩ ⟨s', kk', m'⟩ w W' from hW')
                 go_simp
                 first
                   | done
                   | rfl
                   | (go_at_call 58; refine (HMk.out W').mono ?_; rintro e w'' ⟨rfl, hb⟩; exact ⟨rfl, CR_call hb hW'⟩)
                   | (go_at_call 59; refine (HCk.out W').mono ?_; rintro e w'' ⟨rfl, hb⟩; exact ⟨rfl, CR_call hb hW'⟩)
               go_big_quiet_on
               try simp only [Act.put, List.setIfInBounds_toArray, List.set_cons_zero, List.set_cons_succ]))
          refine wpQuiet_nil ?_
          intro w2 hS2
          have HBB : Hid (Below w.heap.size w _) := (show CR b (off + (j + 1) * 3) (off + j * 3) ⟨s, kk, m⟩ ⟨s', kk', m'⟩ w w2 from hS2).2.2
          clear hS hS0 hS2
          go_wp2
          go_ret
          exact ⟨by rw [HNo.out (.inl (by trivial))]; rfl, HBB.out⟩
        | true =>
          by_cases hc0 : c < 0
          · have q6 : decide ((0 : Int) ≤ c) = false := by simp; omega
            go_wp2_with fail
            refine wp_region_quiet (C := fun w' => CR b (off + (j + 1) * 3) (off + j * 3) ⟨s, kk, m⟩ ⟨s', kk', m'⟩ w w') (by kernel_rfl) (by kernel_rfl) hS0 ?_
            dsimp only
            repeat (first
              | go_big_quiet_skip
              | (go_big_quiet_want
                 apply Exists.intro
                 refine ⟨fun W' hW' => ?_, ?_⟩
                 · obtain ⟨⟨g0, g1, g2, g3⟩, -, -⟩ := (show CR b (off + (j + 1) * 3) (off + j * 3) ⟨s, kk, m⟩ ⟨s', kk', m'⟩ w W' from hW')
                   go_simp
                   first
                     | done
                     | rfl
                     | (go_at_call 58; refine (HMk.out W').mono ?_; rintro e w'' ⟨rfl, hb⟩; exact ⟨rfl, CR_call hb hW'⟩)
                     | (go_at_call 59; refine (HCk.out W').mono ?_; rintro e w'' ⟨rfl, hb⟩; exact ⟨rfl, CR_call hb hW'⟩)
                 go_big_quiet_on
                 try simp only [Act.put, List.setIfInBounds_toArray, List.set_cons_zero, List.set_cons_succ]))
            refine wpQuiet_nil ?_
            intro w2 hS2
            have HBB : Hid (Below w.heap.size w _) := (show CR b (off + (j + 1) * 3) (off + j * 3) ⟨s, kk, m⟩ ⟨s', kk', m'⟩ w w2 from hS2).2.2
            clear hS hS0 hS2
            go_wp2
            go_roundw
            case rel => exact ⟨rfl, j + 1 + 1, by omega, by simp, HO2.out (by trivial) hc0, HBB.out⟩
            case measure => simp [intOf]; omega
          · have q6 : decide ((0 : Int) ≤ c) = true := by simp; omega
            go_wp2_with fail
            refine wp_region_quiet (C := fun w' => CR b (off + (j + 1) * 3) (off + j * 3) ⟨s, kk, m⟩ ⟨s', kk', m'⟩ w w') (by kernel_rfl) (by kernel_rfl) hS0 ?_
            dsimp only
            repeat (first
              | go_big_quiet_skip
              | (go_big_quiet_want
                 apply Exists.intro
                 refine ⟨fun W' hW' => ?_, ?_⟩
                 · obtain ⟨⟨g0, g1, g2, g3⟩, -, -⟩ := (show CR b (off + (j + 1) * 3) (off + j * 3) ⟨s, kk, m⟩ ⟨s', kk', m'⟩ w W' from hW')
                   go_simp
                   first
                     | done
                     | rfl
                     | (go_at_call 58; refine (HMk.out W').mono ?_; rintro e w'' ⟨rfl, hb⟩; exact ⟨rfl, CR_call hb hW'⟩)
                     | (go_at_call 59; refine (HCk.out W').mono ?_; rintro e w'' ⟨rfl, hb⟩; exact ⟨rfl, CR_call hb hW'⟩)
                 go_big_quiet_on
                 try simp only [Act.put, List.setIfInBounds_toArray, List.set_cons_zero, List.set_cons_succ]))
            refine wpQuiet_nil ?_
            intro w2 hS2
            have HBB : Hid (Below w.heap.size w _) := (show CR b (off + (j + 1) * 3) (off + j * 3) ⟨s, kk, m⟩ ⟨s', kk', m'⟩ w w2 from hS2).2.2
            clear hS hS0 hS2
            go_wp2
            go_ret
            exact ⟨by rw [HNo.out (.inr hc0)]; rfl, HBB.out⟩
    · have hk' : k = l.length := by omega
      subst hk'
      have dk : decide ((l.length : Int) < l.length) = false := by simp
      have HY : Hid (chkF l = decide ((l.length : Int) ≤ 24)) := by
        show _ = _
        rw [allF l (fun k h => HO.out k h h), Bool.eq_iff_iff]; simp; omega
      clear HO
      have HBB : Hid (Below w.heap.size w wr) := hB
      clear hB
      go_wp2
      go_ret
      exact ⟨by rw [HY.out]; rfl, HBB.out⟩
/-- The place of the first field of a name; below 0: none. -/
def FiR (l : List Fd) (s : ByteArray) (r : Int) : Prop := (∃ (k : Nat) (h : k < l.length), r = k ∧ getF l s = some l[k]) ∨ (r = -1 ∧ getF l s = none)
set_option maxRecDepth 100000 in
set_option maxHeartbeats 1000000 in
theorem refFindF_any (v : Value) (l : List Fd) (s : ByteArray) (w : World) (hr : IsRow w 3 v l.length (fCells l)) (hl : l.length ≤ 1000000) (hn : NmR l) (hs : s.size ≤ 200000) :
    Calls Tryz.prog 33 #[v, .string s] w fun e w' => ∃ r, e = .returned (.int .i64 r) ∧ FiR l s r ∧ Below w.heap.size w w' := by
  obtain ⟨a0, cap0, rfl⟩ := hr.form
  have HR : Hid (IsRow w 3 (.slice a0 l.length cap0) l.length (fCells l)) := hr
  have HS : Hid (∀ (k : Nat) (h : k < l.length) (w' : World), Calls Tryz.prog 60 #[.string l[k].n, .string s] w' fun e w'' => e = .returned (.bool (sameL l[k].n.data.toList s.data.toList)) ∧ Below w'.heap.size w' w'') := fun k h w' => refSameN_any _ _ w' (by have := hn _ (List.getElem_mem h); omega) (by omega)
  clear hr hn
  go_enter Tryz.func33, Tryz.ntmps33
  go_wp2_with fail
  go_loopw [4, 5] (fun r i wr => r = .int .i64 0 ∧ ∃ k : Nat, k ≤ l.length ∧ i = .int .i64 (k : Int) ∧ Hid (∀ (j : Nat) (h : j < l.length), j < k → sameL l[j].n.data.toList s.data.toList = false) ∧ Below w.heap.size w wr) (fun _ i _ => l.length - (intOf i).toNat)
  case atStart => exact ⟨rfl, 0, Nat.zero_le _, rfl, fun j h hj => absurd hj (Nat.not_lt_zero _), Below.refl _ _⟩
  case round =>
    obtain ⟨rfl, k, hk, rfl, HO, hB⟩ := hrel
    by_cases hlk : k < l.length
    · have dk : decide ((k : Int) < l.length) = true := by simp; omega
      obtain ⟨b, off, rfl, hlt, hcap, hc⟩ := f_at (HR.out.below hB) (by omega)
      obtain ⟨ck0, -, -⟩ := hc k hlk
      have HSk : Hid (Calls Tryz.prog 60 #[.string l[k].n, .string s] wr fun e w'' => e = .returned (.bool (sameL l[k].n.data.toList s.data.toList)) ∧ Below wr.heap.size wr w'') := HS.out k hlk wr
      have HB : Hid (Below w.heap.size w wr) := hB
      cases hsm : sameL l[k].n.data.toList s.data.toList with
      | true =>
        have HY : Hid (FiR l s k) := .inl ⟨k, hlk, rfl, getF_at hlk HO.out hsm⟩
        rw [hsm] at HSk
        generalize l[k].n = nm at *
        clear hc HO hsm hB
        go_wp2_with fail
        refine HSk.out.mono ?_
        rintro e w1 ⟨rfl, hb⟩
        have HB1 : Hid (Below w.heap.size w w1) := HB.out.trans (hb.mono HB.out.size)
        clear hb
        go_wp2
        go_ret
        exact ⟨_, rfl, HY.out, HB1.out⟩
      | false =>
        have HO2 : Hid (∀ (j : Nat) (h : j < l.length), j < k + 1 → sameL l[j].n.data.toList s.data.toList = false) := fun j h hj => by
          by_cases e : j = k
          · subst e; exact hsm
          · exact HO.out j h (by omega)
        rw [hsm] at HSk
        generalize l[k].n = nm at *
        clear hc HO hsm hB
        go_wp2_with fail
        refine HSk.out.mono ?_
        rintro e w1 ⟨rfl, hb⟩
        have HB1 : Hid (Below w.heap.size w w1) := HB.out.trans (hb.mono HB.out.size)
        clear hb
        go_wp2
        go_roundw
        case rel => exact ⟨rfl, k + 1, by omega, by simp, HO2, HB1.out⟩
        case measure => simp [intOf]; omega
    · have hk' : k = l.length := by omega
      subst hk'
      have dk : decide ((l.length : Int) < l.length) = false := by simp
      have HY : Hid (FiR l s (-1)) := .inr ⟨rfl, getF_no fun j hj => HO.out j hj hj⟩
      clear HO
      have HBB : Hid (Below w.heap.size w wr) := hB
      clear hB
      go_wp2
      go_ret
      exact ⟨_, rfl, HY.out, HBB.out⟩
end Go.Proofs.YtbekpemidpngaaaGreatDoor
/- The law's Attrs; the reference's Get, its Attrs: walks. -/
namespace Go.Proofs.YtbekpemidpngaaaGreatDoor
open Go.RowKit

end Go.Proofs.YtbekpemidpngaaaGreatDoor
/- The reference's Attrs: its walk. -/
namespace Go.Proofs.YtbekpemidpngaaaGreatDoor
open Go.RowKit

end Go.Proofs.YtbekpemidpngaaaGreatDoor
/- The reference's begins, Holds, Lets: walks. -/
namespace Go.Proofs.YtbekpemidpngaaaGreatDoor
open Go.RowKit Go.ChangeMaps

end Go.Proofs.YtbekpemidpngaaaGreatDoor
/- The reference's Lets, filter.Holds: walks. -/
namespace Go.Proofs.YtbekpemidpngaaaGreatDoor
open Go.RowKit Go.ChangeMaps

end Go.Proofs.YtbekpemidpngaaaGreatDoor
/- slices.Equal of values, samePred, EqualFunc of predicates, filter.Same; the reference's Same: walks. -/
namespace Go.Proofs.YtbekpemidpngaaaGreatDoor
open Go.RowKit Go.ChangeMaps

def samV : List It → List It → Bool
  | [], [] => true
  | x :: l, y :: m => decide (x.k = y.k ∧ x.n = y.n ∧ x.s = y.s) && samV l m
  | _, _ => false
theorem samV_iff : ∀ {l m : List It}, samV l m = true ↔ l = m
  | [], [] => by simp [samV]
  | [], _ :: _ => by simp [samV]
  | _ :: _, [] => by simp [samV]
  | x :: l, y :: m => by
    obtain ⟨a, b, c⟩ := x
    obtain ⟨a', b', c'⟩ := y
    unfold samV
    rw [Bool.and_eq_true, decide_eq_true_eq, samV_iff]
    simp
def samP (x y : Pd) : Bool := decide (x.n = y.n) && (decide (x.o = y.o) && samV x.l y.l)
theorem samP_iff {x y : Pd} : samP x y = true ↔ x = y := by
  obtain ⟨a, b, c⟩ := x
  obtain ⟨a', b', c'⟩ := y
  unfold samP
  rw [Bool.and_eq_true, Bool.and_eq_true, decide_eq_true_eq, decide_eq_true_eq, samV_iff]
  simp
def samD : List Pd → List Pd → Bool
  | [], [] => true
  | x :: l, y :: m => samP x y && samD l m
  | _, _ => false
theorem samD_iff : ∀ {l m : List Pd}, samD l m = true ↔ l = m
  | [], [] => by simp [samD]
  | [], _ :: _ => by simp [samD]
  | _ :: _, [] => by simp [samD]
  | x :: l, y :: m => by
    unfold samD
    rw [Bool.and_eq_true, samP_iff, samD_iff]
    simp
theorem samV_no {l m : List It} (h : ¬ l = m) : samV l m = false := by
  cases hs : samV l m with
  | false => rfl
  | true => exact absurd (samV_iff.1 hs) h
theorem samD_no {l m : List Pd} (h : ¬ l = m) : samD l m = false := by
  cases hs : samD l m with
  | false => rfl
  | true => exact absurd (samD_iff.1 hs) h
set_option maxRecDepth 100000 in
set_option maxHeartbeats 4000000 in
theorem eqlV_any (u v : Value) (l m : List It) (w : World) (hu : IsRow w 3 u l.length (itCells l)) (hv : IsRow w 3 v m.length (itCells m)) (hl : l.length ≤ 1000000) (_hm : m.length ≤ 1000000) :
    Calls Tryz.prog 61 #[u, v] w fun e w' => e = .returned (.bool (samV l m)) ∧ Below w.heap.size w w' := by
  obtain ⟨a0, c0, rfl⟩ := hu.form
  obtain ⟨a1, c1, rfl⟩ := hv.form
  by_cases hlm : l.length = m.length
  rotate_left
  · have e0 : samV l m = false := samV_no fun e => hlm (by rw [e])
    have d0 : ((l.length : Int) != (m.length : Int)) = true := by simp; omega
    have d1 : (l.length != m.length) = true := by simpa using hlm
    rw [e0]
    clear hu hv e0
    go_enter Tryz.func61, Tryz.ntmps61
    go_wp2
    go_ret
    exact ⟨rfl, Below.refl _ _⟩
  have HU : Hid (IsRow w 3 (.slice a0 l.length c0) l.length (itCells l)) := hu
  have HV : Hid (IsRow w 3 (.slice a1 m.length c1) m.length (itCells m)) := hv
  have d0 : ((l.length : Int) != (m.length : Int)) = false := by simp; omega
  have d1 : (l.length != m.length) = false := by simpa using hlm
  have HL : Hid (l.length = m.length) := hlm
  clear hu hv hlm
  obtain ⟨S, HSd⟩ : ∃ S, Hid (samV l m = S) := ⟨_, rfl⟩
  rw [HSd.out]
  go_enter Tryz.func61, Tryz.ntmps61
  go_wp2_with fail
  go_loopw [4, 5, 13] (fun r _ i wr => r = .bool false ∧ ∃ j : Nat, j ≤ l.length ∧ i = .int .i64 (j : Int) ∧ Hid (∀ (k : Nat) (h : k < l.length) (h2 : k < m.length), k < j → l[k] = m[k]) ∧ Hid (Below w.heap.size w wr)) (fun _ _ i _ => l.length - (intOf i).toNat)
  case atStart => exact ⟨rfl, 0, by omega, rfl, (fun k h h2 hj => absurd hj (Nat.not_lt_zero _)), Below.refl _ _⟩
  case round =>
    obtain ⟨rfl, j, hj, rfl, HO, HB⟩ := hrel
    by_cases hlk0 : j < l.length
    · have dj : decide ((j : Int) < (l.length : Int)) = true := by simp; omega
      have hlk1 : j < m.length := by have := HL.out; omega
      obtain ⟨b0, o0, rfl, hlt0, p00, p01, p02⟩ := items_at HU.out j hlk0
      have HY0 : Hid (∀ W, Below w.heap.size w W → W.cell? ⟨b0, o0 + j * 3, none⟩ = some (.int .i64 l[j].k) ∧ W.cell? ⟨b0, o0 + j * 3 + 1, none⟩ = some (.int .i64 l[j].n) ∧ W.cell? ⟨b0, o0 + j * 3 + 2, none⟩ = some (.string l[j].s)) := fun W h => ⟨(h.cell (p := ⟨b0, _, none⟩) hlt0).trans p00, (h.cell (p := ⟨b0, _, none⟩) hlt0).trans p01, (h.cell (p := ⟨b0, _, none⟩) hlt0).trans p02⟩
      clear hlt0 p00 p01 p02
      obtain ⟨b1, o1, rfl, hlt1, p10, p11, p12⟩ := items_at HV.out j hlk1
      have HY1 : Hid (∀ W, Below w.heap.size w W → W.cell? ⟨b1, o1 + j * 3, none⟩ = some (.int .i64 m[j].k) ∧ W.cell? ⟨b1, o1 + j * 3 + 1, none⟩ = some (.int .i64 m[j].n) ∧ W.cell? ⟨b1, o1 + j * 3 + 2, none⟩ = some (.string m[j].s)) := fun W h => ⟨(h.cell (p := ⟨b1, _, none⟩) hlt1).trans p10, (h.cell (p := ⟨b1, _, none⟩) hlt1).trans p11, (h.cell (p := ⟨b1, _, none⟩) hlt1).trans p12⟩
      clear hlt1 p10 p11 p12
      have q1 : (0 : Int) ≤ (j : Int) := by omega
      have q2 : (j : Int) < (l.length : Int) := by omega
      have q3 : (j : Int) < (m.length : Int) := by omega
      have HO2 : Hid (l[j] = m[j] → ∀ (k : Nat) (h : k < l.length) (h2 : k < m.length), k < j + 1 → l[k] = m[k]) := fun hs k h h2 hk => by
        by_cases e : k = j
        · subst e; exact hs
        · exact HO.out k h h2 (by omega)
      have HN : Hid (¬ l[j] = m[j] → S = false) := fun h => HSd.out.symm.trans (samV_no fun e => h (by simp only [e]))
      clear HO
      generalize l[j]'hlk0 = x at *
      generalize m[j]'hlk1 = y at *
      obtain ⟨xk, xn, xs⟩ := x
      obtain ⟨yk, yn, ys⟩ := y
      dsimp only at HY0 HY1
      by_cases hq : (⟨xk, xn, xs⟩ : It) = ⟨yk, yn, ys⟩
      · have HO3 := HO2.out hq
        have HO4 : Hid (∀ (k : Nat) (h : k < l.length) (h2 : k < m.length), k < j + 1 → l[k] = m[k]) := HO3
        simp only [It.mk.injEq] at hq
        obtain ⟨rfl, rfl, rfl⟩ := hq
        clear HN HO2 HO3
        go_wp2_with fail
        refine wp_region_quiet (C := fun w' => Below wr.heap.size wr w') (by kernel_rfl) (by kernel_rfl) ((Below.refl _ _).drew) ?_
        dsimp only
        repeat (first
          | go_big_quiet_skip
          | (go_big_quiet_want
             apply Exists.intro
             refine ⟨fun W' hW' => ?_, ?_⟩
             · have hw : Below wr.heap.size wr W' := hW'
               obtain ⟨g0, g1, g2⟩ := HY0.out W' (bT HB.out hw)
               obtain ⟨m0, m1, m2⟩ := HY1.out W' (bT HB.out hw)
               go_simp
               first
                 | done
                 | rfl
             go_big_quiet_on
             try simp only [Act.put, List.setIfInBounds_toArray, List.set_cons_zero, List.set_cons_succ]))
        refine wpQuiet_nil ?_
        intro w2 hq5
        have HB5 : Hid (Below w.heap.size w w2) := bT HB.out hq5
        clear hq5
        go_wp2
        go_roundw
        case rel => exact ⟨rfl, j + 1, by omega, by simp, HO4.out, HB5.out⟩
        case measure => simp [intOf]; omega
      · have HN2 : Hid (S = false) := HN.out hq
        have hne : ¬ (xk = yk ∧ xn = yn ∧ xs.toList = ys.toList) := fun h => by
          obtain ⟨rfl, rfl, h4⟩ := h
          rw [ByteArray.toList_eq, ByteArray.toList_eq] at h4
          exact hq (by rw [ba_f h4])
        have HE : Hid (∀ W : World, (if xk = yk then if xn = yn then if xs.toList = ys.toList then Result.ok (Next.value (Value.bool false)) W else Result.ok (Next.value (Value.bool true)) W else Result.ok (Next.value (Value.bool true)) W else Result.ok (Next.value (Value.bool true)) W) = Result.ok (Next.value (Value.bool true)) W) := fun W => by
          by_cases h1 : xk = yk
          · by_cases h2 : xn = yn
            · by_cases h4 : xs.toList = ys.toList
              · exact absurd ⟨h1, h2, h4⟩ hne
              · simp [h1, h2, h4]
            · simp [h1, h2]
          · simp [h1]
        clear hq HN HO2 hne
        go_wp2_with fail
        refine wp_region_quiet (C := fun w' => Below wr.heap.size wr w') (by kernel_rfl) (by kernel_rfl) ((Below.refl _ _).drew) ?_
        dsimp only
        repeat (first
          | go_big_quiet_skip
          | (go_big_quiet_want
             apply Exists.intro
             refine ⟨fun W' hW' => ?_, ?_⟩
             · have hw : Below wr.heap.size wr W' := hW'
               obtain ⟨g0, g1, g2⟩ := HY0.out W' (bT HB.out hw)
               obtain ⟨m0, m1, m2⟩ := HY1.out W' (bT HB.out hw)
               go_simp
               first
                 | done
                 | rfl
                 | (rw [HE.out W']; exact ⟨rfl, rfl⟩)
             go_big_quiet_on
             try simp only [Act.put, List.setIfInBounds_toArray, List.set_cons_zero, List.set_cons_succ]))
        refine wpQuiet_nil ?_
        intro w2 hq5
        have HB5 : Hid (Below w.heap.size w w2) := bT HB.out hq5
        clear hq5
        go_wp2
        go_ret
        exact ⟨by rw [HN2.out]; rfl, HB5.out⟩
    · have hnl := hlk0
      have dj : decide ((j : Int) < (l.length : Int)) = false := by simp; omega
      have HY : Hid (S = true) := by
        show _ = _
        rw [← HSd.out]
        exact samV_iff.2 (List.ext_getElem HL.out fun k h h2 => HO.out k h h2 (by omega))
      clear HO
      go_wp2
      go_ret
      exact ⟨by rw [HY.out]; rfl, HB.out⟩
set_option maxRecDepth 100000 in
set_option maxHeartbeats 4000000 in
theorem samePred_any (x y : PR) (w : World) (hx : IsRow w 3 x.v x.y.l.length (itCells x.y.l)) (hy : IsRow w 3 y.v y.y.l.length (itCells y.y.l)) (hl : x.y.l.length ≤ 1000000) (hm : y.y.l.length ≤ 1000000) :
    Calls Tryz.prog 35 #[prV x, prV y] w fun e w' => e = .returned (.bool (samP x.y y.y)) ∧ Below w.heap.size w w' := by
  obtain ⟨⟨n, o, l⟩, a, c⟩ := x
  obtain ⟨⟨n', o', l'⟩, a', c'⟩ := y
  dsimp only [PR.v, prV] at *
  have HE : Hid (∀ W, Below w.heap.size w W → Calls Tryz.prog 61 #[.slice a l.length c, .slice a' l'.length c'] W fun e w' => e = .returned (.bool (samV l l')) ∧ Below W.heap.size W w') := fun W hb => eqlV_any _ _ l l' W (hx.below hb) (hy.below hb) hl hm
  have hP : samP ⟨n, o, l⟩ ⟨n', o', l'⟩ = (decide (n = n') && (decide (o = o') && samV l l')) := rfl
  rw [hP]
  clear hx hy hP
  generalize samV l l' = SV at *
  obtain ⟨w1, hw1⟩ : ∃ w1, w1 = w.alloc (.cells #[.string n, .int .i64 o, .slice a l.length c] 45) := ⟨_, rfl⟩
  have B1 : Hid (Below w.heap.size w w1) := by show Below _ _ _; rw [hw1]; exact al_b _ _
  have hn1 : w1.heap[w.heap.size]? = some (.cells #[.string n, .int .i64 o, .slice a l.length c] 45 (0, 0)) := by rw [hw1]; exact new_at _ _
  have C1 : Hid (∀ W, Below w1.heap.size w1 W → W.heap[w.heap.size]? = some (.cells #[.string n, .int .i64 o, .slice a l.length c] 45 (0, 0))) := fun W h => (h.block _ (Array.getElem?_eq_some_iff.1 hn1).1).trans hn1
  clear hn1
  obtain ⟨w2, hw2⟩ : ∃ w2, w2 = w1.alloc (.cells #[.string n', .int .i64 o', .slice a' l'.length c'] 45) := ⟨_, rfl⟩
  have B2 : Hid (Below w1.heap.size w1 w2) := by show Below _ _ _; rw [hw2]; exact al_b _ _
  have hn2 : w2.heap[(w.heap.size + 1)]? = some (.cells #[.string n', .int .i64 o', .slice a' l'.length c'] 45 (0, 0)) := by rw [hw2]; rw [show w.heap.size + 1 = w1.heap.size by (rw [hw1]; simp)]; exact new_at _ _
  have C2 : Hid (∀ W, Below w2.heap.size w2 W → W.heap[(w.heap.size + 1)]? = some (.cells #[.string n', .int .i64 o', .slice a' l'.length c'] 45 (0, 0))) := fun W h => (h.block _ (Array.getElem?_eq_some_iff.1 hn2).1).trans hn2
  clear hn2
  have hk := C1.out w2 B2.out
  have c1_0 : w2.cell? ⟨w.heap.size, 0, none⟩ = some (.string n) := by rw [Lib.cell_of_heap hk]; rfl
  have c1_1 : w2.cell? ⟨w.heap.size, 1, none⟩ = some (.int .i64 o) := by rw [Lib.cell_of_heap hk]; rfl
  have c1_2 : w2.cell? ⟨w.heap.size, 2, none⟩ = some (.slice a l.length c) := by rw [Lib.cell_of_heap hk]; rfl
  clear hk
  have hk := C2.out w2 (Below.refl _ _)
  have c2_0 : w2.cell? ⟨(w.heap.size + 1), 0, none⟩ = some (.string n') := by rw [Lib.cell_of_heap hk]; rfl
  have c2_1 : w2.cell? ⟨(w.heap.size + 1), 1, none⟩ = some (.int .i64 o') := by rw [Lib.cell_of_heap hk]; rfl
  have c2_2 : w2.cell? ⟨(w.heap.size + 1), 2, none⟩ = some (.slice a' l'.length c') := by rw [Lib.cell_of_heap hk]; rfl
  clear hk
  rw [hw2, hw1] at c1_0 c1_1 c1_2 c2_0 c2_1 c2_2
  by_cases hn : n = n'
  rotate_left
  · have d : (n.toList == n'.toList) = false := by
      rw [beq_eq_false_iff_ne]
      intro h
      rw [ByteArray.toList_eq, ByteArray.toList_eq] at h
      exact hn (ba_f h)
    rw [decide_eq_false hn, Bool.false_and]
    clear hn
    go_enter Tryz.func35, Tryz.ntmps35
    go_wp2_with fail
    rw [← hw1, ← hw2]
    go_ret
    exact ⟨rfl, bT B1.out B2.out⟩
  subst hn
  by_cases ho : o = o'
  rotate_left
  · have d : (o == o') = false := by simp [ho]
    rw [decide_eq_false ho, Bool.false_and, Bool.and_false]
    clear ho
    go_enter Tryz.func35, Tryz.ntmps35
    go_wp2_with fail
    rw [← hw1, ← hw2]
    go_ret
    exact ⟨rfl, bT B1.out B2.out⟩
  subst ho
  rw [decide_eq_true rfl, decide_eq_true rfl, Bool.true_and, Bool.true_and]
  go_enter Tryz.func35, Tryz.ntmps35
  go_wp2_with fail
  rw [← hw1, ← hw2]
  clear hw1 hw2 c1_0 c1_1 c1_2 c2_0 c2_1 c2_2
  refine (HE.out _ (bT B1.out B2.out)).mono ?_
  rintro e w3 ⟨rfl, hb⟩
  have B3 : Hid (Below w.heap.size w w3) := bT (bT B1.out B2.out) hb
  clear hb
  go_wp2
  go_ret
  exact ⟨rfl, B3.out⟩
set_option maxRecDepth 100000 in
set_option maxHeartbeats 8000000 in
theorem eqlP_any (u v : Value) (F G : List PR) (D E : List Pd) (w : World) (hu : IsFl w u F) (hv : IsFl w v G) (hF : F.map (·.y) = D) (hG : G.map (·.y) = E) (hl : F.length ≤ 1000000) (_hm : G.length ≤ 1000000) (hn : ∀ y ∈ D, y.l.length ≤ 1000000) (hn' : ∀ y ∈ E, y.l.length ≤ 1000000) :
    Calls Tryz.prog 34 #[u, v, .func (.func 35) #[] #[]] w fun e w' => e = .returned (.bool (samD D E)) ∧ Below w.heap.size w w' := by
  obtain ⟨a0, c0, rfl⟩ := hu.1.form
  obtain ⟨a1, c1, rfl⟩ := hv.1.form
  have hDl : D.length = F.length := by rw [← hF, List.length_map]
  have hEl : E.length = G.length := by rw [← hG, List.length_map]
  by_cases hlm : F.length = G.length
  rotate_left
  · have e0 : samD D E = false := samD_no fun e => hlm (by rw [← hDl, ← hEl, e])
    have d0 : ((F.length : Int) != (G.length : Int)) = true := by simp; omega
    have d1 : (F.length != G.length) = true := by simpa using hlm
    rw [e0]
    clear hu hv e0 hF hG hn hn' hDl hEl
    go_enter Tryz.func34, Tryz.ntmps34
    go_wp2
    go_ret
    exact ⟨rfl, Below.refl _ _⟩
  have d0 : ((F.length : Int) != (G.length : Int)) = false := by simp; omega
  have d1 : (F.length != G.length) = false := by simpa using hlm
  have HL : Hid (F.length = G.length) := hlm
  have HU : Hid (IsFl w (.slice a0 F.length c0) F) := hu
  have HV : Hid (IsFl w (.slice a1 G.length c1) G) := hv
  have HLa : Hid (∀ x ∈ F, x.y.l.length ≤ 1000000) := fun x hx => hn _ (by rw [← hF]; exact List.mem_map.2 ⟨x, hx, rfl⟩)
  have HLb : Hid (∀ x ∈ G, x.y.l.length ≤ 1000000) := fun x hx => hn' _ (by rw [← hG]; exact List.mem_map.2 ⟨x, hx, rfl⟩)
  have HNo : Hid (∀ j (h : j < F.length) (h2 : j < G.length), ¬ F[j].y = G[j].y → samD D E = false) := fun j h h2 hne => samD_no fun e => by
    have e2 : (F.map (·.y))[j]'(by rw [List.length_map]; exact h) = (G.map (·.y))[j]'(by rw [List.length_map]; exact h2) := by simp only [hF, hG, e]
    exact hne (by simpa using e2)
  have HYes : Hid ((∀ j (h : j < F.length) (h2 : j < G.length), F[j].y = G[j].y) → samD D E = true) := fun h => samD_iff.2 (by
    rw [← hF, ← hG]
    refine List.ext_getElem (by rw [List.length_map, List.length_map]; exact hlm) fun k h1 h2 => ?_
    rw [List.getElem_map, List.getElem_map]
    exact h k (by rw [List.length_map] at h1; exact h1) (by rw [List.length_map] at h2; exact h2))
  clear hu hv hF hG hn hn' hDl hEl hlm
  generalize samD D E = S at *
  go_enter Tryz.func34, Tryz.ntmps34
  go_wp2_with fail
  go_loopw [6, 7, 8, 9, 17] (fun r _ _ _ i wr => r = .bool false ∧ ∃ j : Nat, j ≤ F.length ∧ i = .int .i64 (j : Int) ∧ Hid (∀ (k : Nat) (h : k < F.length) (h2 : k < G.length), k < j → F[k].y = G[k].y) ∧ Hid (Below w.heap.size w wr)) (fun _ _ _ _ i _ => F.length - (intOf i).toNat)
  case atStart => exact ⟨rfl, 0, by omega, rfl, (fun k h h2 hj => absurd hj (Nat.not_lt_zero _)), Below.refl _ _⟩
  case round =>
    obtain ⟨rfl, j, hj, rfl, HO, HB⟩ := hrel
    by_cases hlk0 : j < F.length
    · have dj : decide ((j : Int) < (F.length : Int)) = true := by simp; omega
      have hlk1 : j < G.length := by have := HL.out; omega
      obtain ⟨b0, o0, rfl, hlt0, p00, p01, p02⟩ := p_at HU.out.1 j hlk0
      have HY0 : Hid (∀ W, Below w.heap.size w W → W.cell? ⟨b0, o0 + j * 3, none⟩ = some (.string F[j].y.n) ∧ W.cell? ⟨b0, o0 + j * 3 + 1, none⟩ = some (.int .i64 F[j].y.o) ∧ W.cell? ⟨b0, o0 + j * 3 + 2, none⟩ = some F[j].v) := fun W h => ⟨(h.cell (p := ⟨b0, _, none⟩) hlt0).trans p00, (h.cell (p := ⟨b0, _, none⟩) hlt0).trans p01, (h.cell (p := ⟨b0, _, none⟩) hlt0).trans p02⟩
      clear hlt0 p00 p01 p02
      obtain ⟨b1, o1, rfl, hlt1, p10, p11, p12⟩ := p_at HV.out.1 j hlk1
      have HY1 : Hid (∀ W, Below w.heap.size w W → W.cell? ⟨b1, o1 + j * 3, none⟩ = some (.string G[j].y.n) ∧ W.cell? ⟨b1, o1 + j * 3 + 1, none⟩ = some (.int .i64 G[j].y.o) ∧ W.cell? ⟨b1, o1 + j * 3 + 2, none⟩ = some G[j].v) := fun W h => ⟨(h.cell (p := ⟨b1, _, none⟩) hlt1).trans p10, (h.cell (p := ⟨b1, _, none⟩) hlt1).trans p11, (h.cell (p := ⟨b1, _, none⟩) hlt1).trans p12⟩
      clear hlt1 p10 p11 p12
      have q1 : (0 : Int) ≤ (j : Int) := by omega
      have q2 : (j : Int) < (F.length : Int) := by omega
      have q3 : (j : Int) < (G.length : Int) := by omega
      have HC : Hid (∀ W, Below w.heap.size w W → Calls Tryz.prog 35 #[prV F[j], prV G[j]] W fun e w' => e = .returned (.bool (samP F[j].y G[j].y)) ∧ Below W.heap.size W w') := fun W hb => samePred_any _ _ W ((HU.out.2 _ (List.getElem_mem hlk0)).below hb) ((HV.out.2 _ (List.getElem_mem hlk1)).below hb) (HLa.out _ (List.getElem_mem hlk0)) (HLb.out _ (List.getElem_mem hlk1))
      have HO2 : Hid (samP F[j].y G[j].y = true → ∀ (k : Nat) (h : k < F.length) (h2 : k < G.length), k < j + 1 → F[k].y = G[k].y) := fun hs k h h2 hk => by
        by_cases e : k = j
        · subst e; exact samP_iff.1 hs
        · exact HO.out k h h2 (by omega)
      have HN : Hid (samP F[j].y G[j].y = false → S = false) := fun h => HNo.out j hlk0 hlk1 fun e => by rw [samP_iff.2 e] at h; cases h
      clear HO HNo HYes HU HV HLa HLb
      generalize samP F[j].y G[j].y = B at *
      generalize F[j]'hlk0 = x at *
      generalize G[j]'hlk1 = y at *
      obtain ⟨⟨n, o, l⟩, a, c⟩ := x
      obtain ⟨⟨n', o', l'⟩, a', c'⟩ := y
      dsimp only [prV, PR.v] at *
      obtain ⟨g0, g1, g2⟩ := HY0.out wr HB.out
      obtain ⟨wa, hwa⟩ : ∃ wa, wa = wr.alloc (.cells #[.string n, .int .i64 o, .slice a l.length c] 45) := ⟨_, rfl⟩
      have HBa : Hid (Below w.heap.size w wa) := by show Below _ _ _; rw [hwa]; exact bT HB.out (al_f _ _)
      obtain ⟨m0, m1, m2⟩ := HY1.out wa HBa.out
      obtain ⟨wb, hwb⟩ : ∃ wb, wb = wa.alloc (.cells #[.string n', .int .i64 o', .slice a' l'.length c'] 45) := ⟨_, rfl⟩
      have HBb : Hid (Below w.heap.size w wb) := by show Below _ _ _; rw [hwb]; exact bT HBa.out (al_f _ _)
      have hka : wa.heap[wr.heap.size]? = some (.cells #[.string n, .int .i64 o, .slice a l.length c] 45 (0, 0)) := by rw [hwa]; exact nw_at _ _
      have hab : Below wa.heap.size wa wb := by rw [hwb]; exact al_f _ _
      have hka2 := (hab.block _ (Array.getElem?_eq_some_iff.1 hka).1).trans hka
      have r0 : wb.cell? ⟨wr.heap.size, 0, none⟩ = some (.string n) := by rw [Lib.cell_of_heap hka2]; rfl
      have r1 : wb.cell? ⟨wr.heap.size, 1, none⟩ = some (.int .i64 o) := by rw [Lib.cell_of_heap hka2]; rfl
      have r2 : wb.cell? ⟨wr.heap.size, 2, none⟩ = some (.slice a l.length c) := by rw [Lib.cell_of_heap hka2]; rfl
      clear hka hka2 hab
      rw [hwb, hwa] at r0 r1 r2
      rw [hwa] at m0 m1 m2
      go_wp2_with fail
      rw [← hwa, ← hwb]
      clear hwa hwb g0 g1 g2 m0 m1 m2 r0 r1 r2
      refine (HC.out _ HBb.out).mono ?_
      rintro e w5 ⟨rfl, hb⟩
      have HB5 : Hid (Below w.heap.size w w5) := bT HBb.out hb
      clear hb HC
      cases B with
      | true =>
        have HO4 : Hid (∀ (k : Nat) (h : k < F.length) (h2 : k < G.length), k < j + 1 → F[k].y = G[k].y) := HO2.out rfl
        clear HO2 HN
        go_wp2
        go_roundw
        case rel => exact ⟨rfl, j + 1, by omega, by simp, HO4.out, HB5.out⟩
        case measure => simp [intOf]; omega
      | false =>
        have HZ : Hid (S = false) := HN.out rfl
        clear HO2 HN
        go_wp2
        go_ret
        exact ⟨by rw [HZ.out]; rfl, HB5.out⟩
    · have hnl := hlk0
      have dj : decide ((j : Int) < (F.length : Int)) = false := by simp; omega
      have HZ : Hid (S = true) := HYes.out fun k h h2 => HO.out k h h2 (by omega)
      clear HO HNo HYes
      go_wp2
      go_ret
      exact ⟨by rw [HZ.out]; rfl, HB.out⟩
set_option maxRecDepth 100000 in
theorem sameX_any (u v : Value) (F G : List PR) (D E : List Pd) (w : World) (hu : IsFl w u F) (hv : IsFl w v G) (hF : F.map (·.y) = D) (hG : G.map (·.y) = E) (hl : F.length ≤ 1000000) (_hm : G.length ≤ 1000000) (hn : ∀ y ∈ D, y.l.length ≤ 1000000) (hn' : ∀ y ∈ E, y.l.length ≤ 1000000) :
    Calls Tryz.prog 16 #[u, v] w fun e w' => e = .returned (.bool (samD D E)) ∧ Below w.heap.size w w' := by
  obtain ⟨a0, c0, rfl⟩ := hu.1.form
  obtain ⟨a1, c1, rfl⟩ := hv.1.form
  have hDl : D.length = F.length := by rw [← hF, List.length_map]
  have hEl : E.length = G.length := by rw [← hG, List.length_map]
  have HC : Hid (Calls Tryz.prog 34 #[.slice a0 F.length c0, .slice a1 G.length c1, .func (.func 35) #[] #[]] w fun e w' => e = .returned (.bool (samD D E)) ∧ Below w.heap.size w w') := eqlP_any _ _ F G D E w hu hv hF hG hl _hm hn hn'
  clear hu hv hF hG hn hn' hDl hEl
  generalize samD D E = S at *
  go_enter Tryz.func16, Tryz.ntmps16
  go_wp2_with fail
  refine HC.out.mono ?_
  rintro e w1 ⟨rfl, hb⟩
  have B1 : Hid (Below w.heap.size w w1) := hb
  clear hb
  go_wp2
  go_ret
  exact ⟨rfl, B1.out⟩
end Go.Proofs.YtbekpemidpngaaaGreatDoor
