/- The law's Attrs; the reference's Get, its Attrs: walks. -/
import Derived.Test.YtbekpemidpngaaaGreatDoorZk31
import Derived.Deep.AppendLies
namespace Go.Proofs.YtbekpemidpngaaaGreatDoor
open Go.RowKit

/-- A row of attributes, handed back. -/
def RaPost (l : List At) (w : World) (e : Ending) (w' : World) : Prop := ∃ v, e = .returned v ∧ IsRow w' 4 v l.length (aCells l) ∧ Below w.heap.size w w'
theorem info_ra : (Tryz.prog.info? 76).map (fun i => (i.zero, i.size, i.bytes)) = some (some (.agg #[.string ⟨#[]⟩, .int .i64 0, .int .i64 0, .string ⟨#[]⟩]), 4, 48) := by kernel_rfl
theorem a_take (l : List At) (k : Nat) (hk : k < l.length) : aCells (l.take (k + 1)) = aCells (l.take k) ++ enA l[k] := by
  rw [List.take_succ_eq_append_getElem hk, aCells, List.flatMap_append]
  simp [aCells]
set_option maxRecDepth 100000 in
set_option maxHeartbeats 4000000 in
theorem attrsR_any (v : Value) (l : List At) (w : World) (hr : IsRow w 4 v l.length (aCells l)) (hl : l.length ≤ 1000000) :
    Calls Tryz.prog 19 #[v] w fun e w' => RaPost l w e w' := by
  obtain ⟨a0, cap0, rfl⟩ := hr.form
  have HR : Hid (IsRow w 4 (.slice a0 l.length cap0) l.length (aCells l)) := hr
  clear hr
  obtain ⟨i0, hi0, hz0, hz1, hz2⟩ := info_parts info_ra
  go_enter Tryz.func19, Tryz.ntmps19
  go_wp2_with fail
  go_loopw [3, 4] (fun r i wr => ∃ k : Nat, k ≤ l.length ∧ i = .int .i64 (k : Int) ∧ Hid (wr.ownsRow w.heap.size 76 4 r k (aCells (l.take k))) ∧ Below w.heap.size w wr) (fun _ i _ => l.length - (intOf i).toNat)
  case atStart => exact ⟨0, Nat.zero_le _, rfl, World.ownsRow_nil _ _ _ _, Below.refl _ _⟩
  case round =>
    obtain ⟨k, hk, rfl, HO, hB⟩ := hrel
    have hsz := hB.size
    by_cases hlk : k < l.length
    · have dk : decide ((k : Int) < l.length) = true := by simp; omega
      obtain ⟨b, off, rfl, hlt, hcap, hc⟩ := a_at HR.out (by omega)
      obtain ⟨k0, k1, k2, k3⟩ := hc k hlk
      have ck0 := (hB.cell (p := ⟨b, off + k * 4, none⟩) hlt).trans k0
      have ck1 := (hB.cell (p := ⟨b, off + k * 4 + 1, none⟩) hlt).trans k1
      have ck2 := (hB.cell (p := ⟨b, off + k * 4 + 2, none⟩) hlt).trans k2
      have ck3 := (hB.cell (p := ⟨b, off + k * 4 + 3, none⟩) hlt).trans k3
      have HTh : Hid (aCells (l.take (k + 1)) = aCells (l.take k) ++ enA l[k]) := a_take l k hlk
      have hne : some b ≠ u3.ownBlock := fun e => by have := (HO.out.lt b e.symm).1; omega
      have hbw : b < wr.heap.size := by omega
      have HBr : Hid (Below w.heap.size w wr) := hB
      generalize l[k]'hlk = x at *
      obtain ⟨an, ak, av, as'⟩ := x
      dsimp only at *
      have q1 : (0 : Int) ≤ (k : Int) := by omega
      have q2 : (k : Int) < (l.length : Int) := by omega
      clear hc k0 k1 k2 k3 hB
      go_wp2_with fail
      go_region_held3 (fun w' => w'.cell? ⟨b, off + k * 4, none⟩ = some (.string an) ∧ w'.cell? ⟨b, off + k * 4 + 1, none⟩ = some (.int .i64 ak) ∧ w'.cell? ⟨b, off + k * 4 + 2, none⟩ = some (.int .i64 av) ∧ w'.cell? ⟨b, off + k * 4 + 3, none⟩ = some (.string as'))
        (first
          | go_keep
          | (go_split_ands
             refine ⟨?_, ?_, ?_, ?_⟩
             all_goals (rw [hgrow.cell_far _ (by simp; omega) hne]; assumption)))
        ((refine step_append_lies _ (by rfl) _ _ _ (by rfl) w.heap.size 76 i0 _ 4 48 Tryz.underlying40 hi0 hz0 hz1 hz2 rfl (by omega) u3 k (aCells (l.take k)) (by rfl) ((HO.out.alloc _).drew)
            ⟨wr.heap.size, 0, none⟩ 1 1 [.string an, .int .i64 ak, .int .i64 av, .string as'] (by rfl) (by rfl) (World.news_of_block (cs := #[.string an, .int .i64 ak, .int .i64 av, .string as']) (t := 76) (fr := (0, 0)) (heap_alloc_new wr _)) (by simp [Value.oneCell'])
            (by omega) (by unfold maxLen; omega) (by omega) (by simp; omega) (wr.heap.size + 1) (by simp) ?_; intro gg cap w1 hown1 hgrow hat hlt1))
      have HO2 : Hid (w1.ownsRow w.heap.size 76 4 (.slice (some ⟨gg, 0, none⟩) (k + 1) cap) (k + 1) (aCells (l.take (k + 1)))) := by
        show World.ownsRow _ _ _ _ _ _ _
        rw [HTh.out]; exact hown1
      have HB2 : Hid (Below w.heap.size w w1) := (HBr.out.trans ((al_b wr _).drew.mono hsz)).grown hgrow (by simp; omega) (fun k hk => (HO.out.lt k hk).1)
      clear hown1 hgrow hat hlt1 HTh HO
      go_wp2
      go_roundw
      case rel => exact ⟨k + 1, by omega, by simp, HO2, HB2.out⟩
      case measure => simp [intOf]; omega
    · have hk' : k = l.length := by omega
      subst hk'
      have dk : decide ((l.length : Int) < l.length) = false := by simp
      have hown := HO.out
      rw [List.take_of_length_le (Nat.le_refl _)] at hown
      have HX : Hid (IsRow wr 4 u3 l.length (aCells l) ∧ Below w.heap.size w wr) := ⟨IsRow.own hown, hB⟩
      clear hown hB
      go_wp2
      go_ret
      exact ⟨_, rfl, HX.out.1, HX.out.2⟩
def NmRA (l : List At) : Prop := ∀ x ∈ l, x.n.size ≤ 200000 ∧ x.s.size ≤ 140737488355328
/-- The place of the first attribute of a name; below 0: none. -/
def GiR (l : List At) (s : ByteArray) (r : Int) : Prop := (∃ (k : Nat) (h : k < l.length), r = k ∧ getA l s = some l[k]) ∨ (r = -1 ∧ getA l s = none)
set_option maxRecDepth 100000 in
set_option maxHeartbeats 1000000 in
theorem refGetA_any (v : Value) (l : List At) (s : ByteArray) (w : World) (hr : IsRow w 4 v l.length (aCells l)) (hl : l.length ≤ 1000000) (hn : NmRA l) (hs : s.size ≤ 200000) :
    Calls Tryz.prog 38 #[v, .string s] w fun e w' => ∃ r, e = .returned (.int .i64 r) ∧ GiR l s r ∧ Below w.heap.size w w' := by
  obtain ⟨a0, cap0, rfl⟩ := hr.form
  have HR : Hid (IsRow w 4 (.slice a0 l.length cap0) l.length (aCells l)) := hr
  have HS : Hid (∀ (k : Nat) (h : k < l.length) (w' : World), Calls Tryz.prog 60 #[.string l[k].n, .string s] w' fun e w'' => e = .returned (.bool (sameL l[k].n.data.toList s.data.toList)) ∧ Below w'.heap.size w' w'') := fun k h w' => refSameN_any _ _ w' (by have := (hn _ (List.getElem_mem h)).1; omega) (by omega)
  clear hr hn
  go_enter Tryz.func38, Tryz.ntmps38
  go_wp2_with fail
  go_loopw [4, 5] (fun r i wr => r = .int .i64 0 ∧ ∃ k : Nat, k ≤ l.length ∧ i = .int .i64 (k : Int) ∧ Hid (∀ (j : Nat) (h : j < l.length), j < k → sameL l[j].n.data.toList s.data.toList = false) ∧ Below w.heap.size w wr) (fun _ i _ => l.length - (intOf i).toNat)
  case atStart => exact ⟨rfl, 0, Nat.zero_le _, rfl, fun j h hj => absurd hj (Nat.not_lt_zero _), Below.refl _ _⟩
  case round =>
    obtain ⟨rfl, k, hk, rfl, HO, hB⟩ := hrel
    by_cases hlk : k < l.length
    · have dk : decide ((k : Int) < l.length) = true := by simp; omega
      obtain ⟨b, off, rfl, hlt, hcap, hc⟩ := a_at (HR.out.below hB) (by omega)
      obtain ⟨ck0, -⟩ := hc k hlk
      have HSk : Hid (Calls Tryz.prog 60 #[.string l[k].n, .string s] wr fun e w'' => e = .returned (.bool (sameL l[k].n.data.toList s.data.toList)) ∧ Below wr.heap.size wr w'') := HS.out k hlk wr
      have HB : Hid (Below w.heap.size w wr) := hB
      cases hsm : sameL l[k].n.data.toList s.data.toList with
      | true =>
        have HY : Hid (GiR l s k) := .inl ⟨k, hlk, rfl, getA_at hlk HO.out hsm⟩
        rw [hsm] at HSk
        generalize l[k].n = nm at *
        clear hc HO hsm hB
        go_wp2_with fail
        refine HSk.out.mono ?_
        rintro e w1 ⟨rfl, hb⟩
        have HB1 : Hid (Below w.heap.size w w1) := HB.out.trans (hb.mono HB.out.size)
        clear hb
        go_wp2
        go_ret
        exact ⟨_, rfl, HY.out, HB1.out⟩
      | false =>
        have HO2 : Hid (∀ (j : Nat) (h : j < l.length), j < k + 1 → sameL l[j].n.data.toList s.data.toList = false) := fun j h hj => by
          by_cases e : j = k
          · subst e; exact hsm
          · exact HO.out j h (by omega)
        rw [hsm] at HSk
        generalize l[k].n = nm at *
        clear hc HO hsm hB
        go_wp2_with fail
        refine HSk.out.mono ?_
        rintro e w1 ⟨rfl, hb⟩
        have HB1 : Hid (Below w.heap.size w w1) := HB.out.trans (hb.mono HB.out.size)
        clear hb
        go_wp2
        go_roundw
        case rel => exact ⟨rfl, k + 1, by omega, by simp, HO2, HB1.out⟩
        case measure => simp [intOf]; omega
    · have hk' : k = l.length := by omega
      subst hk'
      have dk : decide ((l.length : Int) < l.length) = false := by simp
      have HY : Hid (GiR l s (-1)) := .inr ⟨rfl, getA_no fun j hj => HO.out j hj hj⟩
      clear HO
      have HBB : Hid (Below w.heap.size w wr) := hB
      clear hB
      go_wp2
      go_ret
      exact ⟨_, rfl, HY.out, HBB.out⟩
end Go.Proofs.YtbekpemidpngaaaGreatDoor
/- The reference's Attrs: its walk. -/
namespace Go.Proofs.YtbekpemidpngaaaGreatDoor
open Go.RowKit

/-- An attribute and the one ahead of it, where they lie. -/
def CX (b o o2 : Nat) (x y : At) (w0 w : World) : Prop := (w.cell? ⟨b, o, none⟩ = some (.string x.n) ∧ w.cell? ⟨b, o + 1, none⟩ = some (.int .i64 x.k) ∧ w.cell? ⟨b, o + 2, none⟩ = some (.int .i64 x.v) ∧ w.cell? ⟨b, o + 3, none⟩ = some (.string x.s) ∧ w.cell? ⟨b, o2, none⟩ = some (.string y.n)) ∧ b < w.heap.size ∧ Below w0.heap.size w0 w
theorem CX_call {b o o2 : Nat} {x y : At} {w0 W w' : World} (hb : Below W.heap.size W w') (h : CX b o o2 x y w0 W) : CX b o o2 x y w0 w' := by
  obtain ⟨⟨c0, c1, c2, c3, c4⟩, l, B⟩ := h
  exact ⟨⟨(hb.cell (p := ⟨b, o, none⟩) l).trans c0, (hb.cell (p := ⟨b, o + 1, none⟩) l).trans c1, (hb.cell (p := ⟨b, o + 2, none⟩) l).trans c2, (hb.cell (p := ⟨b, o + 3, none⟩) l).trans c3, (hb.cell (p := ⟨b, o2, none⟩) l).trans c4⟩, Nat.lt_of_lt_of_le l hb.size, B.trans (hb.mono B.size)⟩
theorem CX_drew {b o o2 : Nat} {x y : At} {w0 W : World} (h : CX b o o2 x y w0 W) : CX b o o2 x y w0 W.drew := CX_call (Below.refl _ _).drew h
theorem allA (l : List At) (h : ∀ (k : Nat) (h : k < l.length), okA l k h) : chkA l = decide (l.length ≤ 24) := by unfold chkA; rw [decide_eq_true h, Bool.and_true]
set_option maxRecDepth 100000 in
set_option maxHeartbeats 4000000 in
theorem refAttrsA_any (v : Value) (l : List At) (w : World) (hr : IsRow w 4 v l.length (aCells l)) (hl : l.length ≤ 1000000) (hn : NmRA l) :
    Calls Tryz.prog 37 #[v] w fun e w' => e = .returned (.bool (chkA l)) ∧ Below w.heap.size w w' := by
  obtain ⟨a0, cap0, rfl⟩ := hr.form
  have HR : Hid (IsRow w 4 (.slice a0 l.length cap0) l.length (aCells l)) := hr
  have HS : Hid (∀ (k : Nat) (h : k < l.length) (w' : World), Calls Tryz.prog 52 #[.string l[k].n] w' fun e w'' => e = .returned (.bool (oneP l[k].n)) ∧ Below w'.heap.size w' w'') := fun k h w' => refSimple_any _ w' (by have := (hn _ (List.getElem_mem h)).1; omega)
  have HV : Hid (∀ (k : Nat) (h : k < l.length) (w' : World), Calls Tryz.prog 54 #[vv l[k].k l[k].v l[k].s] w' fun e w'' => e = .returned (.bool (chkV l[k].k l[k].v l[k].s)) ∧ Below w'.heap.size w' w'') := fun k h w' => refVCheck_any _ _ _ w' (hn _ (List.getElem_mem h)).2
  have HC : Hid (∀ (j k : Nat) (h1 : j < l.length) (h : k < l.length) (w' : World), Calls Tryz.prog 59 #[.string l[j].n, .string l[k].n] w' fun e w'' => e = .returned (.int .i64 (cmpL l[j].n.data.toList l[k].n.data.toList)) ∧ Below w'.heap.size w' w'') := fun j k h1 h w' => refCompare_any _ _ w' (hn _ (List.getElem_mem h1)).1 (hn _ (List.getElem_mem h)).1
  clear hr hn
  go_enter Tryz.func37, Tryz.ntmps37
  go_wp2_with fail
  go_loopw [2, 3] (fun r i wr => r = .bool false ∧ ∃ k : Nat, k ≤ l.length ∧ i = .int .i64 (k : Int) ∧ Hid (∀ (j : Nat) (h : j < l.length), j < k → okA l j h) ∧ Below w.heap.size w wr) (fun _ i _ => l.length - (intOf i).toNat)
  case atStart => exact ⟨rfl, 0, Nat.zero_le _, rfl, fun j h hj => absurd hj (Nat.not_lt_zero _), Below.refl _ _⟩
  case round =>
    obtain ⟨rfl, k, hk, rfl, HO, hB⟩ := hrel
    by_cases hlk : k < l.length
    · have dk : decide ((k : Int) < l.length) = true := by simp; omega
      obtain ⟨b, off, rfl, hlt, hcap, hc⟩ := a_at (HR.out.below hB) (by omega)
      obtain ⟨ck0, ck1, ck2, ck3⟩ := hc k hlk
      have HSk : Hid (∀ w', Calls Tryz.prog 52 #[.string l[k].n] w' fun e w'' => e = .returned (.bool (oneP l[k].n)) ∧ Below w'.heap.size w' w'') := HS.out k hlk
      have HVk : Hid (∀ w', Calls Tryz.prog 54 #[vv l[k].k l[k].v l[k].s] w' fun e w'' => e = .returned (.bool (chkV l[k].k l[k].v l[k].s)) ∧ Below w'.heap.size w' w'') := HV.out k hlk
      have q7 : (0 : Int) ≤ (k : Int) := by omega
      have q8 : (k : Int) < (l.length : Int) := by omega
      have hmay : mayA l[k] = (oneP l[k].n && chkV l[k].k l[k].v l[k].s) := rfl
      cases k with
      | zero =>
        rw [Nat.zero_mul, Nat.add_zero] at ck0 ck1 ck2 ck3
        have hS : CX b off off l[0] l[0] w wr := ⟨⟨ck0, ck1, ck2, ck3, ck0⟩, hlt, hB⟩
        have hok : okA l 0 hlk ↔ (oneP l[0].n && chkV l[0].k l[0].v l[0].s) = true := ⟨fun h => h.1, fun h => ⟨h, fun j e => absurd e (by omega)⟩⟩
        have HO2 : Hid ((oneP l[0].n && chkV l[0].k l[0].v l[0].s) = true → ∀ (j : Nat) (h : j < l.length), j < 0 + 1 → okA l j h) := fun hm j h hj => by
          obtain rfl : j = 0 := by omega
          exact hok.2 hm
        have HNo : Hid ((oneP l[0].n && chkV l[0].k l[0].v l[0].s) = false → chkA l = false) := fun hm => chkA_no (k := 0) hlk fun h => by rw [hok.1 h] at hm; cases hm
        clear hmay hok
        generalize oneP l[0].n = r at *
        generalize chkV l[0].k l[0].v l[0].s = q at *
        generalize l[0]'hlk = x at *
        obtain ⟨s, kk, nn, tt⟩ := x
        clear hc HO
        have dk0 : decide ((0 : Int) < (l.length : Int)) = true := decide_eq_true (by omega)
        have hS0 := CX_drew hS
        cases r with
        | false =>
          go_wp2_with fail
          refine wp_region_quiet (C := fun w' => CX b off off ⟨s, kk, nn, tt⟩ ⟨s, kk, nn, tt⟩ w w') (by kernel_rfl) (by kernel_rfl) hS0 ?_
          dsimp only
          repeat (first
            | go_big_quiet_skip
            | (go_big_quiet_want
               apply Exists.intro
               refine ⟨fun W' hW' => ?_, ?_⟩
               · obtain ⟨⟨g0, g1, g2, g3, g4⟩, -, -⟩ := (show CX b off off ⟨s, kk, nn, tt⟩ ⟨s, kk, nn, tt⟩ w W' from hW')
                 go_simp
                 first
                   | done
                   | rfl
                   | (go_at_call 52; refine (HSk.out W').mono ?_; rintro e w'' ⟨rfl, hb⟩; exact ⟨rfl, CX_call hb hW'⟩)
                   | (go_at_call 54; refine (HVk.out W').mono ?_; rintro e w'' ⟨rfl, hb⟩; exact ⟨rfl, CX_call hb hW'⟩)
               go_big_quiet_on
               try simp only [Act.put, List.setIfInBounds_toArray, List.set_cons_zero, List.set_cons_succ]))
          refine wpQuiet_nil ?_
          intro w2 hS2
          have HBB : Hid (Below w.heap.size w _) := (show CX b off off ⟨s, kk, nn, tt⟩ ⟨s, kk, nn, tt⟩ w w2 from hS2).2.2
          clear hS hS0 hS2
          go_wp2
          go_ret
          exact ⟨by rw [HNo.out (by rfl)]; rfl, HBB.out⟩
        | true =>
          cases q with
          | false =>
            go_wp2_with fail
            refine wp_region_quiet (C := fun w' => CX b off off ⟨s, kk, nn, tt⟩ ⟨s, kk, nn, tt⟩ w w') (by kernel_rfl) (by kernel_rfl) hS0 ?_
            dsimp only
            repeat (first
              | go_big_quiet_skip
              | (go_big_quiet_want
                 apply Exists.intro
                 refine ⟨fun W' hW' => ?_, ?_⟩
                 · obtain ⟨⟨g0, g1, g2, g3, g4⟩, -, -⟩ := (show CX b off off ⟨s, kk, nn, tt⟩ ⟨s, kk, nn, tt⟩ w W' from hW')
                   go_simp
                   first
                     | done
                     | rfl
                     | (go_at_call 52; refine (HSk.out W').mono ?_; rintro e w'' ⟨rfl, hb⟩; exact ⟨rfl, CX_call hb hW'⟩)
                     | (go_at_call 54; refine (HVk.out W').mono ?_; rintro e w'' ⟨rfl, hb⟩; exact ⟨rfl, CX_call hb hW'⟩)
                 go_big_quiet_on
                 try simp only [Act.put, List.setIfInBounds_toArray, List.set_cons_zero, List.set_cons_succ]))
            refine wpQuiet_nil ?_
            intro w2 hS2
            have HBB : Hid (Below w.heap.size w _) := (show CX b off off ⟨s, kk, nn, tt⟩ ⟨s, kk, nn, tt⟩ w w2 from hS2).2.2
            clear hS hS0 hS2
            go_wp2
            go_ret
            exact ⟨by rw [HNo.out (by rfl)]; rfl, HBB.out⟩
          | true =>
            go_wp2_with fail
            refine wp_region_quiet (C := fun w' => CX b off off ⟨s, kk, nn, tt⟩ ⟨s, kk, nn, tt⟩ w w') (by kernel_rfl) (by kernel_rfl) hS0 ?_
            dsimp only
            repeat (first
              | go_big_quiet_skip
              | (go_big_quiet_want
                 apply Exists.intro
                 refine ⟨fun W' hW' => ?_, ?_⟩
                 · obtain ⟨⟨g0, g1, g2, g3, g4⟩, -, -⟩ := (show CX b off off ⟨s, kk, nn, tt⟩ ⟨s, kk, nn, tt⟩ w W' from hW')
                   go_simp
                   first
                     | done
                     | rfl
                     | (go_at_call 52; refine (HSk.out W').mono ?_; rintro e w'' ⟨rfl, hb⟩; exact ⟨rfl, CX_call hb hW'⟩)
                     | (go_at_call 54; refine (HVk.out W').mono ?_; rintro e w'' ⟨rfl, hb⟩; exact ⟨rfl, CX_call hb hW'⟩)
                 go_big_quiet_on
                 try simp only [Act.put, List.setIfInBounds_toArray, List.set_cons_zero, List.set_cons_succ]))
            refine wpQuiet_nil ?_
            intro w2 hS2
            have HBB : Hid (Below w.heap.size w _) := (show CX b off off ⟨s, kk, nn, tt⟩ ⟨s, kk, nn, tt⟩ w w2 from hS2).2.2
            clear hS hS0 hS2
            go_wp2
            go_roundw
            case rel => exact ⟨rfl, 0 + 1, by omega, by simp, HO2.out (by rfl), HBB.out⟩
            case measure => simp [intOf]; omega
      | succ j =>
        have hj : j < l.length := by omega
        obtain ⟨cj0, -⟩ := hc j hj
        have hS : CX b (off + (j + 1) * 4) (off + j * 4) l[j + 1] l[j] w wr := ⟨⟨ck0, ck1, ck2, ck3, cj0⟩, hlt, hB⟩
        have HCk : Hid (∀ w', Calls Tryz.prog 59 #[.string l[j].n, .string l[j + 1].n] w' fun e w'' => e = .returned (.int .i64 (cmpL l[j].n.data.toList l[j + 1].n.data.toList)) ∧ Below w'.heap.size w' w'') := HC.out j (j + 1) hj hlk
        have hok : okA l (j + 1) hlk ↔ (oneP l[j + 1].n && chkV l[j + 1].k l[j + 1].v l[j + 1].s) = true ∧ cmpL l[j].n.data.toList l[j + 1].n.data.toList < 0 := ⟨fun h => ⟨h.1, h.2 j rfl⟩, fun h => ⟨h.1, fun i e => by cases e; exact h.2⟩⟩
        have HO2 : Hid ((oneP l[j + 1].n && chkV l[j + 1].k l[j + 1].v l[j + 1].s) = true → cmpL l[j].n.data.toList l[j + 1].n.data.toList < 0 → ∀ (i : Nat) (h : i < l.length), i < j + 1 + 1 → okA l i h) := fun hm hm2 i h hi => by
          by_cases e : i = j + 1
          · subst e; exact hok.2 ⟨hm, hm2⟩
          · exact HO.out i h (by omega)
        have HNo : Hid ((oneP l[j + 1].n && chkV l[j + 1].k l[j + 1].v l[j + 1].s) = false ∨ ¬ cmpL l[j].n.data.toList l[j + 1].n.data.toList < 0 → chkA l = false) := fun hm => chkA_no (k := j + 1) hlk fun h => by
          rcases hm with hm | hm
          · rw [(hok.1 h).1] at hm; cases hm
          · exact hm (hok.1 h).2
        clear hmay hok
        generalize oneP l[j + 1].n = r at *
        generalize chkV l[j + 1].k l[j + 1].v l[j + 1].s = q at *
        generalize cmpL l[j].n.data.toList l[j + 1].n.data.toList = c at *
        generalize l[j + 1]'hlk = x at *
        generalize l[j]'hj = y at *
        obtain ⟨s, kk, nn, tt⟩ := x
        obtain ⟨s', kk', nn', tt'⟩ := y
        clear hc HO
        have q1 : IntKind.i64.wrap (j : Int) = (j : Int) := by rw [IntKind.wrap_i64]; omega
        have q2 : (0 : Int) ≤ (j : Int) := by omega
        have q3 : (j : Int) < (l.length : Int) := by omega
        have q4 : (j : Int) + 1 - 1 = (j : Int) := by omega
        have q5 : decide ((0 : Int) < (j : Int) + 1) = true := decide_eq_true (by omega)
        have q9 : (0 : Int) ≤ (j : Int) + 1 := by omega
        have q10 : (j : Int) + 1 < (l.length : Int) := by omega
        have hS0 := CX_drew hS
        cases r with
        | false =>
          go_wp2_with fail
          refine wp_region_quiet (C := fun w' => CX b (off + (j + 1) * 4) (off + j * 4) ⟨s, kk, nn, tt⟩ ⟨s', kk', nn', tt'⟩ w w') (by kernel_rfl) (by kernel_rfl) hS0 ?_
          dsimp only
          repeat (first
            | go_big_quiet_skip
            | (go_big_quiet_want
               apply Exists.intro
               refine ⟨fun W' hW' => ?_, ?_⟩
               · obtain ⟨⟨g0, g1, g2, g3, g4⟩, -, -⟩ := (show CX b (off + (j + 1) * 4) (off + j * 4) ⟨s, kk, nn, tt⟩ ⟨s', kk', nn', tt'⟩ w W' from hW')
                 go_simp
                 first
                   | done
                   | rfl
                   | (go_at_call 52; refine (HSk.out W').mono ?_; rintro e w'' ⟨rfl, hb⟩; exact ⟨rfl, CX_call hb hW'⟩)
                   | (go_at_call 54; refine (HVk.out W').mono ?_; rintro e w'' ⟨rfl, hb⟩; exact ⟨rfl, CX_call hb hW'⟩)
                   | (go_at_call 59; refine (HCk.out W').mono ?_; rintro e w'' ⟨rfl, hb⟩; exact ⟨rfl, CX_call hb hW'⟩)
               go_big_quiet_on
               try simp only [Act.put, List.setIfInBounds_toArray, List.set_cons_zero, List.set_cons_succ]))
          refine wpQuiet_nil ?_
          intro w2 hS2
          have HBB : Hid (Below w.heap.size w _) := (show CX b (off + (j + 1) * 4) (off + j * 4) ⟨s, kk, nn, tt⟩ ⟨s', kk', nn', tt'⟩ w w2 from hS2).2.2
          clear hS hS0 hS2
          go_wp2
          go_ret
          exact ⟨by rw [HNo.out (.inl (by rfl))]; rfl, HBB.out⟩
        | true =>
          cases q with
          | false =>
            go_wp2_with fail
            refine wp_region_quiet (C := fun w' => CX b (off + (j + 1) * 4) (off + j * 4) ⟨s, kk, nn, tt⟩ ⟨s', kk', nn', tt'⟩ w w') (by kernel_rfl) (by kernel_rfl) hS0 ?_
            dsimp only
            repeat (first
              | go_big_quiet_skip
              | (go_big_quiet_want
                 apply Exists.intro
                 refine ⟨fun W' hW' => ?_, ?_⟩
                 · obtain ⟨⟨g0, g1, g2, g3, g4⟩, -, -⟩ := (show CX b (off + (j + 1) * 4) (off + j * 4) ⟨s, kk, nn, tt⟩ ⟨s', kk', nn', tt'⟩ w W' from hW')
                   go_simp
                   first
                     | done
                     | rfl
                     | (go_at_call 52; refine (HSk.out W').mono ?_; rintro e w'' ⟨rfl, hb⟩; exact ⟨rfl, CX_call hb hW'⟩)
                     | (go_at_call 54; refine (HVk.out W').mono ?_; rintro e w'' ⟨rfl, hb⟩; exact ⟨rfl, CX_call hb hW'⟩)
                     | (go_at_call 59; refine (HCk.out W').mono ?_; rintro e w'' ⟨rfl, hb⟩; exact ⟨rfl, CX_call hb hW'⟩)
                 go_big_quiet_on
                 try simp only [Act.put, List.setIfInBounds_toArray, List.set_cons_zero, List.set_cons_succ]))
            refine wpQuiet_nil ?_
            intro w2 hS2
            have HBB : Hid (Below w.heap.size w _) := (show CX b (off + (j + 1) * 4) (off + j * 4) ⟨s, kk, nn, tt⟩ ⟨s', kk', nn', tt'⟩ w w2 from hS2).2.2
            clear hS hS0 hS2
            go_wp2
            go_ret
            exact ⟨by rw [HNo.out (.inl (by rfl))]; rfl, HBB.out⟩
          | true =>
            by_cases hc0 : c < 0
            · have q6 : decide ((0 : Int) ≤ c) = false := by simp; omega
              go_wp2_with fail
              refine wp_region_quiet (C := fun w' => CX b (off + (j + 1) * 4) (off + j * 4) ⟨s, kk, nn, tt⟩ ⟨s', kk', nn', tt'⟩ w w') (by kernel_rfl) (by kernel_rfl) hS0 ?_
              dsimp only
              repeat (first
                | go_big_quiet_skip
                | (go_big_quiet_want
                   apply Exists.intro
                   refine ⟨fun W' hW' => ?_, ?_⟩
                   · obtain ⟨⟨g0, g1, g2, g3, g4⟩, -, -⟩ := (show CX b (off + (j + 1) * 4) (off + j * 4) ⟨s, kk, nn, tt⟩ ⟨s', kk', nn', tt'⟩ w W' from hW')
                     go_simp
                     first
                       | done
                       | rfl
                       | (go_at_call 52; refine (HSk.out W').mono ?_; rintro e w'' ⟨rfl, hb⟩; exact ⟨rfl, CX_call hb hW'⟩)
                       | (go_at_call 54; refine (HVk.out W').mono ?_; rintro e w'' ⟨rfl, hb⟩; exact ⟨rfl, CX_call hb hW'⟩)
                       | (go_at_call 59; refine (HCk.out W').mono ?_; rintro e w'' ⟨rfl, hb⟩; exact ⟨rfl, CX_call hb hW'⟩)
                   go_big_quiet_on
                   try simp only [Act.put, List.setIfInBounds_toArray, List.set_cons_zero, List.set_cons_succ]))
              refine wpQuiet_nil ?_
              intro w2 hS2
              have HBB : Hid (Below w.heap.size w _) := (show CX b (off + (j + 1) * 4) (off + j * 4) ⟨s, kk, nn, tt⟩ ⟨s', kk', nn', tt'⟩ w w2 from hS2).2.2
              clear hS hS0 hS2
              go_wp2
              go_roundw
              case rel => exact ⟨rfl, j + 1 + 1, by omega, by simp, HO2.out (by rfl) hc0, HBB.out⟩
              case measure => simp [intOf]; omega
            · have q6 : decide ((0 : Int) ≤ c) = true := by simp; omega
              go_wp2_with fail
              refine wp_region_quiet (C := fun w' => CX b (off + (j + 1) * 4) (off + j * 4) ⟨s, kk, nn, tt⟩ ⟨s', kk', nn', tt'⟩ w w') (by kernel_rfl) (by kernel_rfl) hS0 ?_
              dsimp only
              repeat (first
                | go_big_quiet_skip
                | (go_big_quiet_want
                   apply Exists.intro
                   refine ⟨fun W' hW' => ?_, ?_⟩
                   · obtain ⟨⟨g0, g1, g2, g3, g4⟩, -, -⟩ := (show CX b (off + (j + 1) * 4) (off + j * 4) ⟨s, kk, nn, tt⟩ ⟨s', kk', nn', tt'⟩ w W' from hW')
                     go_simp
                     first
                       | done
                       | rfl
                       | (go_at_call 52; refine (HSk.out W').mono ?_; rintro e w'' ⟨rfl, hb⟩; exact ⟨rfl, CX_call hb hW'⟩)
                       | (go_at_call 54; refine (HVk.out W').mono ?_; rintro e w'' ⟨rfl, hb⟩; exact ⟨rfl, CX_call hb hW'⟩)
                       | (go_at_call 59; refine (HCk.out W').mono ?_; rintro e w'' ⟨rfl, hb⟩; exact ⟨rfl, CX_call hb hW'⟩)
                   go_big_quiet_on
                   try simp only [Act.put, List.setIfInBounds_toArray, List.set_cons_zero, List.set_cons_succ]))
              refine wpQuiet_nil ?_
              intro w2 hS2
              have HBB : Hid (Below w.heap.size w _) := (show CX b (off + (j + 1) * 4) (off + j * 4) ⟨s, kk, nn, tt⟩ ⟨s', kk', nn', tt'⟩ w w2 from hS2).2.2
              clear hS hS0 hS2
              go_wp2
              go_ret
              exact ⟨by rw [HNo.out (.inr hc0)]; rfl, HBB.out⟩
    · have hk' : k = l.length := by omega
      subst hk'
      have dk : decide ((l.length : Int) < l.length) = false := by simp
      have HY : Hid (chkA l = decide ((l.length : Int) ≤ 24)) := by
        show _ = _
        rw [allA l (fun k h => HO.out k h h), Bool.eq_iff_iff]; simp; omega
      clear HO
      have HBB : Hid (Below w.heap.size w wr) := hB
      clear hB
      go_wp2
      go_ret
      exact ⟨by rw [HY.out]; rfl, HBB.out⟩
end Go.Proofs.YtbekpemidpngaaaGreatDoor
