/- The law's Attrs; the reference's Get, its Attrs: walks. -/
import Derived.Test.YtnmfonpchbjeoaaGreatDoorET
import Derived.Deep.AppendLies
namespace Go.Proofs.YtnmfonpchbjeoaaGreatDoor
open Go.RowKit

/-- A row of attributes, handed back. -/
def RaPost (l : List At) (w : World) (e : Ending) (w' : World) : Prop := ∃ v, e = .returned v ∧ IsRow w' 4 v l.length (aCells l) ∧ Below w.heap.size w w'
theorem info_ra : (Tryz.prog.info? 69).map (fun i => (i.zero, i.size, i.bytes)) = some (some (.agg #[.string ⟨#[]⟩, .int .i64 0, .int .i64 0, .string ⟨#[]⟩]), 4, 48) := by kernel_rfl
theorem a_take (l : List At) (k : Nat) (hk : k < l.length) : aCells (l.take (k + 1)) = aCells (l.take k) ++ enA l[k] := by
  rw [List.take_succ_eq_append_getElem hk, aCells, List.flatMap_append]
  simp [aCells]
set_option maxRecDepth 100000 in
set_option maxHeartbeats 4000000 in
theorem attrsR_any (v : Value) (l : List At) (w : World) (hr : IsRow w 4 v l.length (aCells l)) (hl : l.length ≤ 1000000) :
    Calls Tryz.prog 17 #[v] w fun e w' => RaPost l w e w' := by
  obtain ⟨a0, cap0, rfl⟩ := hr.form
  have HR : Hid (IsRow w 4 (.slice a0 l.length cap0) l.length (aCells l)) := hr
  clear hr
  obtain ⟨i0, hi0, hz0, hz1, hz2⟩ := info_parts info_ra
  go_enter Tryz.func17, Tryz.ntmps17
  go_wp2_with fail
  go_loopw [3, 4] (fun r i wr => ∃ k : Nat, k ≤ l.length ∧ i = .int .i64 (k : Int) ∧ Hid (wr.ownsRow w.heap.size 69 4 r k (aCells (l.take k))) ∧ Below w.heap.size w wr) (fun _ i _ => l.length - (intOf i).toNat)
  case atStart => exact ⟨0, Nat.zero_le _, rfl, World.ownsRow_nil _ _ _ _, Below.refl _ _⟩
  case round =>
    obtain ⟨k, hk, rfl, HO, hB⟩ := hrel
    have hsz := hB.size
    by_cases hlk : k < l.length
    · have dk : decide ((k : Int) < l.length) = true := by simp; omega
      obtain ⟨b, off, rfl, hlt, hcap, hc⟩ := a_at HR.out (by omega)
      obtain ⟨k0, k1, k2, k3⟩ := hc k hlk
      have ck0 := (hB.cell (p := ⟨b, off + k * 4, none⟩) hlt).trans k0
      have ck1 := (hB.cell (p := ⟨b, off + k * 4 + 1, none⟩) hlt).trans k1
      have ck2 := (hB.cell (p := ⟨b, off + k * 4 + 2, none⟩) hlt).trans k2
      have ck3 := (hB.cell (p := ⟨b, off + k * 4 + 3, none⟩) hlt).trans k3
      have HTh : Hid (aCells (l.take (k + 1)) = aCells (l.take k) ++ enA l[k]) := a_take l k hlk
      have hne : some b ≠ u3.ownBlock := fun e => by have := (HO.out.lt b e.symm).1; omega
      have hbw : b < wr.heap.size := by omega
      have HBr : Hid (Below w.heap.size w wr) := hB
      generalize l[k]'hlk = x at *
      obtain ⟨an, ak, av, as'⟩ := x
      dsimp only at *
      have q1 : (0 : Int) ≤ (k : Int) := by omega
      have q2 : (k : Int) < (l.length : Int) := by omega
      clear hc k0 k1 k2 k3 hB
      go_wp2_with fail
      go_region_held3 (fun w' => w'.cell? ⟨b, off + k * 4, none⟩ = some (.string an) ∧ w'.cell? ⟨b, off + k * 4 + 1, none⟩ = some (.int .i64 ak) ∧ w'.cell? ⟨b, off + k * 4 + 2, none⟩ = some (.int .i64 av) ∧ w'.cell? ⟨b, off + k * 4 + 3, none⟩ = some (.string as'))
        (first
          | go_keep
          | (go_split_ands
             refine ⟨?_, ?_, ?_, ?_⟩
             all_goals (rw [hgrow.cell_far _ (by simp; omega) hne]; assumption)))
        ((refine step_append_lies _ (by rfl) _ _ _ (by rfl) w.heap.size 69 i0 _ 4 48 Tryz.underlying41 hi0 hz0 hz1 hz2 rfl (by omega) u3 k (aCells (l.take k)) (by rfl) ((HO.out.alloc _).drew)
            ⟨wr.heap.size, 0, none⟩ 1 1 [.string an, .int .i64 ak, .int .i64 av, .string as'] (by rfl) (by rfl) (World.news_of_block (cs := #[.string an, .int .i64 ak, .int .i64 av, .string as']) (t := 69) (fr := (0, 0)) (heap_alloc_new wr _)) (by simp [Value.oneCell'])
            (by omega) (by unfold maxLen; omega) (by omega) (by simp; omega) (wr.heap.size + 1) (by simp) ?_; intro gg cap w1 hown1 hgrow hat hlt1))
      have HO2 : Hid (w1.ownsRow w.heap.size 69 4 (.slice (some ⟨gg, 0, none⟩) (k + 1) cap) (k + 1) (aCells (l.take (k + 1)))) := by
        show World.ownsRow _ _ _ _ _ _ _
        rw [HTh.out]; exact hown1
      have HB2 : Hid (Below w.heap.size w w1) := (HBr.out.trans ((al_b wr _).drew.mono hsz)).grown hgrow (by simp; omega) (fun k hk => (HO.out.lt k hk).1)
      clear hown1 hgrow hat hlt1 HTh HO
      go_wp2
      go_roundw
      case rel => exact ⟨k + 1, by omega, by simp, HO2, HB2.out⟩
      case measure => simp [intOf]; omega
    · have hk' : k = l.length := by omega
      subst hk'
      have dk : decide ((l.length : Int) < l.length) = false := by simp
      have hown := HO.out
      rw [List.take_of_length_le (Nat.le_refl _)] at hown
      have HX : Hid (IsRow wr 4 u3 l.length (aCells l) ∧ Below w.heap.size w wr) := ⟨IsRow.own hown, hB⟩
      clear hown hB
      go_wp2
      go_ret
      exact ⟨_, rfl, HX.out.1, HX.out.2⟩
def NmRA (l : List At) : Prop := ∀ x ∈ l, x.n.size ≤ 200000 ∧ x.s.size ≤ 140737488355328
/-- The place of the first attribute of a name; below 0: none. -/
def GiR (l : List At) (s : ByteArray) (r : Int) : Prop := (∃ (k : Nat) (h : k < l.length), r = k ∧ getA l s = some l[k]) ∨ (r = -1 ∧ getA l s = none)
set_option maxRecDepth 100000 in
set_option maxHeartbeats 1000000 in
theorem refGetA_any (v : Value) (l : List At) (s : ByteArray) (w : World) (hr : IsRow w 4 v l.length (aCells l)) (hl : l.length ≤ 1000000) (hn : NmRA l) (hs : s.size ≤ 200000) :
    Calls Tryz.prog 16 #[v, .string s] w fun e w' => ∃ r, e = .returned (.int .i64 r) ∧ GiR l s r ∧ Below w.heap.size w w' := by
  obtain ⟨a0, cap0, rfl⟩ := hr.form
  have HR : Hid (IsRow w 4 (.slice a0 l.length cap0) l.length (aCells l)) := hr
  have HS : Hid (∀ (k : Nat) (h : k < l.length) (w' : World), Calls Tryz.prog 34 #[.string l[k].n, .string s] w' fun e w'' => e = .returned (.bool (sameL l[k].n.data.toList s.data.toList)) ∧ Below w'.heap.size w' w'') := fun k h w' => refSameN_any _ _ w' (by have := (hn _ (List.getElem_mem h)).1; omega) (by omega)
  clear hr hn
  go_enter Tryz.func16, Tryz.ntmps16
  go_wp2_with fail
  go_loopw [4, 5] (fun r i wr => r = .int .i64 0 ∧ ∃ k : Nat, k ≤ l.length ∧ i = .int .i64 (k : Int) ∧ Hid (∀ (j : Nat) (h : j < l.length), j < k → sameL l[j].n.data.toList s.data.toList = false) ∧ Below w.heap.size w wr) (fun _ i _ => l.length - (intOf i).toNat)
  case atStart => exact ⟨rfl, 0, Nat.zero_le _, rfl, fun j h hj => absurd hj (Nat.not_lt_zero _), Below.refl _ _⟩
  case round =>
    obtain ⟨rfl, k, hk, rfl, HO, hB⟩ := hrel
    by_cases hlk : k < l.length
    · have dk : decide ((k : Int) < l.length) = true := by simp; omega
      obtain ⟨b, off, rfl, hlt, hcap, hc⟩ := a_at (HR.out.below hB) (by omega)
      obtain ⟨ck0, -⟩ := hc k hlk
      have HSk : Hid (Calls Tryz.prog 34 #[.string l[k].n, .string s] wr fun e w'' => e = .returned (.bool (sameL l[k].n.data.toList s.data.toList)) ∧ Below wr.heap.size wr w'') := HS.out k hlk wr
      have HB : Hid (Below w.heap.size w wr) := hB
      cases hsm : sameL l[k].n.data.toList s.data.toList with
      | true =>
        have HY : Hid (GiR l s k) := .inl ⟨k, hlk, rfl, getA_at hlk HO.out hsm⟩
        rw [hsm] at HSk
        generalize l[k].n = nm at *
        clear hc HO hsm hB
        go_wp2_with fail
        refine HSk.out.mono ?_
        rintro e w1 ⟨rfl, hb⟩
        have HB1 : Hid (Below w.heap.size w w1) := HB.out.trans (hb.mono HB.out.size)
        clear hb
        go_wp2
        go_ret
        exact ⟨_, rfl, HY.out, HB1.out⟩
      | false =>
        have HO2 : Hid (∀ (j : Nat) (h : j < l.length), j < k + 1 → sameL l[j].n.data.toList s.data.toList = false) := fun j h hj => by
          by_cases e : j = k
          · subst e; exact hsm
          · exact HO.out j h (by omega)
        rw [hsm] at HSk
        generalize l[k].n = nm at *
        clear hc HO hsm hB
        go_wp2_with fail
        refine HSk.out.mono ?_
        rintro e w1 ⟨rfl, hb⟩
        have HB1 : Hid (Below w.heap.size w w1) := HB.out.trans (hb.mono HB.out.size)
        clear hb
        go_wp2
        go_roundw
        case rel => exact ⟨rfl, k + 1, by omega, by simp, HO2, HB1.out⟩
        case measure => simp [intOf]; omega
    · have hk' : k = l.length := by omega
      subst hk'
      have dk : decide ((l.length : Int) < l.length) = false := by simp
      have HY : Hid (GiR l s (-1)) := .inr ⟨rfl, getA_no fun j hj => HO.out j hj hj⟩
      clear HO
      have HBB : Hid (Below w.heap.size w wr) := hB
      clear hB
      go_wp2
      go_ret
      exact ⟨_, rfl, HY.out, HBB.out⟩
end Go.Proofs.YtnmfonpchbjeoaaGreatDoor
