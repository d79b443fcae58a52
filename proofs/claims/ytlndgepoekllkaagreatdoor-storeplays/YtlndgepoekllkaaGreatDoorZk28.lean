/- The reference's Check of a type: its walk. -/
import Derived.Test.YtlndgepoekllkaaGreatDoorZk26
import Derived.Test.YtlndgepoekllkaaGreatDoorZk27
import Derived.Test.YtlndgepoekllkaaGreatDoorZk19
import Derived.Test.YtlndgepoekllkaaGreatDoorZk5
import Derived.Deep.QuietTactic
import Derived.BigQuiet
import Derived.Test.YtlndgepoekllkaaGreatDoorZk22
import Derived.Test.YtlndgepoekllkaaGreatDoorZk21
namespace Go.Proofs.YtlndgepoekllkaaGreatDoor
open Go.RowKit Go.ChangeMaps

/-- It is not too great for the reference. -/
structure NmQ (t : Ty) : Prop where
  n : t.n.size ≤ 200000
  p : t.p.size ≤ 200000
  c : ∀ s ∈ t.ch, s.size ≤ 200000
  o : NmR t.own
  a : NmR t.all
  lo : t.own.length ≤ 1000000
  la : t.all.length ≤ 1000000
  lc : t.ch.length ≤ 1000000
theorem row_front {w : World} {a : Option Addr} {cap : Nat} {l : List ByteArray} (h : IsRow w 1 (.slice a l.length cap) l.length (sVals l)) (k : Nat) (hk : k ≤ l.length) : IsRow w 1 (.slice a k cap) (l.take k).length (sVals (l.take k)) := by
  have e : (l.take k).length = k := by simp; omega
  rw [e]
  refine ⟨by simp [sVals]; omega, ?_⟩
  rcases h.2 with ⟨h0, -⟩ | ⟨b, off, cap', hv, hlt, h1, h2, hc⟩
  · have : k = 0 := by omega
    exact .inl ⟨this, a, cap, by rw [this]⟩
  · obtain ⟨e1, -, e3⟩ := Value.slice.inj hv
    subst e1 e3
    refine .inr ⟨b, off, cap, rfl, hlt, by omega, h2, fun j u hu => hc j u ?_⟩
    unfold sVals at hu ⊢
    rw [List.map_take, List.getElem?_take] at hu
    split at hu
    · exact hu
    · cases hu
set_option maxRecDepth 100000 in
set_option maxHeartbeats 8000000 in
theorem refChk_any (o : LT) (w : World) (ho : IsTy w o.t o.vo o.va o.vc) (hn : NmQ o.t) :
    Calls Tryz.prog 44 #[ltV o] w fun e w' => e = .returned (.bool (chkT o.t)) ∧ Below w.heap.size w w' := by
  obtain ⟨r1, r2, r3⟩ := ho
  obtain ⟨t, ao, co, aa, ca, ac, cc⟩ := o
  dsimp only [LT.vo, LT.va, LT.vc] at r1 r2 r3 hn ⊢
  have hA := al_b w (.cells (tyA t (.slice ao t.own.length co) (.slice aa t.all.length ca) (.slice ac t.ch.length cc)) 63)
  obtain ⟨W0, hW0⟩ : ∃ W0, W0 = w.alloc (.cells (tyA t (.slice ao t.own.length co) (.slice aa t.all.length ca) (.slice ac t.ch.length cc)) 63) := ⟨_, rfl⟩
  rw [← hW0] at hA
  have hnb : W0.heap[w.heap.size]? = some (.cells (tyA t (.slice ao t.own.length co) (.slice aa t.all.length ca) (.slice ac t.ch.length cc)) 63 (0, 0)) := by rw [hW0]; exact new_at w _
  have hlt : w.heap.size < W0.heap.size := (Array.getElem?_eq_some_iff.1 hnb).1
  have HX : Hid (∀ W, Below W0.heap.size W0 W → BxT w.heap.size t (.slice ao t.own.length co) (.slice aa t.all.length ca) (.slice ac t.ch.length cc) W) := fun W h => BxT.ofA ((h.block _ hlt).trans hnb)
  have HBw : Hid (∀ W, Below W0.heap.size W0 W → Below w.heap.size w W) := fun W h => hA.trans (h.mono hA.size)
  have HCh : Hid (∀ (i : Nat) (hi : i < t.ch.length) W, Below W0.heap.size W0 W → ∃ b off, ac = some ⟨b, off, none⟩ ∧ t.ch.length ≤ cc ∧ W.cell? ⟨b, off + i, none⟩ = some (.string t.ch[i])) := fun i hi W h => by
    obtain ⟨b, off, e, -, -, h3, hc⟩ := s_at (r3.below (HBw.out W h)) (by omega)
    exact ⟨b, off, e, h3, hc i hi⟩
  have HId : Hid (∀ W, Calls Tryz.prog 72 #[idV t.nd t.lf t.sq] W fun e w' => e = .returned (.bool (idB t.nd t.lf t.sq)) ∧ Below W.heap.size W w') := fun W => refID_any _ _ _ W
  have HC1 : Hid (∀ W, Below W0.heap.size W0 W → Calls Tryz.prog 71 #[.slice ao t.own.length co] W fun e w' => e = .returned (.bool (chkF t.own)) ∧ Below W.heap.size W w') := fun W h => refCheckF_any _ t.own W (r1.below (HBw.out W h)) hn.lo hn.o
  have HC2 : Hid (∀ W, Below W0.heap.size W0 W → Calls Tryz.prog 71 #[.slice aa t.all.length ca] W fun e w' => e = .returned (.bool (chkF t.all)) ∧ Below W.heap.size W w') := fun W h => refCheckF_any _ t.all W (r2.below (HBw.out W h)) hn.la hn.a
  have HEq : Hid (∀ W, Below W0.heap.size W0 W → Calls Tryz.prog 48 #[.slice ao t.own.length co, .slice aa t.all.length ca] W fun e w' => e = .returned (.bool (sameR t.own t.all)) ∧ Below W.heap.size W w') := fun W h => refSame_any _ _ t.own t.all W (r1.below (HBw.out W h)) (r2.below (HBw.out W h)) hn.lo hn.la
  have HWi : Hid (chkF t.all = true → ∀ W, Below W0.heap.size W0 W → Calls Tryz.prog 75 #[.slice ao t.own.length co, .slice aa t.all.length ca] W fun e w' => e = .returned (.bool (withinL t.own t.all)) ∧ Below W.heap.size W w') := fun hc W h => (refWithin_any _ _ t.own t.all W (r1.below (HBw.out W h)) (r2.below (HBw.out W h)) hn.lo hn.la hn.o hn.a).mono fun e w' ⟨he, hb⟩ => ⟨by rw [he, rwL_eq hc], hb⟩
  have HCk : Hid (∀ (i : Nat) (hi : i < t.ch.length) W, Calls Tryz.prog 73 #[.string t.ch[i]] W fun e w' => e = .returned (.int .i64 (checkL t.ch[i].data.toList)) ∧ Below W.heap.size W w') := fun i hi W => refCheck_any _ W (by have := hn.c _ (List.getElem_mem hi); omega)
  have HHs : Hid (∀ (i : Nat) (hi : i < t.ch.length) W, Below W0.heap.size W0 W → Calls Tryz.prog 74 #[.slice ac i cc, .string t.ch[i]] W fun e w' => e = .returned (.bool ((t.ch.take i).any fun u => sameL u.data.toList t.ch[i].data.toList)) ∧ Below W.heap.size W w') := fun i hi W h => hasR_any _ (t.ch.take i) _ W (row_front (r3.below (HBw.out W h)) i (by omega)) (by rw [List.length_take]; have := hn.lc; omega) (fun u hu => by have := hn.c u (List.mem_of_mem_take hu); omega) (by have := hn.c _ (List.getElem_mem hi); omega)
  have HIff : Hid (chkT t = true ↔ _) := chkT_ref t
  obtain ⟨TT, hTT⟩ : ∃ TT, TT = chkT t := ⟨_, rfl⟩
  rw [← hTT]
  have HNo : Hid ((chkT t = true → False) → TT = false) := fun h => by
    rw [hTT, Bool.eq_false_iff]; exact h
  have HYes : Hid (chkT t = true → TT = true) := fun h => by rw [hTT, h]
  have HT : Hid (TT = chkT t) := hTT
  clear hn r1 r2 r3 hnb hTT
  cases hc1 : chkF t.own
  · have HF : Hid (TT = false) := HNo.out fun h => by rw [(HIff.out.1 h).1] at hc1; cases hc1
    rw [hc1] at HC1
    clear HCh HEq HWi HCk HHs HIff HNo HYes HT hc1 HC2 HId
    go_enter Tryz.func44, Tryz.ntmps44
    go_wp2_with fail
    rw [← hW0]
    clear hW0
    refine wp_region_quiet (C := fun w' => Below W0.heap.size W0 w') (by kernel_rfl) (by kernel_rfl) ((Below.refl _ _).drew) ?_
    dsimp only
    repeat (first
      | go_big_quiet_skip
      | (go_big_quiet_want
         apply Exists.intro
         refine ⟨fun W' hW' => ?_, ?_⟩
         · have hw : Below W0.heap.size W0 W' := hW'
           obtain ⟨⟨g0, g1, g2, g3⟩, g4, g5, g6, g7⟩ := HX.out W' hw
           skip
           go_simp
           first
             | done
             | rfl
             | (go_at_call 71; (with_reducible refine Calls.mono (HC1.out W' hw) ?_); rintro e w'' ⟨rfl, hb⟩; exact ⟨rfl, hw.trans (hb.mono hw.size)⟩)
         go_big_quiet_on
         try simp only [Act.put, List.setIfInBounds_toArray, List.set_cons_zero, List.set_cons_succ]))
    refine wpQuiet_nil ?_
    intro w2 hqw2
    have Hw2 : Hid (Below W0.heap.size W0 w2) := hqw2
    clear hqw2
    go_wp2
    go_ret
    exact ⟨by rw [HF.out]; rfl, HBw.out _ Hw2.out⟩
  rw [hc1] at HC1
  cases hc2 : chkF t.all
  · have HF : Hid (TT = false) := HNo.out fun h => by rw [(HIff.out.1 h).2.1] at hc2; cases hc2
    rw [hc2] at HC2
    clear HCh HEq HWi HCk HHs HIff HNo HYes HT hc1 hc2 HId
    go_enter Tryz.func44, Tryz.ntmps44
    go_wp2_with fail
    rw [← hW0]
    clear hW0
    refine wp_region_quiet (C := fun w' => Below W0.heap.size W0 w') (by kernel_rfl) (by kernel_rfl) ((Below.refl _ _).drew) ?_
    dsimp only
    repeat (first
      | go_big_quiet_skip
      | (go_big_quiet_want
         apply Exists.intro
         refine ⟨fun W' hW' => ?_, ?_⟩
         · have hw : Below W0.heap.size W0 W' := hW'
           obtain ⟨⟨g0, g1, g2, g3⟩, g4, g5, g6, g7⟩ := HX.out W' hw
           skip
           go_simp
           first
             | done
             | rfl
             | (go_at_call 71; (with_reducible refine Calls.mono (HC1.out W' hw) ?_); rintro e w'' ⟨rfl, hb⟩; exact ⟨rfl, hw.trans (hb.mono hw.size)⟩)
             | (go_at_call 71; (with_reducible refine Calls.mono (HC2.out W' hw) ?_); rintro e w'' ⟨rfl, hb⟩; exact ⟨rfl, hw.trans (hb.mono hw.size)⟩)
         go_big_quiet_on
         try simp only [Act.put, List.setIfInBounds_toArray, List.set_cons_zero, List.set_cons_succ]))
    refine wpQuiet_nil ?_
    intro w2 hqw2
    have Hw2 : Hid (Below W0.heap.size W0 w2) := hqw2
    clear hqw2
    go_wp2
    go_ret
    exact ⟨by rw [HF.out]; rfl, HBw.out _ Hw2.out⟩
  rw [hc2] at HC2
  cases hid : idB t.nd t.lf t.sq
  · have HF : Hid (TT = false) := HNo.out fun h => by rw [(HIff.out.1 h).2.2.1] at hid; cases hid
    rw [hid] at HId
    clear HCh HEq HWi HCk HHs HIff HNo HYes HT hc1 hc2 hid
    go_enter Tryz.func44, Tryz.ntmps44
    go_wp2_with fail
    rw [← hW0]
    clear hW0
    refine wp_region_quiet (C := fun w' => Below W0.heap.size W0 w') (by kernel_rfl) (by kernel_rfl) ((Below.refl _ _).drew) ?_
    dsimp only
    repeat (first
      | go_big_quiet_skip
      | (go_big_quiet_want
         apply Exists.intro
         refine ⟨fun W' hW' => ?_, ?_⟩
         · have hw : Below W0.heap.size W0 W' := hW'
           obtain ⟨⟨g0, g1, g2, g3⟩, g4, g5, g6, g7⟩ := HX.out W' hw
           skip
           go_simp
           first
             | done
             | rfl
             | (go_at_call 71; (with_reducible refine Calls.mono (HC1.out W' hw) ?_); rintro e w'' ⟨rfl, hb⟩; exact ⟨rfl, hw.trans (hb.mono hw.size)⟩)
             | (go_at_call 71; (with_reducible refine Calls.mono (HC2.out W' hw) ?_); rintro e w'' ⟨rfl, hb⟩; exact ⟨rfl, hw.trans (hb.mono hw.size)⟩)
             | (go_at_call 72; (with_reducible refine Calls.mono (HId.out W') ?_); rintro e w'' ⟨rfl, hb⟩; exact ⟨rfl, hw.trans (hb.mono hw.size)⟩)
         go_big_quiet_on
         try simp only [Act.put, List.setIfInBounds_toArray, List.set_cons_zero, List.set_cons_succ]))
    refine wpQuiet_nil ?_
    intro w2 hqw2
    have Hw2 : Hid (Below W0.heap.size W0 w2) := hqw2
    clear hqw2
    go_wp2
    go_ret
    exact ⟨by rw [HF.out]; rfl, HBw.out _ Hw2.out⟩
  rw [hid] at HId
  by_cases h1 : 1 ≤ t.ch.length
  rotate_left
  · have HF : Hid (TT = false) := HNo.out fun h => h1 (HIff.out.1 h).2.2.2.1
    have d1 : decide ((t.ch.length : Int) < 1) = true := decide_eq_true (by omega)
    have d1' : decide (t.ch.length < 1) = true := decide_eq_true (by omega)
    clear HCh HEq HWi HCk HHs HIff HNo HYes HT hc1 hc2 hid h1
    go_enter Tryz.func44, Tryz.ntmps44
    go_wp2_with fail
    rw [← hW0]
    clear hW0
    refine wp_region_quiet (C := fun w' => Below W0.heap.size W0 w') (by kernel_rfl) (by kernel_rfl) ((Below.refl _ _).drew) ?_
    dsimp only
    repeat (first
      | go_big_quiet_skip
      | (go_big_quiet_want
         apply Exists.intro
         refine ⟨fun W' hW' => ?_, ?_⟩
         · have hw : Below W0.heap.size W0 W' := hW'
           obtain ⟨⟨g0, g1, g2, g3⟩, g4, g5, g6, g7⟩ := HX.out W' hw
           skip
           go_simp
           first
             | done
             | rfl
             | (go_at_call 71; (with_reducible refine Calls.mono (HC1.out W' hw) ?_); rintro e w'' ⟨rfl, hb⟩; exact ⟨rfl, hw.trans (hb.mono hw.size)⟩)
             | (go_at_call 71; (with_reducible refine Calls.mono (HC2.out W' hw) ?_); rintro e w'' ⟨rfl, hb⟩; exact ⟨rfl, hw.trans (hb.mono hw.size)⟩)
             | (go_at_call 72; (with_reducible refine Calls.mono (HId.out W') ?_); rintro e w'' ⟨rfl, hb⟩; exact ⟨rfl, hw.trans (hb.mono hw.size)⟩)
         go_big_quiet_on
         try simp only [Act.put, List.setIfInBounds_toArray, List.set_cons_zero, List.set_cons_succ]))
    refine wpQuiet_nil ?_
    intro w2 hqw2
    have Hw2 : Hid (Below W0.heap.size W0 w2) := hqw2
    clear hqw2
    go_wp2
    go_ret
    exact ⟨by rw [HF.out]; rfl, HBw.out _ Hw2.out⟩
  have d1 : decide ((t.ch.length : Int) < 1) = false := decide_eq_false (by omega)
  have d1' : decide (t.ch.length < 1) = false := decide_eq_false (by omega)
  by_cases h8 : t.ch.length ≤ 8
  rotate_left
  · have HF : Hid (TT = false) := HNo.out fun h => h8 (HIff.out.1 h).2.2.2.2.1
    have d2 : decide ((8 : Int) < (t.ch.length : Int)) = true := by simp; omega
    have d2' : decide (8 < t.ch.length) = true := by simp; omega
    clear HCh HEq HWi HCk HHs HIff HNo HYes HT hc1 hc2 hid h1 h8
    go_enter Tryz.func44, Tryz.ntmps44
    go_wp2_with fail
    rw [← hW0]
    clear hW0
    refine wp_region_quiet (C := fun w' => Below W0.heap.size W0 w') (by kernel_rfl) (by kernel_rfl) ((Below.refl _ _).drew) ?_
    dsimp only
    repeat (first
      | go_big_quiet_skip
      | (go_big_quiet_want
         apply Exists.intro
         refine ⟨fun W' hW' => ?_, ?_⟩
         · have hw : Below W0.heap.size W0 W' := hW'
           obtain ⟨⟨g0, g1, g2, g3⟩, g4, g5, g6, g7⟩ := HX.out W' hw
           skip
           go_simp
           first
             | done
             | rfl
             | (go_at_call 71; (with_reducible refine Calls.mono (HC1.out W' hw) ?_); rintro e w'' ⟨rfl, hb⟩; exact ⟨rfl, hw.trans (hb.mono hw.size)⟩)
             | (go_at_call 71; (with_reducible refine Calls.mono (HC2.out W' hw) ?_); rintro e w'' ⟨rfl, hb⟩; exact ⟨rfl, hw.trans (hb.mono hw.size)⟩)
             | (go_at_call 72; (with_reducible refine Calls.mono (HId.out W') ?_); rintro e w'' ⟨rfl, hb⟩; exact ⟨rfl, hw.trans (hb.mono hw.size)⟩)
         go_big_quiet_on
         try simp only [Act.put, List.setIfInBounds_toArray, List.set_cons_zero, List.set_cons_succ]))
    refine wpQuiet_nil ?_
    intro w2 hqw2
    have Hw2 : Hid (Below W0.heap.size W0 w2) := hqw2
    clear hqw2
    go_wp2
    go_ret
    exact ⟨by rw [HF.out]; rfl, HBw.out _ Hw2.out⟩
  have d2 : decide ((8 : Int) < (t.ch.length : Int)) = false := by simp; omega
  have d2' : decide (8 < t.ch.length) = false := by simp; omega
  have i0 : (0 : Int) < (t.ch.length : Int) := by omega
  have h0l : 0 < t.ch.length := by omega
  have e0 : t.ch[0]? = some (t.ch[0]'h0l) := List.getElem?_eq_getElem h0l
  obtain ⟨b, off, rfl, hcc, -⟩ := HCh.out 0 h0l W0 (Below.refl _ _)
  have HCell : Hid (∀ (i : Nat) (hi : i < t.ch.length) W, Below W0.heap.size W0 W → W.cell? ⟨b, off + i, none⟩ = some (.string t.ch[i])) := fun i hi W h => by
    obtain ⟨b', off', e, -, hc⟩ := HCh.out i hi W h
    obtain ⟨rfl, rfl, -⟩ := Addr.mk.inj (Option.some.inj e)
    exact hc
  have HC0' : Hid (∀ W, Below W0.heap.size W0 W → W.cell? ⟨b, off, none⟩ = some (.string (t.ch[0]'h0l))) := fun W h => by
    have := HCell.out 0 h0l W h
    simpa using this
  clear HCh
  by_cases hn0 : t.ch[0]'h0l = t.n
  rotate_left
  · have HF : Hid (TT = false) := HNo.out fun h => hn0 (by
      have := (HIff.out.1 h).2.2.2.2.2.1
      rw [e0] at this
      exact Option.some.inj this)
    have eN := strNe (t.ch[0]'h0l) t.n
    rw [decide_eq_false hn0] at eN
    have eN2 := strEqB (t.ch[0]'h0l) t.n
    rw [decide_eq_false hn0] at eN2
    generalize t.ch[0]'h0l = c0 at *
    clear HEq HWi HCk HHs HIff HNo HYes HT hc1 hc2 hid h1 h8 hn0 e0 HCell
    go_enter Tryz.func44, Tryz.ntmps44
    go_wp2_with fail
    rw [← hW0]
    clear hW0
    refine wp_region_quiet (C := fun w' => Below W0.heap.size W0 w') (by kernel_rfl) (by kernel_rfl) ((Below.refl _ _).drew) ?_
    dsimp only
    repeat (first
      | go_big_quiet_skip
      | (go_big_quiet_want
         apply Exists.intro
         refine ⟨fun W' hW' => ?_, ?_⟩
         · have hw : Below W0.heap.size W0 W' := hW'
           obtain ⟨⟨g0, g1, g2, g3⟩, g4, g5, g6, g7⟩ := HX.out W' hw
           have g8 := HC0'.out W' hw
           go_simp
           first
             | done
             | rfl
             | (go_at_call 71; (with_reducible refine Calls.mono (HC1.out W' hw) ?_); rintro e w'' ⟨rfl, hb⟩; exact ⟨rfl, hw.trans (hb.mono hw.size)⟩)
             | (go_at_call 71; (with_reducible refine Calls.mono (HC2.out W' hw) ?_); rintro e w'' ⟨rfl, hb⟩; exact ⟨rfl, hw.trans (hb.mono hw.size)⟩)
             | (go_at_call 72; (with_reducible refine Calls.mono (HId.out W') ?_); rintro e w'' ⟨rfl, hb⟩; exact ⟨rfl, hw.trans (hb.mono hw.size)⟩)
         go_big_quiet_on
         try simp only [Act.put, List.setIfInBounds_toArray, List.set_cons_zero, List.set_cons_succ]))
    refine wpQuiet_nil ?_
    intro w2 hqw2
    have Hw2 : Hid (Below W0.heap.size W0 w2) := hqw2
    clear hqw2
    go_wp2
    go_ret
    exact ⟨by rw [HF.out]; rfl, HBw.out _ Hw2.out⟩
  have eN := strNe (t.ch[0]'h0l) t.n
  rw [decide_eq_true hn0] at eN
  have eN2 := strEqB (t.ch[0]'h0l) t.n
  rw [decide_eq_true hn0] at eN2
  have HR3 : Hid ((∀ (k : Nat) (h : k < t.ch.length), checkL t.ch[k].data.toList = 0 ∧ ((t.ch.take k).any fun u => sameL u.data.toList t.ch[k].data.toList) = false) → TT = if t.ch.length = 1 then (decide (t.p.size = 0) && sameR t.own t.all) else (decide (t.ch[1]? = some t.p) && withinL t.own t.all)) := fun hk => by
    rw [HT.out, Bool.eq_iff_iff]
    have := HIff.out
    rw [this]
    have f0 : t.ch[0]? = some t.n := by rw [e0, hn0]
    by_cases hl1 : t.ch.length = 1
    · rw [if_pos hl1, if_pos hl1, Bool.and_eq_true, decide_eq_true_eq]
      exact ⟨fun h => h.2.2.2.2.2.2.2, fun h => ⟨hc1, hc2, hid, h1, h8, f0, hk, h⟩⟩
    · rw [if_neg hl1, if_neg hl1, Bool.and_eq_true, decide_eq_true_eq]
      exact ⟨fun h => h.2.2.2.2.2.2.2, fun h => ⟨hc1, hc2, hid, h1, h8, f0, hk, h⟩⟩
  have HBad : Hid (∀ (k : Nat) (h : k < t.ch.length), ¬ (checkL t.ch[k].data.toList = 0 ∧ ((t.ch.take k).any fun u => sameL u.data.toList t.ch[k].data.toList) = false) → TT = false) := fun k h hb => HNo.out fun hh => hb ((HIff.out.1 hh).2.2.2.2.2.2.1 k h)
  have HWi2 := HWi.out hc2
  have HWi3 : Hid (∀ W, Below W0.heap.size W0 W → Calls Tryz.prog 75 #[.slice ao t.own.length co, .slice aa t.all.length ca] W fun e w' => e = .returned (.bool (withinL t.own t.all)) ∧ Below W.heap.size W w') := HWi2
  have HSzc : Hid (t.ch.length ≤ cc ∧ t.ch.length ≤ 8) := ⟨hcc, h8⟩
  obtain ⟨c0, hc0⟩ : ∃ c0, c0 = t.ch[0]'h0l := ⟨_, rfl⟩
  rw [← hc0] at HC0' eN eN2
  clear HWi HWi2 HIff HNo HYes HT hc1 hc2 hid hn0 e0 hc0 h1
  go_enter Tryz.func44, Tryz.ntmps44
  go_wp2_with fail
  rw [← hW0]
  clear hW0
  refine wp_region_quiet (C := fun w' => Below W0.heap.size W0 w') (by kernel_rfl) (by kernel_rfl) ((Below.refl _ _).drew) ?_
  dsimp only
  repeat (first
    | go_big_quiet_skip
    | (go_big_quiet_want
       apply Exists.intro
       refine ⟨fun W' hW' => ?_, ?_⟩
       · have hw : Below W0.heap.size W0 W' := hW'
         obtain ⟨⟨g0, g1, g2, g3⟩, g4, g5, g6, g7⟩ := HX.out W' hw
         have g8 := HC0'.out W' hw
         go_simp
         first
           | done
           | rfl
           | (go_at_call 71; (with_reducible refine Calls.mono (HC1.out W' hw) ?_); rintro e w'' ⟨rfl, hb⟩; exact ⟨rfl, hw.trans (hb.mono hw.size)⟩)
           | (go_at_call 71; (with_reducible refine Calls.mono (HC2.out W' hw) ?_); rintro e w'' ⟨rfl, hb⟩; exact ⟨rfl, hw.trans (hb.mono hw.size)⟩)
           | (go_at_call 72; (with_reducible refine Calls.mono (HId.out W') ?_); rintro e w'' ⟨rfl, hb⟩; exact ⟨rfl, hw.trans (hb.mono hw.size)⟩)
       go_big_quiet_on
       try simp only [Act.put, List.setIfInBounds_toArray, List.set_cons_zero, List.set_cons_succ]))
  refine wpQuiet_nil ?_
  intro w2 hqw2
  have Hw2 : Hid (Below W0.heap.size W0 w2) := hqw2
  clear hqw2
  clear HC0' eN eN2 HC1 HC2 HId
  go_wp2_with fail
  go_loopw [3, 2] (fun i r wr => r = .bool false ∧ ∃ k : Nat, k ≤ t.ch.length ∧ i = .int .i64 (k : Int) ∧ Hid (∀ (j : Nat) (h : j < t.ch.length), j < k → checkL t.ch[j].data.toList = 0 ∧ ((t.ch.take j).any fun u => sameL u.data.toList t.ch[j].data.toList) = false) ∧ Hid (Below W0.heap.size W0 wr)) (fun i _ _ => t.ch.length - (intOf i).toNat)
  case atStart => exact ⟨rfl, 0, Nat.zero_le _, rfl, fun j h hj => absurd hj (Nat.not_lt_zero _), Hw2.out⟩
  case round =>
    clear Hw2
    obtain ⟨rfl, k, hk, rfl, HO, HB⟩ := hrel
    by_cases hlk : k < t.ch.length
    · have dk : decide ((k : Int) < (t.ch.length : Int)) = true := by simp; omega
      have i1 : (0 : Int) ≤ (k : Int) := by omega
      have i2 : (k : Int) < (t.ch.length : Int) := by omega
      have i3 : (k : Int) ≤ (cc : Int) := by have := HSzc.out.1; omega
      have i3' : k ≤ cc := by have := HSzc.out.1; omega
      have HCelk : Hid (∀ W, Below W0.heap.size W0 W → W.cell? ⟨b, off + k, none⟩ = some (.string t.ch[k])) := fun W h => HCell.out k hlk W h
      have HCkk : Hid (∀ W, Calls Tryz.prog 73 #[.string t.ch[k]] W fun e w' => e = .returned (.int .i64 (checkL t.ch[k].data.toList)) ∧ Below W.heap.size W w') := fun W => HCk.out k hlk W
      have HHsk : Hid (∀ W, Below W0.heap.size W0 W → Calls Tryz.prog 74 #[.slice (some ⟨b, off, none⟩) k cc, .string t.ch[k]] W fun e w' => e = .returned (.bool ((t.ch.take k).any fun u => sameL u.data.toList t.ch[k].data.toList)) ∧ Below W.heap.size W w') := fun W h => HHs.out k hlk W h
      have HBk : Hid (¬ (checkL t.ch[k].data.toList = 0 ∧ ((t.ch.take k).any fun u => sameL u.data.toList t.ch[k].data.toList) = false) → TT = false) := HBad.out k hlk
      have HOk : Hid (checkL t.ch[k].data.toList = 0 ∧ ((t.ch.take k).any fun u => sameL u.data.toList t.ch[k].data.toList) = false → ∀ (j : Nat) (h : j < t.ch.length), j < k + 1 → checkL t.ch[j].data.toList = 0 ∧ ((t.ch.take j).any fun u => sameL u.data.toList t.ch[j].data.toList) = false) := fun h j hj hjk => by
        by_cases e : j = k
        · subst e; exact h
        · exact HO.out j hj (by omega)
      obtain ⟨⟨g0, g1, g2, g3⟩, g4, g5, g6, g7⟩ := HX.out wr HB.out
      generalize checkL (t.ch[k]'hlk).data.toList = C at *
      generalize ((t.ch.take k).any fun u => sameL u.data.toList (t.ch[k]'hlk).data.toList) = A at *
      generalize t.ch[k]'hlk = ck at *
      clear HO HCell HBad HCk HHs HR3
      by_cases hC : C = 0
      rotate_left
      · have HF : Hid (TT = false) := HBk.out fun h => hC h.1
        have dC : (C == 0) = false := by simp [hC]
        have dC' : (C != 0) = true := by simp [hC]
        clear HBk HOk hC
        go_wp2_with fail
        clear g0 g1 g2 g3 g4 g5 g6 g7
        refine wp_region_quiet (C := fun w' => Below W0.heap.size W0 w') (by kernel_rfl) (by kernel_rfl) (HB.out.drew) ?_
        dsimp only
        repeat (first
          | go_big_quiet_skip
          | (go_big_quiet_want
             apply Exists.intro
             refine ⟨fun W' hW' => ?_, ?_⟩
             · have hw : Below W0.heap.size W0 W' := hW'
               obtain ⟨⟨g0, g1, g2, g3⟩, g4, g5, g6, g7⟩ := HX.out W' hw
               have g8 := HCelk.out W' hw
               go_simp
               first
                 | done
                 | rfl
                 | (go_at_call 73; (with_reducible refine Calls.mono (HCkk.out W') ?_); rintro e w'' ⟨rfl, hb⟩; exact ⟨rfl, hw.trans (hb.mono hw.size)⟩)
             go_big_quiet_on
             try simp only [Act.put, List.setIfInBounds_toArray, List.set_cons_zero, List.set_cons_succ]))
        refine wpQuiet_nil ?_
        intro w3 hqw3
        have Hw3 : Hid (Below W0.heap.size W0 w3) := hqw3
        clear hqw3
        go_wp2
        go_ret
        exact ⟨by rw [HF.out]; rfl, HBw.out _ Hw3.out⟩
      subst hC
      cases A
      rotate_left
      · have HF : Hid (TT = false) := HBk.out fun h => by cases h.2
        clear HBk HOk
        go_wp2_with fail
        clear g0 g1 g2 g3 g4 g5 g6 g7
        refine wp_region_quiet (C := fun w' => Below W0.heap.size W0 w') (by kernel_rfl) (by kernel_rfl) (HB.out.drew) ?_
        dsimp only
        repeat (first
          | go_big_quiet_skip
          | (go_big_quiet_want
             apply Exists.intro
             refine ⟨fun W' hW' => ?_, ?_⟩
             · have hw : Below W0.heap.size W0 W' := hW'
               obtain ⟨⟨g0, g1, g2, g3⟩, g4, g5, g6, g7⟩ := HX.out W' hw
               have g8 := HCelk.out W' hw
               go_simp
               first
                 | done
                 | rfl
                 | (go_at_call 73; (with_reducible refine Calls.mono (HCkk.out W') ?_); rintro e w'' ⟨rfl, hb⟩; exact ⟨rfl, hw.trans (hb.mono hw.size)⟩)
                 | (go_at_call 74; (with_reducible refine Calls.mono (HHsk.out W' hw) ?_); rintro e w'' ⟨rfl, hb⟩; exact ⟨rfl, hw.trans (hb.mono hw.size)⟩)
             go_big_quiet_on
             try simp only [Act.put, List.setIfInBounds_toArray, List.set_cons_zero, List.set_cons_succ]))
        refine wpQuiet_nil ?_
        intro w3 hqw3
        have Hw3 : Hid (Below W0.heap.size W0 w3) := hqw3
        clear hqw3
        go_wp2
        go_ret
        exact ⟨by rw [HF.out]; rfl, HBw.out _ Hw3.out⟩
      have HO2 : Hid (∀ (j : Nat) (h : j < t.ch.length), j < k + 1 → checkL t.ch[j].data.toList = 0 ∧ ((t.ch.take j).any fun u => sameL u.data.toList t.ch[j].data.toList) = false) := HOk.out ⟨rfl, rfl⟩
      clear HBk HOk
      go_wp2_with fail
      clear g0 g1 g2 g3 g4 g5 g6 g7
      refine wp_region_quiet (C := fun w' => Below W0.heap.size W0 w') (by kernel_rfl) (by kernel_rfl) (HB.out.drew) ?_
      dsimp only
      repeat (first
        | go_big_quiet_skip
        | (go_big_quiet_want
           apply Exists.intro
           refine ⟨fun W' hW' => ?_, ?_⟩
           · have hw : Below W0.heap.size W0 W' := hW'
             obtain ⟨⟨g0, g1, g2, g3⟩, g4, g5, g6, g7⟩ := HX.out W' hw
             have g8 := HCelk.out W' hw
             go_simp
             first
               | done
               | rfl
               | (go_at_call 73; (with_reducible refine Calls.mono (HCkk.out W') ?_); rintro e w'' ⟨rfl, hb⟩; exact ⟨rfl, hw.trans (hb.mono hw.size)⟩)
               | (go_at_call 74; (with_reducible refine Calls.mono (HHsk.out W' hw) ?_); rintro e w'' ⟨rfl, hb⟩; exact ⟨rfl, hw.trans (hb.mono hw.size)⟩)
           go_big_quiet_on
           try simp only [Act.put, List.setIfInBounds_toArray, List.set_cons_zero, List.set_cons_succ]))
      refine wpQuiet_nil ?_
      intro w3 hqw3
      have Hw3 : Hid (Below W0.heap.size W0 w3) := hqw3
      clear hqw3
      go_wp2
      go_roundw
      case rel => exact ⟨rfl, k + 1, by omega, by simp, HO2.out, Hw3.out⟩
      case measure => simp [intOf]; omega
    · have hk' : k = t.ch.length := by omega
      have dk : decide ((k : Int) < (t.ch.length : Int)) = false := by simp; omega
      have HR4 : Hid (TT = if t.ch.length = 1 then (decide (t.p.size = 0) && sameR t.own t.all) else (decide (t.ch[1]? = some t.p) && withinL t.own t.all)) := HR3.out fun j h => HO.out j h (by omega)
      have eP := str0 t.p
      have eP2 := str0' t.p
      obtain ⟨⟨g0, g1, g2, g3⟩, g4, g5, g6, g7⟩ := HX.out wr HB.out
      clear HO HR3 HBad HCk HHs
      by_cases hl1 : t.ch.length = 1
      · have HR5 : Hid (TT = (decide (t.p.size = 0) && sameR t.own t.all)) := HR4.out.trans (if_pos hl1)
        have dl : ((t.ch.length : Int) == 1) = true := by rw [beq_iff_eq]; omega
        have dl' : (t.ch.length == 1) = true := by rw [beq_iff_eq]; exact hl1
        clear hl1 HR4 HCell HWi3
        cases hp : decide (t.p.size = 0)
        · rw [hp] at HR5 eP eP2
          have HF : Hid (TT = false) := HR5.out.trans (Bool.false_and _)
          clear HR5 hp HEq
          go_wp2
          go_ret
          exact ⟨by rw [HF.out]; rfl, HBw.out _ HB.out⟩
        · rw [hp] at HR5 eP eP2
          have HF : Hid (TT = sameR t.own t.all) := HR5.out.trans (Bool.true_and _)
          clear HR5 hp
          generalize sameR t.own t.all = SM at *
          go_wp2_with fail
          refine (HEq.out _ HB.out).mono ?_
          rintro e w6 ⟨rfl, hb6⟩
          have HB6 : Hid (Below w.heap.size w w6) := HBw.out _ (HB.out.trans (hb6.mono HB.out.size))
          clear hb6 HEq
          go_wp2
          go_ret
          exact ⟨by rw [HF.out]; rfl, HB6.out⟩
      · have hl2 : 1 < t.ch.length := by omega
        have e1 : t.ch[1]? = some (t.ch[1]'hl2) := List.getElem?_eq_getElem hl2
        have HR5 : Hid (TT = (decide (t.ch[1]'hl2 = t.p) && withinL t.own t.all)) := HR4.out.trans (by rw [if_neg hl1, e1]; congr 1; simp)
        have dl : ((t.ch.length : Int) == 1) = false := by rw [beq_eq_false_iff_ne]; omega
        have dl' : (t.ch.length == 1) = false := by rw [beq_eq_false_iff_ne]; omega
        have HC1' : Hid (∀ W, Below W0.heap.size W0 W → W.cell? ⟨b, off + 1, none⟩ = some (.string (t.ch[1]'hl2))) := fun W h => HCell.out 1 hl2 W h
        have eC := strEqB t.p (t.ch[1]'hl2)
        have q1 : (1 : Int) < (t.ch.length : Int) := by omega
        generalize t.ch[1]'hl2 = c1 at *
        clear hl1 HR4 HEq e1 HCell
        have HPs : Hid ((c1 = t.p) ↔ (t.p = c1)) := eq_comm
        cases hp : decide (t.p = c1)
        · rw [hp] at eC
          have HF : Hid (TT = false) := HR5.out.trans (by rw [decide_eq_false (fun e => by rw [decide_eq_true (HPs.out.1 e)] at hp; cases hp), Bool.false_and])
          clear HR5 hp HPs HWi3
          go_wp2_with fail
          clear g0 g1 g2 g3 g4 g5 g6 g7
          refine wp_region_quiet (C := fun w' => Below W0.heap.size W0 w') (by kernel_rfl) (by kernel_rfl) (HB.out.drew) ?_
          dsimp only
          repeat (first
            | go_big_quiet_skip
            | (go_big_quiet_want
               apply Exists.intro
               refine ⟨fun W' hW' => ?_, ?_⟩
               · have hw : Below W0.heap.size W0 W' := hW'
                 obtain ⟨⟨g0, g1, g2, g3⟩, g4, g5, g6, g7⟩ := HX.out W' hw
                 have g8 := HC1'.out W' hw
                 go_simp
                 first
                   | done
                   | rfl
               go_big_quiet_on
               try simp only [Act.put, List.setIfInBounds_toArray, List.set_cons_zero, List.set_cons_succ]))
          refine wpQuiet_nil ?_
          intro w6 hqw6
          have Hw6 : Hid (Below W0.heap.size W0 w6) := hqw6
          clear hqw6
          go_wp2
          go_ret
          exact ⟨by rw [HF.out]; rfl, HBw.out _ Hw6.out⟩
        · rw [hp] at eC
          have HF : Hid (TT = withinL t.own t.all) := HR5.out.trans (by rw [decide_eq_true (HPs.out.2 (of_decide_eq_true hp)), Bool.true_and])
          clear HR5 hp HPs
          generalize withinL t.own t.all = WL at *
          go_wp2_with fail
          clear g0 g1 g2 g3 g4 g5 g6 g7
          refine wp_region_quiet (C := fun w' => Below W0.heap.size W0 w') (by kernel_rfl) (by kernel_rfl) (HB.out.drew) ?_
          dsimp only
          repeat (first
            | go_big_quiet_skip
            | (go_big_quiet_want
               apply Exists.intro
               refine ⟨fun W' hW' => ?_, ?_⟩
               · have hw : Below W0.heap.size W0 W' := hW'
                 obtain ⟨⟨g0, g1, g2, g3⟩, g4, g5, g6, g7⟩ := HX.out W' hw
                 have g8 := HC1'.out W' hw
                 go_simp
                 first
                   | done
                   | rfl
                   | (go_at_call 75; (with_reducible refine Calls.mono (HWi3.out W' hw) ?_); rintro e w'' ⟨rfl, hb⟩; exact ⟨rfl, hw.trans (hb.mono hw.size)⟩)
               go_big_quiet_on
               try simp only [Act.put, List.setIfInBounds_toArray, List.set_cons_zero, List.set_cons_succ]))
          refine wpQuiet_nil ?_
          intro w6 hqw6
          have Hw6 : Hid (Below W0.heap.size W0 w6) := hqw6
          clear hqw6
          go_wp2
          go_ret
          exact ⟨by rw [HF.out]; rfl, HBw.out _ Hw6.out⟩
end Go.Proofs.YtlndgepoekllkaaGreatDoor
/- The reference's Set of a name that is new: its walk. -/
namespace Go.Proofs.YtlndgepoekllkaaGreatDoor
open Go.RowKit Go.ChangeMaps

/-- A store, no error. -/
def KeP17 (M : List KR) (w : World) (e : Ending) (w' : World) : Prop := ∃ a c, e = .returned (.tuple #[.agg #[.slice a M.length c], .int .i64 0]) ∧ IsRow w' 10 (.slice a M.length c) M.length (kCells M) ∧ NewA w.heap.size a ∧ Below w.heap.size w w'
set_option maxRecDepth 100000 in
set_option maxHeartbeats 4000000 in
theorem set17_new (v : Value) (M : List KR) (o : LT) (w : World) (hr : IsRow w 10 v M.length (kCells M)) (hl : M.length ≤ 1000) (hN : ∀ k ∈ M, k.y.t.n.size ≤ 200000) (ho : IsTy w o.t o.vo o.va o.vc) (hq : NmQ o.t) (hn : o.t.n.size ≤ 200000) (hP : chkT o.t = true) (hF : fndZ M o.t.n < 0) (h2 : M.length < 200) :
    Calls Tryz.prog 19 #[.agg #[v], ltV o] w fun e w' => KeP17 (wthR M (fndZ M o.t.n) ⟨o, false, [], none, 0⟩) w e w' := by
  obtain ⟨a0, c0, rfl⟩ := hr.form
  have HCh : Hid (∀ W, Below w.heap.size w W → Calls Tryz.prog 44 #[ltV o] W fun e w' => e = .returned (.bool true) ∧ Below W.heap.size W w') := fun W hb => by
    have := refChk_any o W (ho.below hb) hq
    rw [hP] at this
    exact this
  have HFi : Hid (∀ W, Below w.heap.size w W → Calls Tryz.prog 32 #[.agg #[.slice a0 M.length c0], .string o.t.n] W fun e w' => e = .returned (.int .i64 (fndZ M o.t.n)) ∧ Below W.heap.size W w') := fun W hb => find17_any _ M _ W (hr.below hb) hl (fun k hk => by have := hN k hk; omega) (by omega)
  have HWi : Hid (∀ W, Below w.heap.size w W → Calls Tryz.prog 46 #[.agg #[.slice a0 M.length c0], .int .i64 (fndZ M o.t.n), .agg (krA ⟨o, false, [], none, 0⟩)] W fun e w' => KsP (wthR M (fndZ M o.t.n) ⟨o, false, [], none, 0⟩) W e w') := fun W hb => with17_any _ M _ _ W (hr.below hb) hl hN (by exact hn)
  generalize wthR M (fndZ M o.t.n) ⟨o, false, [], none, 0⟩ = RES at *
  clear hr hN hn ho hq hP
  obtain ⟨⟨tn, tp, town, tall, tch, tnd, tlf, tsq⟩, ao, co, aa, ca, ac, cc⟩ := o
  dsimp only at *
  generalize fndZ M tn = Z at *
  obtain ⟨w1, hw1⟩ : ∃ w1, w1 = w.alloc (.cells #[.slice a0 M.length c0] 27) := ⟨_, rfl⟩
  have B1 : Hid (Below w.heap.size w w1) := by show Below _ _ _; rw [hw1]; exact al_b _ _
  have hn1 : w1.heap[w.heap.size]? = some (.cells #[.slice a0 M.length c0] 27 (0, 0)) := by rw [hw1]; exact new_at _ _
  have C1 : Hid (∀ W, Below w1.heap.size w1 W → W.heap[w.heap.size]? = some (.cells #[.slice a0 M.length c0] 27 (0, 0))) := fun W h => (h.block _ (Array.getElem?_eq_some_iff.1 hn1).1).trans hn1
  clear hn1
  obtain ⟨w2, hw2⟩ : ∃ w2, w2 = w1.alloc (.cells #[.string tn, .string tp, .slice ao town.length co, .slice aa tall.length ca, .slice ac tch.length cc, .int .i64 tnd, .int .i64 tlf, .int .i64 tsq] 63) := ⟨_, rfl⟩
  have B2 : Hid (Below w1.heap.size w1 w2) := by show Below _ _ _; rw [hw2]; exact al_b _ _
  have hn2 : w2.heap[(w.heap.size + 1)]? = some (.cells #[.string tn, .string tp, .slice ao town.length co, .slice aa tall.length ca, .slice ac tch.length cc, .int .i64 tnd, .int .i64 tlf, .int .i64 tsq] 63 (0, 0)) := by rw [hw2]; rw [show w.heap.size + 1 = w1.heap.size by (rw [hw1]; simp)]; exact new_at _ _
  have C2 : Hid (∀ W, Below w2.heap.size w2 W → W.heap[(w.heap.size + 1)]? = some (.cells #[.string tn, .string tp, .slice ao town.length co, .slice aa tall.length ca, .slice ac tch.length cc, .int .i64 tnd, .int .i64 tlf, .int .i64 tsq] 63 (0, 0))) := fun W h => (h.block _ (Array.getElem?_eq_some_iff.1 hn2).1).trans hn2
  clear hn2
  obtain ⟨w3, hw3⟩ : ∃ w3, w3 = w2.alloc (.cells #[.slice none 0 0] 27) := ⟨_, rfl⟩
  have B3 : Hid (Below w2.heap.size w2 w3) := by show Below _ _ _; rw [hw3]; exact al_b _ _
  have hn3 : w3.heap[(w.heap.size + 2)]? = some (.cells #[.slice none 0 0] 27 (0, 0)) := by rw [hw3]; rw [show w.heap.size + 2 = w2.heap.size by (rw [hw2, hw1]; simp)]; exact new_at _ _
  have C3 : Hid (∀ W, Below w3.heap.size w3 W → W.heap[(w.heap.size + 2)]? = some (.cells #[.slice none 0 0] 27 (0, 0))) := fun W h => (h.block _ (Array.getElem?_eq_some_iff.1 hn3).1).trans hn3
  clear hn3
  have Hzq : Hid (w3.heap.size = w.heap.size + 3) := by show _ = _; rw [hw3, hw2, hw1]; simp
  have Btq : Hid (Below w1.heap.size w1 w3) := B2.out.trans (B3.out.mono B2.out.size)
  have HBw0 : Hid (Below w.heap.size w w3) := B1.out.trans (Btq.out.mono B1.out.size)
  have HCA : Hid (∀ W, Below w3.heap.size w3 W → W.cell? ⟨w.heap.size, 0, none⟩ = some (.slice a0 M.length c0) ∧ W.cell? ⟨w.heap.size + 1, 0, none⟩ = some (.string tn) ∧ W.cell? ⟨w.heap.size + 1, 1, none⟩ = some (.string tp) ∧ W.cell? ⟨w.heap.size + 1, 2, none⟩ = some (.slice ao town.length co) ∧ W.cell? ⟨w.heap.size + 1, 3, none⟩ = some (.slice aa tall.length ca) ∧ W.cell? ⟨w.heap.size + 1, 4, none⟩ = some (.slice ac tch.length cc) ∧ W.cell? ⟨w.heap.size + 1, 5, none⟩ = some (.int .i64 tnd) ∧ W.cell? ⟨w.heap.size + 1, 6, none⟩ = some (.int .i64 tlf) ∧ W.cell? ⟨w.heap.size + 1, 7, none⟩ = some (.int .i64 tsq) ∧ W.cell? ⟨w.heap.size + 2, 0, none⟩ = some (.slice none 0 0) ∧ ∀ j, W.frozen? ⟨w.heap.size + 2, j, none⟩ = false) := fun W hb => by
    have h1 := C1.out W (Btq.out.trans (hb.mono Btq.out.size))
    have h2 := C2.out W (B3.out.trans (hb.mono B3.out.size))
    have h3 := C3.out W hb
    have c : ∀ j, W.cell? ⟨w.heap.size + 1, j, none⟩ = (#[.string tn, .string tp, .slice ao town.length co, .slice aa tall.length ca, .slice ac tch.length cc, .int .i64 tnd, .int .i64 tlf, .int .i64 tsq] : Array Value)[j]? := fun j => by rw [Lib.cell_of_heap h2]
    exact ⟨by rw [Lib.cell_of_heap h1]; rfl, c 0, c 1, c 2, c 3, c 4, c 5, c 6, c 7, by rw [Lib.cell_of_heap h3]; rfl, fun j => Lib.frozen_of_heap h3 j⟩
  obtain ⟨cb, t0, t1, t2, t3, t4, t5, t6, t7, cr, fz⟩ := HCA.out w3 (Below.refl _ _)
  rw [hw3, hw2, hw1] at cb t0 t1 t2 t3 t4 t5 t6 t7 cr fz
  go_enter Tryz.func19, Tryz.ntmps19
  go_wp2_with fail
  rw [← hw1, ← hw2, ← hw3]
  clear hw1 hw2 hw3 cb t0 t1 t2 t3 t4 t5 t6 t7 cr fz
  refine (HCh.out _ HBw0.out).mono ?_
  rintro e w5 ⟨rfl, hb⟩
  have B5 : Hid (Below w3.heap.size w3 w5) := hb
  clear hb
  obtain ⟨cb, t0, t1, t2, t3, t4, t5, t6, t7, cr, fz⟩ := HCA.out _ B5.out
  have H5 : Hid (Below w.heap.size w w5) := HBw0.out.trans (B5.out.mono HBw0.out.size)
  go_wp2_with fail
  refine (HFi.out _ H5.out).mono ?_
  rintro e w6 ⟨rfl, hb⟩
  have B6 : Hid (Below w3.heap.size w3 w6) := B5.out.trans (hb.mono B5.out.size)
  clear hb cb t0 t1 t2 t3 t4 t5 t6 t7 cr fz
  have dz : decide (Z < 0) = true := decide_eq_true hF
  have dz2 : decide (0 ≤ Z) = false := decide_eq_false (by omega)
  have dl : decide ((200 : Int) ≤ (M.length : Int)) = false := decide_eq_false (by omega)
  go_wp2_with fail
  refine wp_region_quiet (C := fun w' => Below w6.heap.size w6 w') (by kernel_rfl) (by kernel_rfl) ((Below.refl _ _).drew) ?_
  dsimp only
  repeat (first
    | go_big_quiet_skip
    | (go_big_quiet_want
       apply Exists.intro
       refine ⟨fun W' hW' => ?_, ?_⟩
       · have hw : Below w6.heap.size w6 W' := hW'
         go_simp
         first
           | done
           | rfl
       go_big_quiet_on
       try simp only [Act.put, List.setIfInBounds_toArray, List.set_cons_zero, List.set_cons_succ]))
  refine wpQuiet_nil ?_
  intro w7 hb7
  have B7 : Hid (Below w3.heap.size w3 w7) := B6.out.trans (Below.mono hb7 B6.out.size)
  clear hb7
  obtain ⟨cb, t0, t1, t2, t3, t4, t5, t6, t7, cr, fz⟩ := HCA.out _ B7.out
  have H7 : Hid (Below w.heap.size w w7) := HBw0.out.trans (B7.out.mono HBw0.out.size)
  go_wp2_with fail
  refine (HWi.out _ H7.out).mono ?_
  rintro e w8 ⟨xa, ya, rfl, hrow, hnew, hb8⟩
  have B8 : Hid (Below w3.heap.size w3 w8) := B7.out.trans (hb8.mono B7.out.size)
  have H8 : Hid (Below w.heap.size w w8) := H7.out.trans (hb8.mono H7.out.size)
  clear cb t0 t1 t2 t3 t4 t5 t6 t7 cr fz
  obtain ⟨-, -, -, -, -, -, -, -, -, cr, fz⟩ := HCA.out _ B8.out
  have HE : Hid (∀ u, KeP17 RES w (.returned (.tuple #[.agg #[.slice xa RES.length ya], .int .i64 0])) (w8.setCell ⟨w.heap.size + 2, 0, none⟩ u)) := fun u => by
    have h1 := B7.out.size
    have h2 := Hzq.out
    exact ⟨xa, ya, rfl, row_far hrow hnew (by omega) 0 _, hnew.le (by omega), H8.out.setCell (p := ⟨w.heap.size + 2, 0, none⟩) (Nat.le_add_right _ 2) u⟩
  clear HCh HFi HCA HWi hrow hnew hb8
  go_wp2_with fail
  try simp only [Exit.inBlock, Exit.then]
  refine bodyPost_ret (v := .tuple #[.agg #[.slice xa RES.length ya], .int .i64 0]) ?_ rfl (HE.out _)
  rw [results_c2 rfl]; go_simp
  first | done | exact ⟨rfl, rfl⟩
end Go.Proofs.YtlndgepoekllkaaGreatDoor
