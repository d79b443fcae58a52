/- forest.Of: its walk. -/
import Derived.Test.YtacpllmlpmllbaaGreatDoorZk10
import Derived.Test.YtacpllmlpmllbaaGreatDoorZk12
import Derived.Test.YtacpllmlpmllbaaGreatDoorZk9
import Derived.Deep.QuietTactic
import Derived.BigQuiet
namespace Go.Proofs.YtacpllmlpmllbaaGreatDoor
open Go.RowKit Go.ChangeMaps

abbrev ofV (b : Nat) : Value := .func (.func 82) #[] #[.pointer (some ⟨b, 0, none⟩)]
theorem of1_any (u s : ByteArray) (b : Nat) (w : World) (hb : w.cell? ⟨b, 0, none⟩ = some (.string s)) (hu : u.size ≤ 1000000) (hs : s.size ≤ 1000000) (hU : UT w) :
    Calls Tryz.prog 82 #[.string u, .pointer (some ⟨b, 0, none⟩)] w fun e w' => e = .returned (.bool (sameL u.data.toList s.data.toList)) ∧ Below w.heap.size w w' := by
  have HC : Hid (Calls Tryz.prog 48 #[.string u, .string s] w fun e w' => e = .returned (.bool (sameL u.data.toList s.data.toList)) ∧ Below w.heap.size w w') := same_any _ _ w hu hs hU
  generalize sameL u.data.toList s.data.toList = C at *
  clear hU
  go_enter Tryz.func82, Tryz.ntmps82
  go_wp2_with fail
  refine HC.out.mono ?_
  rintro e w1 ⟨rfl, hb1⟩
  have HB : Hid (Below w.heap.size w w1) := hb1
  clear hb1 HC
  go_wp2
  go_ret
  exact ⟨rfl, HB.out⟩
def ixO (s : ByteArray) (l : List ByteArray) : Int := match l.findIdx? (fun u => sameL u.data.toList s.data.toList) with | some k => (k : Int) | none => -1
theorem ixO_at {s : ByteArray} {l : List ByteArray} {k : Nat} (hk : k < l.length) (h1 : ∀ (j : Nat) (h : j < l.length), j < k → sameL l[j].data.toList s.data.toList = false) (h2 : sameL l[k].data.toList s.data.toList = true) : ixO s l = (k : Int) := by
  have : l.findIdx? (fun u => sameL u.data.toList s.data.toList) = some k := by
    rw [List.findIdx?_eq_some_iff_getElem]
    exact ⟨hk, h2, fun j hj => by simp [h1 j (by omega) hj]⟩
  unfold ixO
  rw [this]
theorem ixO_none {s : ByteArray} {l : List ByteArray} (h1 : ∀ (j : Nat) (h : j < l.length), sameL l[j].data.toList s.data.toList = false) : ixO s l = -1 := by
  have : l.findIdx? (fun u => sameL u.data.toList s.data.toList) = none := by
    rw [List.findIdx?_eq_none_iff]
    intro x hx
    obtain ⟨j, hj, rfl⟩ := List.mem_iff_getElem.1 hx
    exact h1 j hj
  unfold ixO
  rw [this]
theorem ixO_any (s : ByteArray) (l : List ByteArray) : decide (0 ≤ ixO s l) = l.any fun u => sameL u.data.toList s.data.toList := by
  unfold ixO
  cases h : l.findIdx? (fun u => sameL u.data.toList s.data.toList) with
  | none =>
    rw [List.findIdx?_eq_none_iff] at h
    have : (l.any fun u => sameL u.data.toList s.data.toList) = false := by
      rw [List.any_eq_false]
      intro x hx
      rw [h x hx]
      decide
    rw [this]
    decide
  | some k =>
    obtain ⟨hk, h2, -⟩ := List.findIdx?_eq_some_iff_getElem.1 h
    have : (l.any fun u => sameL u.data.toList s.data.toList) = true := List.any_eq_true.2 ⟨_, List.getElem_mem hk, h2⟩
    rw [this]
    simp
set_option maxRecDepth 100000 in
set_option maxHeartbeats 2000000 in
theorem indexO_any (s : ByteArray) (bb : Nat) (v : Value) (l : List ByteArray) (w : World) (hr : IsRow w 1 v l.length (sVals l)) (hl : l.length ≤ 1000000) (hn : ∀ u ∈ l, u.size ≤ 1000000) (hs : s.size ≤ 1000000) (hb : w.cell? ⟨bb, 0, none⟩ = some (.string s)) (hU : UT w) :
    Calls Tryz.prog 134 #[v, ofV bb] w fun e w' => e = .returned (.int .i64 (ixO s l)) ∧ Below w.heap.size w w' := by
  obtain ⟨a0, cap0, rfl⟩ := hr.form
  have HR : Hid (IsRow w 1 (.slice a0 l.length cap0) l.length (sVals l)) := hr
  have hlt : bb < w.heap.size := by
    rcases Nat.lt_or_ge bb w.heap.size with h | h
    · exact h
    · simp [World.cell?, Array.getElem?_eq_none h] at hb
  have HT : Hid (∀ (k : Nat) (hk : k < l.length) w', Below w.heap.size w w' → Calls Tryz.prog 82 #[.string l[k], .pointer (some ⟨bb, 0, none⟩)] w' fun e w'' => e = .returned (.bool (sameL l[k].data.toList s.data.toList)) ∧ Below w'.heap.size w' w'') := fun k hk w' h => of1_any _ s bb w' ((h.cell (p := ⟨bb, 0, none⟩) hlt).trans hb) (hn _ (List.getElem_mem hk)) hs (Utf8Tabs_below hU h)
  clear hr hb hn hU hlt
  go_enter Tryz.func134, Tryz.ntmps134
  go_wp2_with fail
  go_loopw [4, 5, 8] (fun r _ i wr => r = .int .i64 0 ∧ ∃ k : Nat, k ≤ l.length ∧ i = .int .i64 (k : Int) ∧ Hid (∀ (j : Nat) (h : j < l.length), j < k → sameL l[j].data.toList s.data.toList = false) ∧ Hid (Below w.heap.size w wr)) (fun _ _ i _ => l.length - (intOf i).toNat)
  case atStart => exact ⟨rfl, 0, Nat.zero_le _, rfl, fun j h hj => absurd hj (Nat.not_lt_zero _), Below.refl _ _⟩
  case round =>
    obtain ⟨rfl, k, hk, rfl, HO, HB⟩ := hrel
    by_cases hlk : k < l.length
    · have dk : decide ((k : Int) < l.length) = true := by simp; omega
      obtain ⟨b, off, rfl, -, hlt, hcap, hc⟩ := s_at (HR.out.below HB.out) (by omega)
      have y0 := hc k hlk
      have HTk : Hid (Calls Tryz.prog 82 #[.string l[k], .pointer (some ⟨bb, 0, none⟩)] wr fun e w'' => e = .returned (.bool (sameL l[k].data.toList s.data.toList)) ∧ Below wr.heap.size wr w'') := HT.out k hlk wr HB.out
      have HF : Hid (sameL l[k].data.toList s.data.toList = true → ixO s l = (k : Int)) := fun h => ixO_at hlk HO.out h
      have HO2 : Hid (sameL l[k].data.toList s.data.toList = false → ∀ (j : Nat) (h : j < l.length), j < k + 1 → sameL l[j].data.toList s.data.toList = false) := fun h0 j h hj => by
        by_cases e : j = k
        · subst e; exact h0
        · exact HO.out j h (by omega)
      have i1 : (0 : Int) ≤ (k : Int) := by omega
      have i2 : (k : Int) < (l.length : Int) := by omega
      generalize sameL l[k].data.toList s.data.toList = bo at *
      generalize l[k]'hlk = x at *
      clear hc HO HT HR
      go_wp2_with fail
      refine HTk.out.mono ?_
      rintro e w5 ⟨rfl, hb5⟩
      have HB5 : Hid (Below w.heap.size w w5) := HB.out.trans (hb5.mono HB.out.size)
      clear hb5 HTk HB y0
      cases bo with
      | true =>
        have HX : Hid (ixO s l = (k : Int)) := HF.out rfl
        clear HF HO2
        go_wp2
        go_ret
        exact ⟨by rw [HX.out]; rfl, HB5.out⟩
      | false =>
        have HO3 : Hid (∀ (j : Nat) (h : j < l.length), j < k + 1 → sameL l[j].data.toList s.data.toList = false) := HO2.out rfl
        clear HF HO2
        go_wp2
        go_roundw
        case rel => exact ⟨rfl, k + 1, by omega, by simp, HO3, HB5⟩
        case measure => simp [intOf]; omega
    · have dk : decide ((k : Int) < l.length) = false := by simp; omega
      have HX : Hid (ixO s l = -1) := ixO_none fun j h => HO.out j h (by omega)
      clear HO HT HR
      go_wp2
      go_ret
      exact ⟨by rw [HX.out]; rfl, HB.out⟩
set_option maxRecDepth 100000 in
theorem contO_any (s : ByteArray) (bb : Nat) (v : Value) (l : List ByteArray) (w : World) (hr : IsRow w 1 v l.length (sVals l)) (hl : l.length ≤ 1000000) (hn : ∀ u ∈ l, u.size ≤ 1000000) (hs : s.size ≤ 1000000) (hb : w.cell? ⟨bb, 0, none⟩ = some (.string s)) (hU : UT w) :
    Calls Tryz.prog 81 #[v, ofV bb] w fun e w' => e = .returned (.bool (l.any fun u => sameL u.data.toList s.data.toList)) ∧ Below w.heap.size w w' := by
  obtain ⟨a0, cap0, rfl⟩ := hr.form
  have HC : Hid (Calls Tryz.prog 134 #[.slice a0 l.length cap0, ofV bb] w fun e w' => e = .returned (.int .i64 (ixO s l)) ∧ Below w.heap.size w w') := indexO_any s bb _ l w hr hl hn hs hb hU
  have he := ixO_any s l
  rw [← he]
  clear he
  generalize ixO s l = X at *
  clear hr hn hb hU
  go_enter Tryz.func81, Tryz.ntmps81
  go_wp2_with fail
  refine HC.out.mono ?_
  rintro e w1 ⟨rfl, hb1⟩
  have HB : Hid (Below w.heap.size w w1) := hb1
  clear hb1 HC
  go_wp2
  go_ret
  exact ⟨rfl, HB.out⟩
set_option maxRecDepth 100000 in
theorem of_any (x : LT) (s : ByteArray) (w : World) (hr : IsTy w x.t x.vo x.va x.vc) (hl : x.t.ch.length ≤ 1000000) (hn : ∀ u ∈ x.t.ch, u.size ≤ 1000000) (hs : s.size ≤ 1000000) (hU : UT w) :
    Calls Tryz.prog 38 #[ltV x, .string s] w fun e w' => e = .returned (.bool (ofB x.t s)) ∧ Below w.heap.size w w' := by
  have HB : Hid (Below w.heap.size w ((w.alloc (.cells (tyA x.t x.vo x.va x.vc) 67)).alloc (.cells #[.string s] 9))) := (al_b w _).trans ((al_b _ _).mono (by simp))
  have HC : Hid (Calls Tryz.prog 81 #[x.vc, ofV (w.heap.size + 1)] ((w.alloc (.cells (tyA x.t x.vo x.va x.vc) 67)).alloc (.cells #[.string s] 9)) fun e w' => e = .returned (.bool (ofB x.t s)) ∧ Below ((w.alloc (.cells (tyA x.t x.vo x.va x.vc) 67)).alloc (.cells #[.string s] 9)).heap.size ((w.alloc (.cells (tyA x.t x.vo x.va x.vc) 67)).alloc (.cells #[.string s] 9)) w') := contO_any s _ _ x.t.ch _ (hr.2.2.below HB.out) hl hn hs (by simp) (Utf8Tabs_below hU HB.out)
  generalize ofB x.t s = C at *
  clear hr hn hU
  go_enter Tryz.func38, Tryz.ntmps38
  go_wp2_with fail
  refine HC.out.mono ?_
  rintro e w1 ⟨rfl, hb1⟩
  have HB1 : Hid (Below w.heap.size w w1) := HB.out.trans (hb1.mono HB.out.size)
  clear hb1 HC HB
  go_wp2
  go_ret
  exact ⟨rfl, HB1.out⟩
end Go.Proofs.YtacpllmlpmllbaaGreatDoor
/- slices.Grow of nothing, slices.Concat of two rows of names: walks. -/
namespace Go.Proofs.YtacpllmlpmllbaaGreatDoor
open Go.RowKit Go.ChangeMaps

def preS (a b : List ByteArray) (k : Nat) : List ByteArray := if k = 0 then [] else if k = 1 then a else a ++ b
end Go.Proofs.YtacpllmlpmllbaaGreatDoor
/- forest.Below: its walk. -/
namespace Go.Proofs.YtacpllmlpmllbaaGreatDoor
open Go.RowKit Go.ChangeMaps

/-- Behind the store of a type that is made. -/
def CtB (w : World) (t : Ty) (wx : World) : Prop := ∃ y : LT, y.t = t ∧ Hid (IsTy wx y.t y.vo y.va y.vc) ∧ Hid (NewT (w.heap.size + 3) y) ∧ Hid (Below w.heap.size w wx) ∧ Hid (BxT (w.heap.size + 2) y.t y.vo y.va y.vc wx)
end Go.Proofs.YtacpllmlpmllbaaGreatDoor
/- forest.isBelow: its walk. -/
namespace Go.Proofs.YtacpllmlpmllbaaGreatDoor
open Go.RowKit Go.ChangeMaps

/-- A row of names without its first one, as the walk has it. -/
theorem row_tail {w : World} {b off cc : Nat} {l : List ByteArray} (h : IsRow w 1 (.slice (some ⟨b, off, none⟩) l.length cc) l.length (sVals l)) (h1 : 1 ≤ l.length) : IsRow w 1 (.slice (if cc = 1 then some ⟨b, off, none⟩ else some ⟨b, off + 1, none⟩) (l.length - 1) (cc - 1)) l.tail.length (sVals l.tail) := by
  obtain ⟨b', off', cap', hv, hlt, q1, q2, hc⟩ := h.open (by omega)
  simp only [Value.slice.injEq, Option.some.injEq, Addr.mk.injEq, and_true, true_and] at hv
  obtain ⟨⟨rfl, rfl⟩, rfl⟩ := hv
  have hl : l.tail.length = l.length - 1 := List.length_tail
  by_cases e : cc = 1
  · rw [if_pos e]
    have h0 : l.length - 1 = 0 := by omega
    have hn : l.tail = [] := List.eq_nil_of_length_eq_zero (by omega)
    rw [h0, hn]
    exact ⟨rfl, .inl ⟨rfl, _, _, rfl⟩⟩
  · rw [if_neg e, hl]
    refine ⟨by simp [sVals], .inr ⟨b, off + 1, cc - 1, rfl, hlt, by omega, by omega, fun j u hu => ?_⟩⟩
    have hu' : (sVals l)[j + 1]? = some u := by
      cases l with
      | nil => simp at h1
      | cons y l => simpa [sVals] using hu
    have := hc (j + 1) u hu'
    rwa [show off + 1 + j = off + (j + 1) by omega]
set_option maxRecDepth 100000 in
set_option maxHeartbeats 4000000 in
theorem isBelow_any (x o : LT) (w : World) (hx : IsTy w x.t x.vo x.va x.vc) (ho : IsTy w o.t o.vo o.va o.vc) (nx : NmT x.t) (no : NmT o.t) (h1 : 1 ≤ x.t.ch.length) (hW : W3 w) :
    Calls Tryz.prog 79 #[ltV x, ltV o] w fun e w' => e = .returned (.bool (belB x.t o.t)) ∧ Below w.heap.size w w' := by
  obtain ⟨W0, hW0⟩ : ∃ W0, W0 = (w.alloc (.cells (tyA x.t x.vo x.va x.vc) 67)).alloc (.cells (tyA o.t o.vo o.va o.vc) 67) := ⟨_, rfl⟩
  have hA : Below w.heap.size w W0 := by rw [hW0]; exact (al_b w _).trans ((al_b _ _).mono (by simp))
  have hz : W0.heap.size = w.heap.size + 2 := by rw [hW0]; simp
  have hn0 : W0.heap[w.heap.size]? = some (.cells (tyA x.t x.vo x.va x.vc) 67 (0, 0)) := by
    rw [hW0]
    show ((w.heap.push _).push _)[w.heap.size]? = _
    rw [Array.getElem?_push, if_neg (by simp), Array.getElem?_push, if_pos rfl]
  have hn1 : W0.heap[w.heap.size + 1]? = some (.cells (tyA o.t o.vo o.va o.vc) 67 (0, 0)) := by
    rw [hW0]
    show ((w.heap.push _).push _)[w.heap.size + 1]? = _
    rw [Array.getElem?_push, if_pos (by simp)]
  have HX : Hid (∀ W, Below W0.heap.size W0 W → BxT w.heap.size x.t x.vo x.va x.vc W) := fun W h => BxT.of ((h.block _ (by omega)).trans hn0)
  have HY : Hid (∀ W, Below W0.heap.size W0 W → BxT (w.heap.size + 1) o.t o.vo o.va o.vc W) := fun W h => BxT.of ((h.block _ (by omega)).trans hn1)
  have HBw : Hid (∀ W, Below W0.heap.size W0 W → Below w.heap.size w W) := fun W h => hA.trans (h.mono hA.size)
  have HM : Hid (Calls Tryz.prog 130 #[o.va, x.vo] W0 fun e w' => MgA o.t.all x.t.own W0 e w') := merge_any _ _ o.t.all x.t.own W0 (ho.2.1.below hA) (hx.1.below hA) no.la nx.lo no.a nx.o (hW.below hA)
  have HEq : Hid (∀ W v, Below W0.heap.size W0 W → IsRow W 3 v (mgL o.t.all x.t.own).1.length (fCells (mgL o.t.all x.t.own).1) → Calls Tryz.prog 127 #[v, x.va] W fun e w' => e = .returned (.bool (sameR (mgL o.t.all x.t.own).1 x.t.all)) ∧ Below W.heap.size W w') := fun W v h hr => equalF_any _ _ _ x.t.all W hr (hx.2.1.below (HBw.out W h)) (Nat.le_trans (mgL_len _ _) (by decide)) nx.la
  obtain ⟨b, off, hac, -, hlt, hcap, hcc⟩ := s_at hx.2.2 h1
  have HEs : Hid (∀ W, Below W0.heap.size W0 W → Calls Tryz.prog 131 #[o.vc, .slice (if x.cc = 1 then some ⟨b, off, none⟩ else some ⟨b, off + 1, none⟩) (x.t.ch.length - 1) (x.cc - 1)] W fun e w' => e = .returned (.bool (sameS o.t.ch x.t.ch.tail)) ∧ Below W.heap.size W w') := fun W h => equalS_any _ _ o.t.ch x.t.ch.tail W (ho.2.2.below (HBw.out W h)) (row_tail (hac ▸ hx.2.2.below (HBw.out W h)) h1) no.lc (by rw [List.length_tail]; exact Nat.le_trans (Nat.sub_le _ _) nx.lc)
  have HD : Hid (belB x.t o.t = (decide ((mgL o.t.all x.t.own).2 = 0) && (sameR (mgL o.t.all x.t.own).1 x.t.all && sameS o.t.ch x.t.ch.tail))) := rfl
  obtain ⟨xt, xao, xco, xaa, xca, xac, xcc⟩ := x
  dsimp only [LT.vc] at hac
  subst hac
  clear hx ho nx no hW hA hn0 hn1
  generalize belB xt o.t = BB at *
  go_enter Tryz.func79, Tryz.ntmps79
  obtain ⟨⟨a0, a1, a2, a3⟩, a4, a5, a6, a7⟩ := HX.out W0 (Below.refl _ _)
  obtain ⟨⟨b0, b1, b2, b3⟩, b4, b5, b6, b7⟩ := HY.out W0 (Below.refl _ _)
  go_wp2_with fail
  rw [← hW0]
  clear hW0
  go_wp2_with fail
  refine HM.out.mono ?_
  rintro e w1 ⟨s, c, rfl, hrow, -, hb1⟩
  have HH1 : Hid (Below W0.heap.size W0 w1) := hb1
  have HRow : Hid (∀ W, Below w1.heap.size w1 W → IsRow W 3 (.slice s (mgL o.t.all xt.own).1.length c) (mgL o.t.all xt.own).1.length (fCells (mgL o.t.all xt.own).1)) := fun W h => hrow.below h
  have HT1 : Hid (∀ W, Below w1.heap.size w1 W → Below W0.heap.size W0 W) := fun W h => hb1.trans (h.mono hb1.size)
  clear hb1 hrow HM a0 a1 a2 a3 a4 a5 a6 a7 b0 b1 b2 b3 b4 b5 b6 b7
  generalize sameR (mgL o.t.all xt.own).1 xt.all = EQ at *
  generalize (mgL o.t.all xt.own).1 = D at *
  generalize (mgL o.t.all xt.own).2 = E at *
  generalize sameS o.t.ch xt.ch.tail = ES at *
  have HEq1 : Hid (∀ W, Below w1.heap.size w1 W → Calls Tryz.prog 127 #[.slice s D.length c, .slice xaa xt.all.length xca] W fun e w' => e = .returned (.bool EQ) ∧ Below W.heap.size W w') := fun W h => HEq.out W _ (HT1.out W h) (HRow.out W h)
  have HBd : Hid (Below w1.heap.size w1 w1.drew) := (Below.refl _ _).drew
  have HFin : Hid (∀ W, Below w1.heap.size w1 W → Below w.heap.size w W) := fun W h => HBw.out _ (HT1.out W h)
  have q1 : (1 : Int) ≤ (xt.ch.length : Int) := by omega
  have q2 : (xt.ch.length : Int) ≤ (xcc : Int) := by omega
  clear HEq HRow HBw
  by_cases hE : E = 0
  rotate_left
  · have hB : BB = false := by rw [HD.out, decide_eq_false hE, Bool.false_and]
    have dE : (E == 0) = false := by simp [hE]
    subst hB
    clear hE HD
    go_wp2_with fail
    refine wp_region_quiet (C := fun w' => Below w1.heap.size w1 w') (by kernel_rfl) (by kernel_rfl) HBd.out ?_
    dsimp only
    repeat (first
      | go_big_quiet_skip
      | (go_big_quiet_want
         apply Exists.intro
         refine ⟨fun W' hW' => ?_, ?_⟩
         · have hw : Below w1.heap.size w1 W' := hW'
           go_simp
           first
             | done
             | rfl
         go_big_quiet_on
         try simp only [Act.put, List.setIfInBounds_toArray, List.set_cons_zero, List.set_cons_succ]))
    refine wpQuiet_nil ?_
    intro w6 hqw6
    have HB6 : Hid (Below w.heap.size w w6) := HFin.out _ hqw6
    clear hqw6
    go_wp2
    go_ret
    exact ⟨rfl, HB6.out⟩
  subst hE
  cases hEQ : EQ
  · have hB : BB = false := by rw [HD.out, hEQ, Bool.false_and, Bool.and_false]
    subst hB
    rw [hEQ] at HEq1
    clear hEQ HD HEs
    go_wp2_with fail
    refine wp_region_quiet (C := fun w' => Below w1.heap.size w1 w') (by kernel_rfl) (by kernel_rfl) HBd.out ?_
    dsimp only
    repeat (first
      | go_big_quiet_skip
      | (go_big_quiet_want
         apply Exists.intro
         refine ⟨fun W' hW' => ?_, ?_⟩
         · have hw : Below w1.heap.size w1 W' := hW'
           obtain ⟨⟨g0, g1, g2, g3⟩, g4, g5, g6, g7⟩ := HX.out W' (HT1.out W' hw)
           go_simp
           first
             | done
             | rfl
             | (go_at_call 127; refine (HEq1.out W' hw).mono ?_; rintro e w'' ⟨rfl, hb⟩; exact ⟨rfl, hw.trans (hb.mono hw.size)⟩)
         go_big_quiet_on
         try simp only [Act.put, List.setIfInBounds_toArray, List.set_cons_zero, List.set_cons_succ]))
    refine wpQuiet_nil ?_
    intro w6 hqw6
    have HB6 : Hid (Below w.heap.size w w6) := HFin.out _ hqw6
    clear hqw6
    go_wp2
    go_ret
    exact ⟨rfl, HB6.out⟩
  have hB : BB = ES := by rw [HD.out, hEQ]; simp
  subst hB
  rw [hEQ] at HEq1
  clear hEQ HD
  go_wp2_with fail
  refine wp_region_quiet (C := fun w' => Below w1.heap.size w1 w') (by kernel_rfl) (by kernel_rfl) HBd.out ?_
  dsimp only
  repeat (first
    | go_big_quiet_skip
    | (go_big_quiet_want
       apply Exists.intro
       refine ⟨fun W' hW' => ?_, ?_⟩
       · have hw : Below w1.heap.size w1 W' := hW'
         obtain ⟨⟨g0, g1, g2, g3⟩, g4, g5, g6, g7⟩ := HX.out W' (HT1.out W' hw)
         obtain ⟨⟨k0, k1, k2, k3⟩, k4, k5, k6, k7⟩ := HY.out W' (HT1.out W' hw)
         go_simp
         first
           | done
           | rfl
           | (go_at_call 127; refine (HEq1.out W' hw).mono ?_; rintro e w'' ⟨rfl, hb⟩; exact ⟨rfl, hw.trans (hb.mono hw.size)⟩)
           | (go_at_call 131; refine (HEs.out W' (HT1.out W' hw)).mono ?_; rintro e w'' ⟨rfl, hb⟩; exact ⟨rfl, hw.trans (hb.mono hw.size)⟩)
       go_big_quiet_on
       try simp only [Act.put, List.setIfInBounds_toArray, List.set_cons_zero, List.set_cons_succ]))
  refine wpQuiet_nil ?_
  intro w6 hqw6
  have HB6 : Hid (Below w.heap.size w w6) := HFin.out _ hqw6
  clear hqw6
  go_wp2
  all_goals go_ret
  all_goals exact ⟨rfl, HB6.out⟩
end Go.Proofs.YtacpllmlpmllbaaGreatDoor
/- forest.Is: its walk. -/
namespace Go.Proofs.YtacpllmlpmllbaaGreatDoor
open Go.RowKit Go.ChangeMaps

theorem str0 (s : ByteArray) : (s.toList == ([] : List UInt8)) = decide (s.size = 0) := by
  rw [Bool.eq_iff_iff, beq_iff_eq, decide_eq_true_eq, ByteArray.toList_eq]
  constructor
  · intro h
    have e : s.data.toList.length = s.size := by simp
    rw [h] at e
    exact e.symm
  · intro h
    apply List.eq_nil_of_length_eq_zero
    have e : s.data.toList.length = s.size := by simp
    omega
theorem str0' (s : ByteArray) : (s.toList == (⟨#[]⟩ : ByteArray).toList) = decide (s.size = 0) := by rw [← str0, ByteArray.toList_eq ⟨#[]⟩]
theorem chk_ch {t : Ty} (h : chkT t = true) : 1 ≤ t.ch.length := by
  unfold chkT at h
  simp only [Bool.and_eq_true, decide_eq_true_eq] at h
  exact h.1
theorem parB_0 {l : List Ty} {t : Ty} (h : t.p.size = 0) : parB l t = true := by unfold parB; rw [decide_eq_true h, Bool.true_or]
theorem parB_1 {l : List Ty} {t : Ty} (h : ¬ t.p.size = 0) (hp : parN l t.p = none) : parB l t = false := by unfold parB; rw [decide_eq_false h, Bool.false_or, hp]
theorem parB_2 {l : List Ty} {t o : Ty} (h : ¬ t.p.size = 0) (hp : parN l t.p = some o) : parB l t = belB t o := by unfold parB; rw [decide_eq_false h, Bool.false_or, hp]
theorem nmN {L : List LT} (h : NmL L) : ∀ x ∈ L, x.t.n.size ≤ 1000000 := fun x hx => (h x hx).n
/-- The first so many types may be, and rise. -/
def OkK (L : List LT) (k : Nat) : Prop := ∀ (j : Nat) (h : j < L.length), j < k → chkT L[j].t = true ∧ ∀ (i : Nat) (e : i + 1 = j), nmC (L[i]'(by omega)).t L[j].t.n < 0
theorem okK_all {L : List LT} (h : OkK L L.length) : (tys L).all chkT = true ∧ Rise (tys L) := by
  constructor
  · rw [List.all_eq_true]
    intro t ht
    obtain ⟨k, hk, rfl⟩ := List.mem_iff_getElem.1 ht
    rw [tys_len] at hk
    rw [tys_at L k hk]
    exact (h k hk hk).1
  · rw [← riseB_iff]
    unfold riseB
    rw [decide_eq_true_eq]
    intro k hk
    rw [tys_len] at hk
    rw [tys_at L k (by omega), tys_at L (k + 1) (by omega)]
    exact (h (k + 1) (by omega) (by omega)).2 k rfl
theorem is_no1 {L : List LT} {k : Nat} (hk : k < L.length) (h : chkT L[k].t = false) : isB (tys L) = false := by
  cases e : isB (tys L)
  · rfl
  · unfold isB at e
    simp only [Bool.and_eq_true, List.all_eq_true] at e
    have := e.2.1 L[k].t (by rw [← tys_at L k hk]; exact List.getElem_mem _)
    rw [h] at this
    cases this
theorem is_no2 {L : List LT} {k : Nat} (hk : k + 1 < L.length) (h : ¬ nmC (L[k]'(by omega)).t L[k + 1].t.n < 0) : isB (tys L) = false := by
  cases e : isB (tys L)
  · rfl
  · unfold isB at e
    simp only [Bool.and_eq_true, riseB_iff] at e
    have := (List.pairwise_iff_getElem.1 e.2.2.1) k (k + 1) (by rw [tys_len]; omega) (by rw [tys_len]; omega) (by omega)
    rw [tys_at L k (by omega), tys_at L (k + 1) hk] at this
    exact absurd this h
theorem is_no3 {L : List LT} {k : Nat} (hk : k < L.length) (h : parB (tys L) L[k].t = false) : isB (tys L) = false := by
  cases e : isB (tys L)
  · rfl
  · unfold isB at e
    simp only [Bool.and_eq_true, List.all_eq_true] at e
    have := e.2.2.2 L[k].t (by rw [← tys_at L k hk]; exact List.getElem_mem _)
    rw [h] at this
    cases this
theorem is_yes {L : List LT} (h0 : L.length ≤ 200) (h1 : OkK L L.length) (h2 : ∀ (k : Nat) (h : k < L.length), parB (tys L) L[k].t = true) : isB (tys L) = true := by
  obtain ⟨a, b⟩ := okK_all h1
  unfold isB
  rw [a, (riseB_iff _).2 b, tys_len, decide_eq_true h0, Bool.true_and, Bool.true_and, Bool.true_and, List.all_eq_true]
  intro t ht
  obtain ⟨k, hk, rfl⟩ := List.mem_iff_getElem.1 ht
  rw [tys_len] at hk
  rw [tys_at L k hk]
  exact h2 k hk
set_option maxRecDepth 100000 in
set_option maxHeartbeats 4000000 in
theorem is_any (v : Value) (L : List LT) (w : World) (hr : IsTys w v L) (hl : L.length ≤ 1000000) (hn : NmL L) (hW : W3 w) :
    Calls Tryz.prog 36 #[v] w fun e w' => e = .returned (.bool (isB (tys L))) ∧ Below w.heap.size w w' := by
  obtain ⟨a0, cap0, rfl⟩ := hr.1.form
  by_cases h200 : 200 < L.length
  · have d1 : decide ((200 : Int) < (L.length : Int)) = true := by simp; omega
    have e0 : isB (tys L) = false := by unfold isB; rw [tys_len, decide_eq_false (by omega), Bool.false_and]
    rw [e0]
    clear hr
    go_enter Tryz.func36, Tryz.ntmps36
    go_wp2
    go_ret
    exact ⟨rfl, Below.refl _ _⟩
  have h200' : L.length ≤ 200 := by omega
  have d1 : decide ((200 : Int) < (L.length : Int)) = false := by simp; omega
  have HR : Hid (∀ W, Below w.heap.size w W → IsTys W (.slice a0 L.length cap0) L) := fun W h => hr.below h
  have HCk : Hid (∀ (k : Nat) (hk : k < L.length) W, Below w.heap.size w W → Calls Tryz.prog 77 #[ltV L[k]] W fun e w' => e = .returned (.bool (chkT L[k].t)) ∧ Below W.heap.size W w') := fun k hk W h => checkT_any _ _ _ _ W ((hr.2 _ (List.getElem_mem hk)).below h) (hn _ (List.getElem_mem hk)) (Utf8Tabs_below hW.t h) (ML_below hW.m h)
  have HCm : Hid (∀ (i j : Nat) (hi : i < L.length) (hj : j < L.length) W, Below w.heap.size w W → Calls Tryz.prog 65 #[.string L[i].t.n, .string L[j].t.n] W fun e w' => e = .returned (.int .i64 (nmC L[i].t L[j].t.n)) ∧ Below W.heap.size W w') := fun i j hi hj W h => compare_any _ _ W (hn _ (List.getElem_mem hi)).n (hn _ (List.getElem_mem hj)).n (Utf8Tabs_below hW.t h)
  have HPa : Hid (OkK L L.length → ∀ (k : Nat) (hk : k < L.length) W, Below w.heap.size w W → Calls Tryz.prog 78 #[.slice a0 L.length cap0, ltV L[k]] W fun e w' => PaP L L[k].t.p W e w') := fun ho k hk W h => parentOf_any _ L _ W (hr.below h).1 (by omega) (nmN hn) (hn _ (List.getElem_mem hk)).p (Utf8Tabs_below hW.t h) (okK_all ho).2
  have HBe : Hid (∀ (x y : LT), x ∈ L → y ∈ L → 1 ≤ x.t.ch.length → ∀ W, Below w.heap.size w W → Calls Tryz.prog 79 #[ltV x, ltV y] W fun e w' => e = .returned (.bool (belB x.t y.t)) ∧ Below W.heap.size W w') := fun x y hx hy h1 W h => isBelow_any x y W ((hr.2 _ hx).below h) ((hr.2 _ hy).below h) (hn _ hx) (hn _ hy) h1 (hW.below h)
  clear hr hn hW
  go_enter Tryz.func36, Tryz.ntmps36
  go_wp2_with fail
  go_loopw [3, 4, 14] (fun _ _ i wr => ∃ k : Nat, k ≤ L.length ∧ i = .int .i64 (k : Int) ∧ Hid (OkK L k) ∧ Hid (Below w.heap.size w wr)) (fun _ _ i _ => L.length - (intOf i).toNat)
  case atStart => exact ⟨0, Nat.zero_le _, rfl, (fun j h hj => absurd hj (Nat.not_lt_zero _)), Below.refl _ _⟩
  case round =>
    obtain ⟨k, hk, rfl, HO, HB⟩ := hrel
    have hsz := HB.out.size
    by_cases hlk : k < L.length
    · have dk : decide ((k : Int) < L.length) = true := by simp; omega
      obtain ⟨b, off, rfl, hbl, -, hcap, hc⟩ := t_at (HR.out _ HB.out).1 (by omega)
      obtain ⟨⟨y0, y1, y2, y3⟩, y4, y5, y6, y7⟩ := hc k hlk
      have HCk1 : Hid (∀ W, Below w.heap.size w W → Calls Tryz.prog 77 #[ltV L[k]] W fun e w' => e = .returned (.bool (chkT L[k].t)) ∧ Below W.heap.size W w') := fun W h => HCk.out k hlk W h
      have HN1 : Hid (chkT L[k].t = false → isB (tys L) = false) := is_no1 hlk
      obtain ⟨W1, hW1⟩ : ∃ W1, W1 = wr.alloc (.cells (tyA L[k].t L[k].vo L[k].va L[k].vc) 67) := ⟨_, rfl⟩
      have hA : Below wr.heap.size wr W1 := by rw [hW1]; exact al_b wr _
      have hnb : W1.heap[wr.heap.size]? = some (.cells (tyA L[k].t L[k].vo L[k].va L[k].vc) 67 (0, 0)) := by rw [hW1]; exact new_at wr _
      have hlt1 : wr.heap.size < W1.heap.size := (Array.getElem?_eq_some_iff.1 hnb).1
      have HX : Hid (∀ W, Below W1.heap.size W1 W → BxT wr.heap.size L[k].t L[k].vo L[k].va L[k].vc W) := fun W h => BxT.of ((h.block _ hlt1).trans hnb)
      have HW1 : Hid (∀ W, Below W1.heap.size W1 W → Below wr.heap.size wr W) := fun W h => hA.trans (h.mono hA.size)
      have HFin : Hid (∀ W, Below W1.heap.size W1 W → Below w.heap.size w W) := fun W h => HB.out.trans ((HW1.out W h).mono hsz)
      have HBd : Hid (Below W1.heap.size W1 W1.drew) := (Below.refl _ _).drew
      clear hnb hA
      cases hck : chkT L[k].t
      · have HE : Hid (isB (tys L) = false) := HN1.out hck
        rw [hck] at HCk1
        generalize L[k]'hlk = x at *
        clear hck HN1 hc HR HCk HCm HPa HBe HO
        go_wp2_with fail
        rw [← hW1]
        clear hW1
        refine wp_region_quiet (C := fun w' => Below W1.heap.size W1 w') (by kernel_rfl) (by kernel_rfl) HBd.out ?_
        dsimp only
        repeat (first
          | go_big_quiet_skip
          | (go_big_quiet_want
             apply Exists.intro
             refine ⟨fun W' hW' => ?_, ?_⟩
             · have hw : Below W1.heap.size W1 W' := hW'
               obtain ⟨⟨g0, g1, g2, g3⟩, g4, g5, g6, g7⟩ := HX.out W' hw
               go_simp
               first
                 | done
                 | rfl
                 | (go_at_call 77; refine (HCk1.out W' (HFin.out W' hw)).mono ?_; rintro e w'' ⟨rfl, hb⟩; exact ⟨rfl, hw.trans (hb.mono hw.size)⟩)
             go_big_quiet_on
             try simp only [Act.put, List.setIfInBounds_toArray, List.set_cons_zero, List.set_cons_succ]))
        refine wpQuiet_nil ?_
        intro w6 hqw6
        have HB6 : Hid (Below w.heap.size w w6) := HFin.out _ hqw6
        clear hqw6
        go_wp2
        go_ret
        exact ⟨by rw [HE.out]; rfl, HB6.out⟩
      rw [hck] at HCk1
      cases k with
      | zero =>
        have HO2 : Hid (OkK L 1) := fun j h hj => by
          have : j = 0 := by omega
          subst this
          exact ⟨hck, fun i e => by omega⟩
        rw [Nat.zero_mul, Nat.add_zero] at y0 y1 y2 y3 y4 y5 y6 y7
        generalize L[0]'hlk = x at *
        clear hck HN1 hc HR HCk HCm HPa HBe HO
        go_wp2_with fail
        rw [← hW1]
        clear hW1
        refine wp_region_quiet (C := fun w' => Below W1.heap.size W1 w') (by kernel_rfl) (by kernel_rfl) HBd.out ?_
        dsimp only
        repeat (first
          | go_big_quiet_skip
          | (go_big_quiet_want
             apply Exists.intro
             refine ⟨fun W' hW' => ?_, ?_⟩
             · have hw : Below W1.heap.size W1 W' := hW'
               obtain ⟨⟨g0, g1, g2, g3⟩, g4, g5, g6, g7⟩ := HX.out W' hw
               go_simp
               first
                 | done
                 | rfl
                 | (go_at_call 77; refine (HCk1.out W' (HFin.out W' hw)).mono ?_; rintro e w'' ⟨rfl, hb⟩; exact ⟨rfl, hw.trans (hb.mono hw.size)⟩)
             go_big_quiet_on
             try simp only [Act.put, List.setIfInBounds_toArray, List.set_cons_zero, List.set_cons_succ]))
        refine wpQuiet_nil ?_
        intro w6 hqw6
        have HB6 : Hid (Below w.heap.size w w6) := HFin.out _ hqw6
        clear hqw6
        go_wp2
        go_roundw
        case rel => exact ⟨1, by omega, by simp, HO2, HB6⟩
        case measure => simp [intOf]; omega
      | succ j =>
        have hj : j < L.length := by omega
        obtain ⟨⟨z0, -, -, -⟩, -, -, -, -⟩ := hc j hj
        have HZ : Hid (∀ W, Below W1.heap.size W1 W → W.cell? ⟨b, off + j * 8, none⟩ = some (.string L[j].t.n)) := fun W h => ((HW1.out W h).cell (p := ⟨b, off + j * 8, none⟩) hbl).trans z0
        have HCm1 : Hid (∀ W, Below w.heap.size w W → Calls Tryz.prog 65 #[.string L[j].t.n, .string L[j + 1].t.n] W fun e w' => e = .returned (.int .i64 (nmC L[j].t L[j + 1].t.n)) ∧ Below W.heap.size W w') := fun W h => HCm.out j (j + 1) hj hlk W h
        have HNo : Hid (¬ nmC L[j].t L[j + 1].t.n < 0 → isB (tys L) = false) := is_no2 hlk
        have HYes : Hid (nmC L[j].t L[j + 1].t.n < 0 → OkK L (j + 1 + 1)) := fun hlt i h hi => by
          by_cases e : i = j + 1
          · subst e
            exact ⟨hck, fun i' e' => by obtain rfl : i' = j := by omega
                                        exact hlt⟩
          · exact HO.out i h (by omega)
        have i1 : (0 : Int) ≤ (j : Int) := by omega
        have i2 : (j : Int) < (L.length : Int) := by omega
        have wj : IntKind.i64.wrap (j : Int) = (j : Int) := by rw [IntKind.wrap_i64]; omega
        generalize L[j + 1]'hlk = x at *
        generalize L[j]'hj = xj at *
        generalize nmC xj.t x.t.n = C at *
        clear hck HN1 hc HR HCk HCm HPa HBe HO z0
        by_cases hC : C < 0
        · have dC : decide ((0 : Int) ≤ C) = false := decide_eq_false (by omega)
          have HO2 : Hid (OkK L (j + 1 + 1)) := HYes.out hC
          clear HYes HNo hC
          go_wp2_with fail
          rw [← hW1]
          clear hW1
          refine wp_region_quiet (C := fun w' => Below W1.heap.size W1 w') (by kernel_rfl) (by kernel_rfl) HBd.out ?_
          dsimp only
          repeat (first
            | go_big_quiet_skip
            | (go_big_quiet_want
               apply Exists.intro
               refine ⟨fun W' hW' => ?_, ?_⟩
               · have hw : Below W1.heap.size W1 W' := hW'
                 obtain ⟨⟨g0, g1, g2, g3⟩, g4, g5, g6, g7⟩ := HX.out W' hw
                 have z0 := HZ.out W' hw
                 go_simp
                 first
                   | done
                   | rfl
                   | (go_at_call 77; refine (HCk1.out W' (HFin.out W' hw)).mono ?_; rintro e w'' ⟨rfl, hb⟩; exact ⟨rfl, hw.trans (hb.mono hw.size)⟩)
                   | (go_at_call 65; refine (HCm1.out W' (HFin.out W' hw)).mono ?_; rintro e w'' ⟨rfl, hb⟩; exact ⟨rfl, hw.trans (hb.mono hw.size)⟩)
               go_big_quiet_on
               try simp only [Act.put, List.setIfInBounds_toArray, List.set_cons_zero, List.set_cons_succ]))
          refine wpQuiet_nil ?_
          intro w6 hqw6
          have HB6 : Hid (Below w.heap.size w w6) := HFin.out _ hqw6
          clear hqw6
          go_wp2
          go_roundw
          case rel => exact ⟨j + 1 + 1, by omega, by simp, HO2, HB6⟩
          case measure => simp [intOf]; omega
        · have dC : decide ((0 : Int) ≤ C) = true := decide_eq_true (by omega)
          have HE : Hid (isB (tys L) = false) := HNo.out hC
          clear HYes HNo hC
          go_wp2_with fail
          rw [← hW1]
          clear hW1
          refine wp_region_quiet (C := fun w' => Below W1.heap.size W1 w') (by kernel_rfl) (by kernel_rfl) HBd.out ?_
          dsimp only
          repeat (first
            | go_big_quiet_skip
            | (go_big_quiet_want
               apply Exists.intro
               refine ⟨fun W' hW' => ?_, ?_⟩
               · have hw : Below W1.heap.size W1 W' := hW'
                 obtain ⟨⟨g0, g1, g2, g3⟩, g4, g5, g6, g7⟩ := HX.out W' hw
                 have z0 := HZ.out W' hw
                 go_simp
                 first
                   | done
                   | rfl
                   | (go_at_call 77; refine (HCk1.out W' (HFin.out W' hw)).mono ?_; rintro e w'' ⟨rfl, hb⟩; exact ⟨rfl, hw.trans (hb.mono hw.size)⟩)
                   | (go_at_call 65; refine (HCm1.out W' (HFin.out W' hw)).mono ?_; rintro e w'' ⟨rfl, hb⟩; exact ⟨rfl, hw.trans (hb.mono hw.size)⟩)
               go_big_quiet_on
               try simp only [Act.put, List.setIfInBounds_toArray, List.set_cons_zero, List.set_cons_succ]))
          refine wpQuiet_nil ?_
          intro w6 hqw6
          have HB6 : Hid (Below w.heap.size w w6) := HFin.out _ hqw6
          clear hqw6
          go_wp2
          go_ret
          exact ⟨by rw [HE.out]; rfl, HB6.out⟩
    · have hk' : k = L.length := by omega
      have dk : decide ((k : Int) < L.length) = false := by simp; omega
      have HAll : Hid (OkK L L.length) := fun j h hj => HO.out j h (by omega)
      obtain ⟨wa, rfl⟩ : ∃ wa, wa = wr := ⟨_, rfl⟩
      clear HO HCk HCm hk'
      have HPa2 : Hid (∀ (k : Nat) (hk : k < L.length) W, Below w.heap.size w W → Calls Tryz.prog 78 #[.slice a0 L.length cap0, ltV L[k]] W fun e w' => PaP L L[k].t.p W e w') := HPa.out HAll.out
      clear HPa
      go_wp2_with fail
      go_loopw [6, 7, 8, 41] (fun _ _ _ i wr => ∃ k : Nat, k ≤ L.length ∧ i = .int .i64 (k : Int) ∧ Hid (∀ (j : Nat) (h : j < L.length), j < k → parB (tys L) L[j].t = true) ∧ Hid (Below w.heap.size w wr)) (fun _ _ _ i _ => L.length - (intOf i).toNat)
      case atStart => exact ⟨0, Nat.zero_le _, rfl, (fun j h hj => absurd hj (Nat.not_lt_zero _)), HB⟩
      case round =>
        clear HB hsz dk
        obtain ⟨k, hk, rfl, HO, HB⟩ := hrel
        have hsz := HB.out.size
        by_cases hlk : k < L.length
        · have dk : decide ((k : Int) < L.length) = true := by simp; omega
          have HRx := HR.out _ HB.out
          obtain ⟨b, off, rfl, hbl, -, hcap, hc⟩ := t_at HRx.1 (by omega)
          obtain ⟨⟨y0, y1, y2, y3⟩, y4, y5, y6, y7⟩ := hc k hlk
          have HPk : Hid (∀ W, Below w.heap.size w W → Calls Tryz.prog 78 #[.slice (some ⟨b, off, none⟩) L.length cap0, ltV L[k]] W fun e w' => PaP L L[k].t.p W e w') := fun W h => HPa2.out k hlk W h
          have HBk : Hid (∀ (y : LT), y ∈ L → ∀ W, Below w.heap.size w W → Calls Tryz.prog 79 #[ltV L[k], ltV y] W fun e w' => e = .returned (.bool (belB L[k].t y.t)) ∧ Below W.heap.size W w') := fun y hy W h => HBe.out _ y (List.getElem_mem hlk) hy (chk_ch (HAll.out k hlk hlk).1) W h
          have HNo : Hid (parB (tys L) L[k].t = false → isB (tys L) = false) := is_no3 hlk
          have HYes : Hid (parB (tys L) L[k].t = true → ∀ (j : Nat) (h : j < L.length), j < k + 1 → parB (tys L) L[j].t = true) := fun hp j h hj => by
            by_cases e : j = k
            · subst e; exact hp
            · exact HO.out j h (by omega)
          obtain ⟨W1, hW1⟩ : ∃ W1, W1 = wr.alloc (.cells (tyA L[k].t L[k].vo L[k].va L[k].vc) 67) := ⟨_, rfl⟩
          have hA : Below wr.heap.size wr W1 := by rw [hW1]; exact al_b wr _
          have hnb : W1.heap[wr.heap.size]? = some (.cells (tyA L[k].t L[k].vo L[k].va L[k].vc) 67 (0, 0)) := by rw [hW1]; exact new_at wr _
          have hlt1 : wr.heap.size < W1.heap.size := (Array.getElem?_eq_some_iff.1 hnb).1
          have HX : Hid (∀ W, Below W1.heap.size W1 W → BxT wr.heap.size L[k].t L[k].vo L[k].va L[k].vc W) := fun W h => BxT.of ((h.block _ hlt1).trans hnb)
          have HFin : Hid (∀ W, Below W1.heap.size W1 W → Below w.heap.size w W) := fun W h => HB.out.trans ((hA.trans (h.mono hA.size)).mono hsz)
          have HSz : Hid (∀ W, Below W1.heap.size W1 W → wr.heap.size < W.heap.size) := fun W h => Nat.lt_of_lt_of_le hlt1 h.size
          clear hnb hA hc HRx HPa2 HBe HR HO HAll
          generalize L[k]'hlk = x at *
          go_wp2_with fail
          rw [← hW1]
          clear hW1
          refine (HPk.out _ (HFin.out _ (Below.refl _ _))).mono ?_
          rintro e w2 ⟨y, rfl, hy, hb2⟩
          have hs2 : wr.heap.size < w2.heap.size := HSz.out _ hb2
          obtain ⟨⟨g0, g1, g2, g3⟩, g4, g5, g6, g7⟩ := HX.out _ hb2
          have HB2 : Hid (Below w.heap.size w (w2.alloc (.cells (tyA y.t y.vo y.va y.vc) 67))) := (HFin.out _ hb2).alloc (HFin.out _ hb2).size _
          have eP := str0 x.t.p
          have eP2 := str0' x.t.p
          by_cases hp0 : x.t.p.size = 0
          · have HO2 : Hid (∀ (j : Nat) (h : j < L.length), j < k + 1 → parB (tys L) L[j].t = true) := HYes.out (parB_0 hp0)
            rw [decide_eq_true hp0] at eP eP2
            clear HNo HYes hy hp0 hb2 HPk HBk HX HFin HSz y0 y1 y2 y3 y4 y5 y6 y7
            generalize (parN (tys L) x.t.p).isSome = iss at *
            go_wp2
            go_roundw
            case rel => exact ⟨k + 1, by omega, by simp, HO2, HB2⟩
            case measure => simp [intOf]; omega
          rw [decide_eq_false hp0] at eP eP2
          rcases hy with ⟨hpn, rfl⟩ | ⟨hyL, hps⟩
          · have HE : Hid (isB (tys L) = false) := HNo.out (parB_1 hp0 hpn)
            rw [hpn]
            clear HNo HYes hp0 hb2 HPk HBk HX HFin HSz y0 y1 y2 y3 y4 y5 y6 y7 hpn
            go_wp2
            go_ret
            exact ⟨by rw [HE.out]; rfl, HB2.out⟩
          · have HCy : Hid (Calls Tryz.prog 79 #[ltV x, ltV y] (w2.alloc (.cells (tyA y.t y.vo y.va y.vc) 67)) fun e w' => e = .returned (.bool (belB x.t y.t)) ∧ Below (w2.alloc (.cells (tyA y.t y.vo y.va y.vc) 67)).heap.size (w2.alloc (.cells (tyA y.t y.vo y.va y.vc) 67)) w') := HBk.out y hyL _ HB2.out
            have hpb := parB_2 hp0 hps
            rw [hps]
            have HN2 : Hid (belB x.t y.t = false → isB (tys L) = false) := fun h => HNo.out (hpb.trans h)
            have HY2 : Hid (belB x.t y.t = true → ∀ (j : Nat) (h : j < L.length), j < k + 1 → parB (tys L) L[j].t = true) := fun h => HYes.out (hpb.trans h)
            generalize belB x.t y.t = BE at *
            clear HNo HYes hp0 hb2 HPk HBk HX HFin HSz y0 y1 y2 y3 y4 y5 y6 y7 hpb hps hyL
            go_wp2_with fail
            refine HCy.out.mono ?_
            rintro e w3 ⟨rfl, hb3⟩
            have HB3 : Hid (Below w.heap.size w w3) := HB2.out.trans (hb3.mono HB2.out.size)
            clear hb3 HCy HB2 g0 g1 g2 g3 g4 g5 g6 g7
            cases BE
            · have HE : Hid (isB (tys L) = false) := HN2.out rfl
              clear HN2 HY2
              go_wp2
              go_ret
              exact ⟨by rw [HE.out]; rfl, HB3.out⟩
            · have HO2 : Hid (∀ (j : Nat) (h : j < L.length), j < k + 1 → parB (tys L) L[j].t = true) := HY2.out rfl
              clear HN2 HY2
              go_wp2
              go_roundw
              case rel => exact ⟨k + 1, by omega, by simp, HO2, HB3⟩
              case measure => simp [intOf]; omega
        · have dk : decide ((k : Int) < L.length) = false := by simp; omega
          have HE : Hid (isB (tys L) = true) := is_yes h200' HAll.out fun j h => HO.out j h (by omega)
          clear HO HAll HPa2 HBe HR
          go_wp2
          go_ret
          exact ⟨by rw [HE.out]; rfl, HB.out⟩
end Go.Proofs.YtacpllmlpmllbaaGreatDoor
/- forest.Make: its walk. -/
namespace Go.Proofs.YtacpllmlpmllbaaGreatDoor
open Go.RowKit Go.ChangeMaps

theorem MkP.up {r : Ty × Int} {w w5 w6 : World} {e : Ending} (h : MkP r w5 e w6) (hb : Below w.heap.size w w5) : MkP r w e w6 := by
  obtain ⟨y, h1, h2, h3, h4, h5⟩ := h
  exact ⟨y, h1, h2, h3, h4.le hb.size, hb.trans (h5.mono hb.size)⟩
/-- Behind the store of a type that is made. -/
def CtM (w : World) (t : Ty) (wx : World) : Prop := ∃ y : LT, y.t = t ∧ Hid (IsTy wx y.t y.vo y.va y.vc) ∧ Hid (NewT (w.heap.size + 2) y) ∧ Hid (Below w.heap.size w wx) ∧ Hid (BxT (w.heap.size + 1) y.t y.vo y.va y.vc wx)
end Go.Proofs.YtacpllmlpmllbaaGreatDoor
