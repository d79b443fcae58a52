/- Chains of a forest: plain mathematics. -/
import Derived.Test.YtjamkfkbajhefaaGreatDoorZk25
import Derived.Test.YtjamkfkbajhefaaGreatDoorZk23
import Derived.Deep.QuietTactic
import Derived.BigQuiet
namespace Go.Proofs.YtjamkfkbajhefaaGreatDoor
open Go.RowKit

/-- What is below another one is its name ahead of that one's chain, and has all of its fields. -/
theorem bel_chain {t o : Ty} (hc : chkT t = true) (h : belB t o = true) : t.ch = t.n :: o.ch ∧ ∀ f ∈ o.all, f ∈ t.all := by
  unfold belB sameS at h
  simp only [Bool.and_eq_true, decide_eq_true_eq, sameR_iff] at h
  obtain ⟨h1, h2, h3⟩ := h
  obtain ⟨c1, -, c3, -, -⟩ := (chkT_iff t).1 hc
  constructor
  · cases hch : t.ch with
    | nil => rw [hch] at c1; simp at c1
    | cons u r =>
      rw [hch] at c3 h3
      simp at c3 h3
      rw [c3, h3]
  · intro f hf
    obtain ⟨-, -, m3⟩ := mgL_ok h1
    rw [← h2, m3]
    exact (srtF_perm _).mem_iff.2 (List.mem_append.2 (.inl hf))
theorem root_chain {t : Ty} (hc : chkT t = true) (h : t.p.size = 0) : t.ch = [t.n] := by
  obtain ⟨c1, -, c3, ⟨c4, -⟩, c5⟩ := (chkT_iff t).1 hc
  unfold chkR at c5
  simp only [Bool.and_eq_true] at c5
  by_cases h1 : t.ch.length = 1
  · match hch : t.ch, h1 with
    | [u], _ =>
      rw [hch] at c3
      simp at c3
      rw [c3]
  · rw [if_neg h1] at c5
    simp only [Bool.and_eq_true, decide_eq_true_eq] at c5
    have hm := List.mem_of_getElem? c5.2.2.2.1
    exact absurd h (size_name (c4 _ hm))
/-- Each name of a chain is that of a type of the forest, whose chain is the rest, and whose fields are among them. -/
theorem chain_all {l : List Ty} (hi : isB l = true) : ∀ (n : Nat) (t : Ty), t ∈ l → t.ch.length = n → ∀ (i : Nat) (h : i < t.ch.length), ∃ b ∈ l, b.n = t.ch[i] ∧ b.ch = t.ch.drop i ∧ ∀ f ∈ b.all, f ∈ t.all := by
  obtain ⟨-, i2, i3, i4⟩ := (isB_iff l).1 hi
  intro n
  induction n with
  | zero => intro t ht hn i h; omega
  | succ n ih =>
    intro t ht hn i h
    have hck := i2 t ht
    cases i with
    | zero =>
      obtain ⟨-, -, c3, -, -⟩ := (chkT_iff t).1 hck
      refine ⟨t, ht, ?_, by simp, fun f hf => hf⟩
      rw [List.getElem?_eq_getElem h] at c3
      exact (Option.some.inj c3).symm
    | succ i =>
      have hp : t.p.size ≠ 0 := fun hp => by
        have := root_chain hck hp
        rw [this] at h
        simp at h
      have hpar := i4 t ht
      unfold parB at hpar
      rw [decide_eq_false hp, Bool.false_or] at hpar
      cases ho : parN l t.p with
      | none => rw [ho] at hpar; cases hpar
      | some o =>
        rw [ho] at hpar
        obtain ⟨e1, e2⟩ := bel_chain hck hpar
        have hol := (parN_some ho).1
        have hlen : o.ch.length = n := by
          have := congrArg List.length e1
          simp at this
          omega
        obtain ⟨b, hb, b1, b2, b3⟩ := ih o hol hlen i (by rw [hlen]; omega)
        refine ⟨b, hb, ?_, ?_, fun f hf => e2 f (b3 f hf)⟩
        · rw [b1]
          simp only [e1, List.getElem_cons_succ]
        · rw [b2, e1]
          simp
/-- A type that another one is of has the rest of its chain. -/
theorem of_chain {l : List Ty} (hi : isB l = true) {a b : Ty} (ha : a ∈ l) (hb : b ∈ l) (h : ofB a b.n = true) : ∃ i, i < a.ch.length ∧ b.ch = a.ch.drop i ∧ ∀ f ∈ b.all, f ∈ a.all := by
  obtain ⟨-, i2, i3, i4⟩ := (isB_iff l).1 hi
  unfold ofB at h
  obtain ⟨u, hu, hs⟩ := List.any_eq_true.1 h
  obtain ⟨i, hil, rfl⟩ := List.mem_iff_getElem.1 hu
  obtain ⟨b', hb', e1, e2, e3⟩ := chain_all hi a.ch.length a ha rfl i hil
  have h0 : nmC b' b.n = 0 := by
    unfold nmC
    rw [e1]
    exact sameL_iff.1 hs
  have p1 := parN_mem i3 hb' h0
  have p2 := parN_mem i3 hb (cmpL_irr b.n.data.toList)
  have : b' = b := by
    have := p1.symm.trans p2
    exact Option.some.inj this
  subst this
  exact ⟨i, hil, e2, e3⟩
end Go.Proofs.YtjamkfkbajhefaaGreatDoor
/- forest.Of: its walk. -/
namespace Go.Proofs.YtjamkfkbajhefaaGreatDoor
open Go.RowKit Go.ChangeMaps

abbrev ofV (b : Nat) : Value := .func (.func 28) #[] #[.pointer (some ⟨b, 0, none⟩)]
theorem of1_any (u s : ByteArray) (b : Nat) (w : World) (hb : w.cell? ⟨b, 0, none⟩ = some (.string s)) (hu : u.size ≤ 1000000) (hs : s.size ≤ 1000000) (hU : UT w) :
    Calls Tryz.prog 28 #[.string u, .pointer (some ⟨b, 0, none⟩)] w fun e w' => e = .returned (.bool (sameL u.data.toList s.data.toList)) ∧ Below w.heap.size w w' := by
  have HC : Hid (Calls Tryz.prog 29 #[.string u, .string s] w fun e w' => e = .returned (.bool (sameL u.data.toList s.data.toList)) ∧ Below w.heap.size w w') := same_any _ _ w hu hs hU
  generalize sameL u.data.toList s.data.toList = C at *
  clear hU
  go_enter Tryz.func28, Tryz.ntmps28
  go_wp2_with fail
  refine HC.out.mono ?_
  rintro e w1 ⟨rfl, hb1⟩
  have HB : Hid (Below w.heap.size w w1) := hb1
  clear hb1 HC
  go_wp2
  go_ret
  exact ⟨rfl, HB.out⟩
def ixO (s : ByteArray) (l : List ByteArray) : Int := match l.findIdx? (fun u => sameL u.data.toList s.data.toList) with | some k => (k : Int) | none => -1
theorem ixO_at {s : ByteArray} {l : List ByteArray} {k : Nat} (hk : k < l.length) (h1 : ∀ (j : Nat) (h : j < l.length), j < k → sameL l[j].data.toList s.data.toList = false) (h2 : sameL l[k].data.toList s.data.toList = true) : ixO s l = (k : Int) := by
  have : l.findIdx? (fun u => sameL u.data.toList s.data.toList) = some k := by
    rw [List.findIdx?_eq_some_iff_getElem]
    exact ⟨hk, h2, fun j hj => by simp [h1 j (by omega) hj]⟩
  unfold ixO
  rw [this]
theorem ixO_none {s : ByteArray} {l : List ByteArray} (h1 : ∀ (j : Nat) (h : j < l.length), sameL l[j].data.toList s.data.toList = false) : ixO s l = -1 := by
  have : l.findIdx? (fun u => sameL u.data.toList s.data.toList) = none := by
    rw [List.findIdx?_eq_none_iff]
    intro x hx
    obtain ⟨j, hj, rfl⟩ := List.mem_iff_getElem.1 hx
    exact h1 j hj
  unfold ixO
  rw [this]
theorem ixO_any (s : ByteArray) (l : List ByteArray) : decide (0 ≤ ixO s l) = l.any fun u => sameL u.data.toList s.data.toList := by
  unfold ixO
  cases h : l.findIdx? (fun u => sameL u.data.toList s.data.toList) with
  | none =>
    rw [List.findIdx?_eq_none_iff] at h
    have : (l.any fun u => sameL u.data.toList s.data.toList) = false := by
      rw [List.any_eq_false]
      intro x hx
      rw [h x hx]
      decide
    rw [this]
    decide
  | some k =>
    obtain ⟨hk, h2, -⟩ := List.findIdx?_eq_some_iff_getElem.1 h
    have : (l.any fun u => sameL u.data.toList s.data.toList) = true := List.any_eq_true.2 ⟨_, List.getElem_mem hk, h2⟩
    rw [this]
    simp
set_option maxRecDepth 100000 in
set_option maxHeartbeats 2000000 in
theorem indexO_any (s : ByteArray) (bb : Nat) (v : Value) (l : List ByteArray) (w : World) (hr : IsRow w 1 v l.length (sVals l)) (hl : l.length ≤ 1000000) (hn : ∀ u ∈ l, u.size ≤ 1000000) (hs : s.size ≤ 1000000) (hb : w.cell? ⟨bb, 0, none⟩ = some (.string s)) (hU : UT w) :
    Calls Tryz.prog 56 #[v, ofV bb] w fun e w' => e = .returned (.int .i64 (ixO s l)) ∧ Below w.heap.size w w' := by
  obtain ⟨a0, cap0, rfl⟩ := hr.form
  have HR : Hid (IsRow w 1 (.slice a0 l.length cap0) l.length (sVals l)) := hr
  have hlt : bb < w.heap.size := by
    rcases Nat.lt_or_ge bb w.heap.size with h | h
    · exact h
    · simp [World.cell?, Array.getElem?_eq_none h] at hb
  have HT : Hid (∀ (k : Nat) (hk : k < l.length) w', Below w.heap.size w w' → Calls Tryz.prog 28 #[.string l[k], .pointer (some ⟨bb, 0, none⟩)] w' fun e w'' => e = .returned (.bool (sameL l[k].data.toList s.data.toList)) ∧ Below w'.heap.size w' w'') := fun k hk w' h => of1_any _ s bb w' ((h.cell (p := ⟨bb, 0, none⟩) hlt).trans hb) (hn _ (List.getElem_mem hk)) hs (Utf8Tabs_below hU h)
  clear hr hb hn hU hlt
  go_enter Tryz.func56, Tryz.ntmps56
  go_wp2_with fail
  go_loopw [4, 5, 8] (fun r _ i wr => r = .int .i64 0 ∧ ∃ k : Nat, k ≤ l.length ∧ i = .int .i64 (k : Int) ∧ Hid (∀ (j : Nat) (h : j < l.length), j < k → sameL l[j].data.toList s.data.toList = false) ∧ Hid (Below w.heap.size w wr)) (fun _ _ i _ => l.length - (intOf i).toNat)
  case atStart => exact ⟨rfl, 0, Nat.zero_le _, rfl, fun j h hj => absurd hj (Nat.not_lt_zero _), Below.refl _ _⟩
  case round =>
    obtain ⟨rfl, k, hk, rfl, HO, HB⟩ := hrel
    by_cases hlk : k < l.length
    · have dk : decide ((k : Int) < l.length) = true := by simp; omega
      obtain ⟨b, off, rfl, -, hlt, hcap, hc⟩ := s_at (HR.out.below HB.out) (by omega)
      have y0 := hc k hlk
      have HTk : Hid (Calls Tryz.prog 28 #[.string l[k], .pointer (some ⟨bb, 0, none⟩)] wr fun e w'' => e = .returned (.bool (sameL l[k].data.toList s.data.toList)) ∧ Below wr.heap.size wr w'') := HT.out k hlk wr HB.out
      have HF : Hid (sameL l[k].data.toList s.data.toList = true → ixO s l = (k : Int)) := fun h => ixO_at hlk HO.out h
      have HO2 : Hid (sameL l[k].data.toList s.data.toList = false → ∀ (j : Nat) (h : j < l.length), j < k + 1 → sameL l[j].data.toList s.data.toList = false) := fun h0 j h hj => by
        by_cases e : j = k
        · subst e; exact h0
        · exact HO.out j h (by omega)
      have i1 : (0 : Int) ≤ (k : Int) := by omega
      have i2 : (k : Int) < (l.length : Int) := by omega
      generalize sameL l[k].data.toList s.data.toList = bo at *
      generalize l[k]'hlk = x at *
      clear hc HO HT HR
      go_wp2_with fail
      refine HTk.out.mono ?_
      rintro e w5 ⟨rfl, hb5⟩
      have HB5 : Hid (Below w.heap.size w w5) := HB.out.trans (hb5.mono HB.out.size)
      clear hb5 HTk HB y0
      cases bo with
      | true =>
        have HX : Hid (ixO s l = (k : Int)) := HF.out rfl
        clear HF HO2
        go_wp2
        go_ret
        exact ⟨by rw [HX.out]; rfl, HB5.out⟩
      | false =>
        have HO3 : Hid (∀ (j : Nat) (h : j < l.length), j < k + 1 → sameL l[j].data.toList s.data.toList = false) := HO2.out rfl
        clear HF HO2
        go_wp2
        go_roundw
        case rel => exact ⟨rfl, k + 1, by omega, by simp, HO3, HB5⟩
        case measure => simp [intOf]; omega
    · have dk : decide ((k : Int) < l.length) = false := by simp; omega
      have HX : Hid (ixO s l = -1) := ixO_none fun j h => HO.out j h (by omega)
      clear HO HT HR
      go_wp2
      go_ret
      exact ⟨by rw [HX.out]; rfl, HB.out⟩
set_option maxRecDepth 100000 in
theorem contO_any (s : ByteArray) (bb : Nat) (v : Value) (l : List ByteArray) (w : World) (hr : IsRow w 1 v l.length (sVals l)) (hl : l.length ≤ 1000000) (hn : ∀ u ∈ l, u.size ≤ 1000000) (hs : s.size ≤ 1000000) (hb : w.cell? ⟨bb, 0, none⟩ = some (.string s)) (hU : UT w) :
    Calls Tryz.prog 27 #[v, ofV bb] w fun e w' => e = .returned (.bool (l.any fun u => sameL u.data.toList s.data.toList)) ∧ Below w.heap.size w w' := by
  obtain ⟨a0, cap0, rfl⟩ := hr.form
  have HC : Hid (Calls Tryz.prog 56 #[.slice a0 l.length cap0, ofV bb] w fun e w' => e = .returned (.int .i64 (ixO s l)) ∧ Below w.heap.size w w') := indexO_any s bb _ l w hr hl hn hs hb hU
  have he := ixO_any s l
  rw [← he]
  clear he
  generalize ixO s l = X at *
  clear hr hn hb hU
  go_enter Tryz.func27, Tryz.ntmps27
  go_wp2_with fail
  refine HC.out.mono ?_
  rintro e w1 ⟨rfl, hb1⟩
  have HB : Hid (Below w.heap.size w w1) := hb1
  clear hb1 HC
  go_wp2
  go_ret
  exact ⟨rfl, HB.out⟩
set_option maxRecDepth 100000 in
theorem of_any (x : LT) (s : ByteArray) (w : World) (hr : IsTy w x.t x.vo x.va x.vc) (hl : x.t.ch.length ≤ 1000000) (hn : ∀ u ∈ x.t.ch, u.size ≤ 1000000) (hs : s.size ≤ 1000000) (hU : UT w) :
    Calls Tryz.prog 10 #[ltV x, .string s] w fun e w' => e = .returned (.bool (ofB x.t s)) ∧ Below w.heap.size w w' := by
  have HB : Hid (Below w.heap.size w ((w.alloc (.cells (tyA x.t x.vo x.va x.vc) 38)).alloc (.cells #[.string s] 9))) := (al_b w _).trans ((al_b _ _).mono (by simp))
  have HC : Hid (Calls Tryz.prog 27 #[x.vc, ofV (w.heap.size + 1)] ((w.alloc (.cells (tyA x.t x.vo x.va x.vc) 38)).alloc (.cells #[.string s] 9)) fun e w' => e = .returned (.bool (ofB x.t s)) ∧ Below ((w.alloc (.cells (tyA x.t x.vo x.va x.vc) 38)).alloc (.cells #[.string s] 9)).heap.size ((w.alloc (.cells (tyA x.t x.vo x.va x.vc) 38)).alloc (.cells #[.string s] 9)) w') := contO_any s _ _ x.t.ch _ (hr.2.2.below HB.out) hl hn hs (by simp) (Utf8Tabs_below hU HB.out)
  generalize ofB x.t s = C at *
  clear hr hn hU
  go_enter Tryz.func10, Tryz.ntmps10
  go_wp2_with fail
  refine HC.out.mono ?_
  rintro e w1 ⟨rfl, hb1⟩
  have HB1 : Hid (Below w.heap.size w w1) := HB.out.trans (hb1.mono HB.out.size)
  clear hb1 HC HB
  go_wp2
  go_ret
  exact ⟨rfl, HB1.out⟩
end Go.Proofs.YtjamkfkbajhefaaGreatDoor
/- slices.Grow of nothing, slices.Concat of two rows of names: walks. -/
namespace Go.Proofs.YtjamkfkbajhefaaGreatDoor
open Go.RowKit Go.ChangeMaps

end Go.Proofs.YtjamkfkbajhefaaGreatDoor
/- forest.Below: its walk. -/
namespace Go.Proofs.YtjamkfkbajhefaaGreatDoor
open Go.RowKit Go.ChangeMaps

end Go.Proofs.YtjamkfkbajhefaaGreatDoor
/- forest.isBelow: its walk. -/
namespace Go.Proofs.YtjamkfkbajhefaaGreatDoor
open Go.RowKit Go.ChangeMaps

/-- A row of names without its first one, as the walk has it. -/
theorem row_tail {w : World} {b off cc : Nat} {l : List ByteArray} (h : IsRow w 1 (.slice (some ⟨b, off, none⟩) l.length cc) l.length (sVals l)) (h1 : 1 ≤ l.length) : IsRow w 1 (.slice (if cc = 1 then some ⟨b, off, none⟩ else some ⟨b, off + 1, none⟩) (l.length - 1) (cc - 1)) l.tail.length (sVals l.tail) := by
  obtain ⟨b', off', cap', hv, hlt, q1, q2, hc⟩ := h.open (by omega)
  simp only [Value.slice.injEq, Option.some.injEq, Addr.mk.injEq, and_true, true_and] at hv
  obtain ⟨⟨rfl, rfl⟩, rfl⟩ := hv
  have hl : l.tail.length = l.length - 1 := List.length_tail
  by_cases e : cc = 1
  · rw [if_pos e]
    have h0 : l.length - 1 = 0 := by omega
    have hn : l.tail = [] := List.eq_nil_of_length_eq_zero (by omega)
    rw [h0, hn]
    exact ⟨rfl, .inl ⟨rfl, _, _, rfl⟩⟩
  · rw [if_neg e, hl]
    refine ⟨by simp [sVals], .inr ⟨b, off + 1, cc - 1, rfl, hlt, by omega, by omega, fun j u hu => ?_⟩⟩
    have hu' : (sVals l)[j + 1]? = some u := by
      cases l with
      | nil => simp at h1
      | cons y l => simpa [sVals] using hu
    have := hc (j + 1) u hu'
    rwa [show off + 1 + j = off + (j + 1) by omega]
set_option maxRecDepth 100000 in
set_option maxHeartbeats 4000000 in
theorem isBelow_any (x o : LT) (w : World) (hx : IsTy w x.t x.vo x.va x.vc) (ho : IsTy w o.t o.vo o.va o.vc) (nx : NmT x.t) (no : NmT o.t) (h1 : 1 ≤ x.t.ch.length) (hW : W3 w) :
    Calls Tryz.prog 23 #[ltV x, ltV o] w fun e w' => e = .returned (.bool (belB x.t o.t)) ∧ Below w.heap.size w w' := by
  obtain ⟨W0, hW0⟩ : ∃ W0, W0 = (w.alloc (.cells (tyA x.t x.vo x.va x.vc) 38)).alloc (.cells (tyA o.t o.vo o.va o.vc) 38) := ⟨_, rfl⟩
  have hA : Below w.heap.size w W0 := by rw [hW0]; exact (al_b w _).trans ((al_b _ _).mono (by simp))
  have hz : W0.heap.size = w.heap.size + 2 := by rw [hW0]; simp
  have hn0 : W0.heap[w.heap.size]? = some (.cells (tyA x.t x.vo x.va x.vc) 38 (0, 0)) := by
    rw [hW0]
    show ((w.heap.push _).push _)[w.heap.size]? = _
    rw [Array.getElem?_push, if_neg (by simp), Array.getElem?_push, if_pos rfl]
  have hn1 : W0.heap[w.heap.size + 1]? = some (.cells (tyA o.t o.vo o.va o.vc) 38 (0, 0)) := by
    rw [hW0]
    show ((w.heap.push _).push _)[w.heap.size + 1]? = _
    rw [Array.getElem?_push, if_pos (by simp)]
  have HX : Hid (∀ W, Below W0.heap.size W0 W → BxT w.heap.size x.t x.vo x.va x.vc W) := fun W h => BxT.of ((h.block _ (by omega)).trans hn0)
  have HY : Hid (∀ W, Below W0.heap.size W0 W → BxT (w.heap.size + 1) o.t o.vo o.va o.vc W) := fun W h => BxT.of ((h.block _ (by omega)).trans hn1)
  have HBw : Hid (∀ W, Below W0.heap.size W0 W → Below w.heap.size w W) := fun W h => hA.trans (h.mono hA.size)
  have HM : Hid (Calls Tryz.prog 51 #[o.va, x.vo] W0 fun e w' => MgA o.t.all x.t.own W0 e w') := merge_any _ _ o.t.all x.t.own W0 (ho.2.1.below hA) (hx.1.below hA) no.la nx.lo no.a nx.o (hW.below hA)
  have HEq : Hid (∀ W v, Below W0.heap.size W0 W → IsRow W 3 v (mgL o.t.all x.t.own).1.length (fCells (mgL o.t.all x.t.own).1) → Calls Tryz.prog 45 #[v, x.va] W fun e w' => e = .returned (.bool (sameR (mgL o.t.all x.t.own).1 x.t.all)) ∧ Below W.heap.size W w') := fun W v h hr => equalF_any _ _ _ x.t.all W hr (hx.2.1.below (HBw.out W h)) (Nat.le_trans (mgL_len _ _) (by decide)) nx.la
  obtain ⟨b, off, hac, -, hlt, hcap, hcc⟩ := s_at hx.2.2 h1
  have HEs : Hid (∀ W, Below W0.heap.size W0 W → Calls Tryz.prog 52 #[o.vc, .slice (if x.cc = 1 then some ⟨b, off, none⟩ else some ⟨b, off + 1, none⟩) (x.t.ch.length - 1) (x.cc - 1)] W fun e w' => e = .returned (.bool (sameS o.t.ch x.t.ch.tail)) ∧ Below W.heap.size W w') := fun W h => equalS_any _ _ o.t.ch x.t.ch.tail W (ho.2.2.below (HBw.out W h)) (row_tail (hac ▸ hx.2.2.below (HBw.out W h)) h1) no.lc (by rw [List.length_tail]; exact Nat.le_trans (Nat.sub_le _ _) nx.lc)
  have HD : Hid (belB x.t o.t = (decide ((mgL o.t.all x.t.own).2 = 0) && (sameR (mgL o.t.all x.t.own).1 x.t.all && sameS o.t.ch x.t.ch.tail))) := rfl
  obtain ⟨xt, xao, xco, xaa, xca, xac, xcc⟩ := x
  dsimp only [LT.vc] at hac
  subst hac
  clear hx ho nx no hW hA hn0 hn1
  generalize belB xt o.t = BB at *
  go_enter Tryz.func23, Tryz.ntmps23
  obtain ⟨⟨a0, a1, a2, a3⟩, a4, a5, a6, a7⟩ := HX.out W0 (Below.refl _ _)
  obtain ⟨⟨b0, b1, b2, b3⟩, b4, b5, b6, b7⟩ := HY.out W0 (Below.refl _ _)
  go_wp2_with fail
  rw [← hW0]
  clear hW0
  go_wp2_with fail
  refine HM.out.mono ?_
  rintro e w1 ⟨s, c, rfl, hrow, -, hb1⟩
  have HH1 : Hid (Below W0.heap.size W0 w1) := hb1
  have HRow : Hid (∀ W, Below w1.heap.size w1 W → IsRow W 3 (.slice s (mgL o.t.all xt.own).1.length c) (mgL o.t.all xt.own).1.length (fCells (mgL o.t.all xt.own).1)) := fun W h => hrow.below h
  have HT1 : Hid (∀ W, Below w1.heap.size w1 W → Below W0.heap.size W0 W) := fun W h => hb1.trans (h.mono hb1.size)
  clear hb1 hrow HM a0 a1 a2 a3 a4 a5 a6 a7 b0 b1 b2 b3 b4 b5 b6 b7
  generalize sameR (mgL o.t.all xt.own).1 xt.all = EQ at *
  generalize (mgL o.t.all xt.own).1 = D at *
  generalize (mgL o.t.all xt.own).2 = E at *
  generalize sameS o.t.ch xt.ch.tail = ES at *
  have HEq1 : Hid (∀ W, Below w1.heap.size w1 W → Calls Tryz.prog 45 #[.slice s D.length c, .slice xaa xt.all.length xca] W fun e w' => e = .returned (.bool EQ) ∧ Below W.heap.size W w') := fun W h => HEq.out W _ (HT1.out W h) (HRow.out W h)
  have HBd : Hid (Below w1.heap.size w1 w1.drew) := (Below.refl _ _).drew
  have HFin : Hid (∀ W, Below w1.heap.size w1 W → Below w.heap.size w W) := fun W h => HBw.out _ (HT1.out W h)
  have q1 : (1 : Int) ≤ (xt.ch.length : Int) := by omega
  have q2 : (xt.ch.length : Int) ≤ (xcc : Int) := by omega
  clear HEq HRow HBw
  by_cases hE : E = 0
  rotate_left
  · have hB : BB = false := by rw [HD.out, decide_eq_false hE, Bool.false_and]
    have dE : (E == 0) = false := by simp [hE]
    subst hB
    clear hE HD
    go_wp2_with fail
    refine wp_region_quiet (C := fun w' => Below w1.heap.size w1 w') (by kernel_rfl) (by kernel_rfl) HBd.out ?_
    dsimp only
    repeat (first
      | go_big_quiet_skip
      | (go_big_quiet_want
         apply Exists.intro
         refine ⟨fun W' hW' => ?_, ?_⟩
         · have hw : Below w1.heap.size w1 W' := hW'
           go_simp
           first
             | done
             | rfl
         go_big_quiet_on
         try simp only [Act.put, List.setIfInBounds_toArray, List.set_cons_zero, List.set_cons_succ]))
    refine wpQuiet_nil ?_
    intro w6 hqw6
    have HB6 : Hid (Below w.heap.size w w6) := HFin.out _ hqw6
    clear hqw6
    go_wp2
    go_ret
    exact ⟨rfl, HB6.out⟩
  subst hE
  cases hEQ : EQ
  · have hB : BB = false := by rw [HD.out, hEQ, Bool.false_and, Bool.and_false]
    subst hB
    rw [hEQ] at HEq1
    clear hEQ HD HEs
    go_wp2_with fail
    refine wp_region_quiet (C := fun w' => Below w1.heap.size w1 w') (by kernel_rfl) (by kernel_rfl) HBd.out ?_
    dsimp only
    repeat (first
      | go_big_quiet_skip
      | (go_big_quiet_want
         apply Exists.intro
         refine ⟨fun W' hW' => ?_, ?_⟩
         · have hw : Below w1.heap.size w1 W' := hW'
           obtain ⟨⟨g0, g1, g2, g3⟩, g4, g5, g6, g7⟩ := HX.out W' (HT1.out W' hw)
           go_simp
           first
             | done
             | rfl
             | (go_at_call 45; refine (HEq1.out W' hw).mono ?_; rintro e w'' ⟨rfl, hb⟩; exact ⟨rfl, hw.trans (hb.mono hw.size)⟩)
         go_big_quiet_on
         try simp only [Act.put, List.setIfInBounds_toArray, List.set_cons_zero, List.set_cons_succ]))
    refine wpQuiet_nil ?_
    intro w6 hqw6
    have HB6 : Hid (Below w.heap.size w w6) := HFin.out _ hqw6
    clear hqw6
    go_wp2
    go_ret
    exact ⟨rfl, HB6.out⟩
  have hB : BB = ES := by rw [HD.out, hEQ]; simp
  subst hB
  rw [hEQ] at HEq1
  clear hEQ HD
  go_wp2_with fail
  refine wp_region_quiet (C := fun w' => Below w1.heap.size w1 w') (by kernel_rfl) (by kernel_rfl) HBd.out ?_
  dsimp only
  repeat (first
    | go_big_quiet_skip
    | (go_big_quiet_want
       apply Exists.intro
       refine ⟨fun W' hW' => ?_, ?_⟩
       · have hw : Below w1.heap.size w1 W' := hW'
         obtain ⟨⟨g0, g1, g2, g3⟩, g4, g5, g6, g7⟩ := HX.out W' (HT1.out W' hw)
         obtain ⟨⟨k0, k1, k2, k3⟩, k4, k5, k6, k7⟩ := HY.out W' (HT1.out W' hw)
         go_simp
         first
           | done
           | rfl
           | (go_at_call 45; refine (HEq1.out W' hw).mono ?_; rintro e w'' ⟨rfl, hb⟩; exact ⟨rfl, hw.trans (hb.mono hw.size)⟩)
           | (go_at_call 52; refine (HEs.out W' (HT1.out W' hw)).mono ?_; rintro e w'' ⟨rfl, hb⟩; exact ⟨rfl, hw.trans (hb.mono hw.size)⟩)
       go_big_quiet_on
       try simp only [Act.put, List.setIfInBounds_toArray, List.set_cons_zero, List.set_cons_succ]))
  refine wpQuiet_nil ?_
  intro w6 hqw6
  have HB6 : Hid (Below w.heap.size w w6) := HFin.out _ hqw6
  clear hqw6
  go_wp2
  all_goals go_ret
  all_goals exact ⟨rfl, HB6.out⟩
end Go.Proofs.YtjamkfkbajhefaaGreatDoor
