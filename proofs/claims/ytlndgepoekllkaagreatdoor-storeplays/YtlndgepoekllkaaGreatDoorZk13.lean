/- A store's map as a loop over it meets it; store's Waits: its walk. -/
import Derived.Test.YtlndgepoekllkaaGreatDoorZk11
import Derived.Test.YtlndgepoekllkaaGreatDoorZk12
import Derived.Sort.MapsRangeIn
import Derived.Maps.RangeWalk
import Derived.Test.YtlndgepoekllkaaGreatDoorZk9
import Derived.Deep.AppendLies
namespace Go.Proofs.YtlndgepoekllkaaGreatDoor
open Go.RowKit Go.ChangeMaps Go.Maps

/-- Elements are read as the blocks that they point to. -/
def R1 : Value → Option (DataW Unit × List MemPlace)
  | .pointer (some ⟨g, 0, none⟩) => some (.lit (.int .i64 g), [])
  | _ => none
theorem R1_inv {v : Value} {y : DataW Unit × List MemPlace} (h : R1 v = some y) : ∃ g : Nat, v = .pointer (some ⟨g, 0, none⟩) := by
  unfold R1 at h
  split at h
  · exact ⟨_, rfl⟩
  · cases h
abbrev kyS (k : ByteArray) : Lit := .string k.data.toList
abbrev en1 (p : ByteArray × Nat) : Lit × DataW Unit := (kyS p.1, .lit (.int .i64 p.2))
theorem kyS_inj {a b : ByteArray} (h : kyS a = kyS b) : a = b := by
  obtain ⟨x⟩ := a
  obtain ⟨y⟩ := b
  have h1 : x.toList = y.toList := Lit.string.inj h
  rw [Array.toList_inj.1 h1]
theorem MapS.rd1 {w : World} {m : Nat} {E : List (ByteArray × Nat)} (h : MapS w m E) (hs : ∀ p ∈ E, p.1.size ≤ maxLen) {es : Array MapEntry} {c : Nat} (hb : w.heap[m]? = some (.map es c)) :
    es.toList.map (WideElems.rg Tryz.prog 9 R1) = E.map en1 ∧ ∀ x ∈ es.toList, ∃ p ∈ E, WideElems.rd Tryz.prog 9 R1 x = some (en1 p) := by
  obtain ⟨⟨es', c', hb', hr, hst⟩, hn⟩ := h
  rw [hb] at hb'
  cases hb'
  have key : ∀ x ∈ es.toList, ∃ p ∈ E, kS p = (x.key, x.val) ∧ WideElems.rd Tryz.prog 9 R1 x = some (en1 p) := fun x hx => by
    have hm : (x.key, x.val) ∈ E.map kS := by rw [← hr]; exact List.mem_map.2 ⟨x, hx, rfl⟩
    obtain ⟨p, hp, hq⟩ := List.mem_map.1 hm
    refine ⟨p, hp, hq, ?_⟩
    obtain ⟨ke, va, bo⟩ := x
    dsimp only at hq
    obtain ⟨h1, h2⟩ := Prod.mk.inj hq
    subst h1 h2
    exact WideElems.rd_mk (R := R1) (yv := (.lit (.int .i64 p.2), [])) (WideMaps.keyOf_string_mk und_strS (hs p hp)) rfl
  refine ⟨?_, fun x hx => by obtain ⟨p, hp, -, h2⟩ := key x hx; exact ⟨p, hp, h2⟩⟩
  let F : Value × Value → Lit × DataW Unit := fun q => (match q.1 with | .string s => kyS s | _ => .bool false, match q.2 with | .pointer (some ⟨g, _, _⟩) => .lit (.int .i64 g) | _ => .nil)
  have h1 : es.toList.map (WideElems.rg Tryz.prog 9 R1) = es.toList.map fun x => F (x.key, x.val) := List.map_congr_left fun x hx => by
    obtain ⟨p, hp, hq, h2⟩ := key x hx
    rw [WideElems.rg_of h2, ← hq]
    rfl
  have h3 : (es.toList.map fun x => F (x.key, x.val)) = (es.toList.map fun e => (e.key, e.val)).map F := by
    rw [List.map_map]
    rfl
  rw [h1, h3, hr, List.map_map]
  rfl
theorem MapS.owns1 {w : World} {m : Nat} {E : List (ByteArray × Nat)} (h : MapS w m E) (hs : ∀ p ∈ E, p.1.size ≤ maxLen) (hl : E.length ≤ maxLen) :
    ∃ D : DataW Unit, w.ownsMap Tryz.prog 9 R1 m E.length D ∧ ∀ p ∈ E, Maps.has D (kyS p.1) = true := by
  obtain ⟨⟨es, c, hb, hr, hst⟩, hn⟩ := id h
  obtain ⟨h1, h2⟩ := h.rd1 hs hb
  have hlen : es.toList.length = E.length := by
    have := congrArg List.length hr
    simpa using this
  refine ⟨_, ⟨es, c, hb, ⟨by rw [← Array.length_toList, hlen]; exact hl, hst, fun x hx => by
    obtain ⟨p, -, h2⟩ := h2 x hx
    exact ⟨_, h2⟩⟩, by rw [← Array.length_toList, hlen]; exact Nat.le_refl _, rfl⟩, fun p hp => ?_⟩
  rw [has_eq, h1]
  exact List.any_eq_true.2 ⟨en1 p, mem_sorted.2 (List.mem_map.2 ⟨p, hp, rfl⟩), WideAt.sameKey_self trivial⟩
/-- What the loop meets is an entry. -/
theorem came1 {w : World} {m r n cnt g : Nat} {E : List (ByteArray × Nat)} {D : DataW Unit} {left : Lit → Bool} {x : ByteArray} (hm : MapS w m E) (hs : ∀ p ∈ E, p.1.size ≤ maxLen) (h : w.ranges Tryz.prog 9 R1 m r n D left cnt) (hl : left (kyS x) = true) (hat : ∀ zd, D.atKey (kyS x) zd = .lit (.int .i64 g)) : (x, g) ∈ E := by
  obtain ⟨es, clock, since, seen, c0, hb, F, hsz, hD, -, -, -, -, hmem, -⟩ := h
  have h1 := (hm.rd1 hs hb).1
  have hn := hm.2
  obtain ⟨y, hy, hye⟩ := hmem _ hl
  have hy2 : WideElems.rg Tryz.prog 9 R1 y ∈ E.map en1 := by rw [← h1]; exact List.mem_map.2 ⟨y, hy, rfl⟩
  obtain ⟨p, hp, hpe⟩ := List.mem_map.1 hy2
  rw [← hpe] at hye
  obtain rfl : p.1 = x := kyS_inj hye
  have hpw : ((E.map en1).foldr DataW.insert []).Pairwise (fun p q => p.1 ≠ q.1) := by
    refine ((WideShapes.sorted_perm _).pairwise_iff fun h e => h e.symm).2 ?_
    rw [List.pairwise_map]
    exact (List.pairwise_map.1 hn).imp fun h e => h (kyS_inj e)
  have := WideAt.atKey_mem (H := Unit) .nil (k := kyS p.1) (d := .lit (.int .i64 p.2)) trivial hpw (mem_sorted.2 (List.mem_map.2 ⟨p, hp, rfl⟩))
  rw [← h1, ← hD, hat] at this
  have h2 : (g : Int) = (p.2 : Int) := by
    simpa using this
  have h3 : g = p.2 := by omega
  rw [h3]
  exact hp
/-- How many have been met and are so. -/
def cntL (E : List (ByteArray × Nat)) (left : Lit → Bool) (f : Nat → Bool) : Nat := E.countP fun p => !left (kyS p.1) && f p.2
theorem cntL_start {E : List (ByteArray × Nat)} {left : Lit → Bool} (f : Nat → Bool) (h : ∀ p ∈ E, left (kyS p.1) = true) : cntL E left f = 0 := by
  unfold cntL
  rw [List.countP_eq_zero]
  intro p hp
  simp [h p hp]
theorem cntL_end {E : List (ByteArray × Nat)} {left : Lit → Bool} (f : Nat → Bool) (h : ∀ kl, left kl = false) : cntL E left f = E.countP fun p => f p.2 := by
  unfold cntL
  simp [h]
theorem cntL_le (E : List (ByteArray × Nat)) (left : Lit → Bool) (f : Nat → Bool) : cntL E left f ≤ E.length := List.countP_le_length
theorem left_step {left : Lit → Bool} {x k : ByteArray} : (left (kyS k) && !(kyS k).sameKey (kyS x)) = if k = x then false else left (kyS k) := by
  by_cases h : k = x
  · rw [if_pos h, h, WideAt.sameKey_self (a := kyS x) trivial]
    simp
  · rw [if_neg h]
    have : (kyS k).sameKey (kyS x) = false := by
      cases hh : (kyS k).sameKey (kyS x)
      · rfl
      · exact absurd (kyS_inj ((WideAt.sameKey_iff (a := kyS k) (b := kyS x) trivial).1 hh)) h
    rw [this]
    simp
theorem cntL_step : ∀ {E : List (ByteArray × Nat)} {left : Lit → Bool} {x : ByteArray} {g : Nat} (f : Nat → Bool), (E.map (·.1)).Nodup → (x, g) ∈ E → left (kyS x) = true → cntL E (fun z => left z && !z.sameKey (kyS x)) f = cntL E left f + if f g then 1 else 0
  | [], left, x, g, f, _, hm, _ => nomatch hm
  | p :: E, left, x, g, f, hn, hm, hl => by
    rw [List.map_cons, List.nodup_cons] at hn
    have key : ∀ q : ByteArray × Nat, (!(left (kyS q.1) && !(kyS q.1).sameKey (kyS x)) && f q.2) = if q.1 = x then f q.2 else (!left (kyS q.1) && f q.2) := fun q => by
      rw [left_step]
      split <;> simp
    unfold cntL
    rw [List.countP_cons, List.countP_cons]
    rw [key p]
    rcases List.mem_cons.1 hm with hp | hp
    · subst hp
      have h0 : ∀ q ∈ E, q.1 ≠ x := fun q hq e => hn.1 (by rw [← e]; exact List.mem_map.2 ⟨q, hq, rfl⟩)
      have h1 : (E.countP fun p => !(left (kyS p.1) && !(kyS p.1).sameKey (kyS x)) && f p.2) = E.countP fun p => !left (kyS p.1) && f p.2 := List.countP_congr fun q hq => by rw [key q, if_neg (h0 q hq)]
      rw [h1]
      simp [hl]
    · have h0 : p.1 ≠ x := fun e => hn.1 (by rw [e]; exact List.mem_map.2 ⟨(x, g), hp, rfl⟩)
      have ih := cntL_step f hn.2 hp hl
      unfold cntL at ih
      rw [ih, if_neg h0]
      omega
theorem keyS_inv {x : ByteArray} {kl : Lit} (h : keyOf Tryz.prog 9 (.string x) = some kl) : kl = kyS x := by
  simp [keyOf, mapKey] at h
  exact h.2.symm
theorem below_range {w w' : World} {r : Nat} (h : w.grownBy w' (some r)) {b : Nat} (hb : b ≤ r) (hw : b ≤ w.heap.size) : Below b w w' := ⟨h.os, h.tape, h.output, h.size, fun k hk => h.block k (by omega) (by simp; omega)⟩
theorem below_range0 {w w' : World} (h : w.grownBy w' none) : Below w.heap.size w w' := ⟨h.os, h.tape, h.output, h.size, fun k hk => h.block k hk (by simp)⟩
theorem und_mapS' : Tryz.prog.underlying 48 = some (.map 9 82) := und_mapS
set_option maxRecDepth 100000 in
set_option maxHeartbeats 4000000 in
theorem waits_any {base : Nat} {w : World} {s m : Nat} {E : List (ByteArray × Nat)} {X : Nat → Kp} (h : StV base w s m E X) (hs : ∀ p ∈ E, p.1.size ≤ 1000000) (hl : E.length ≤ 1000) :
    Calls Tryz.prog 26 #[stP s] w fun e w' => e = .returned (.int .i64 (E.countP fun p => anyW (X p.2).f : Nat)) ∧ Below w.heap.size w w' := by
  have hs' : ∀ p ∈ E, p.1.size ≤ maxLen := fun p hp => Nat.le_trans (hs p hp) (by unfold maxLen; decide)
  have HM : Hid (∀ W, Below w.heap.size w W → MapS W m E) := fun W hb => (h.below hb).mp
  have HW : Hid (∀ k g, (k, g) ∈ E → ∀ W, Below w.heap.size w W → Calls Tryz.prog 41 #[.pointer (some ⟨g, 0, none⟩)] W fun e w' => e = .returned (.bool (anyW (X g).f)) ∧ w' = W) := fun k g hm W hb => by
    obtain ⟨-, vo, va, vc, h0, -⟩ := (h.below hb).kp _ hm
    exact waitsAll_any W g (X g) vo va vc h0
  have HS : Hid (∀ p ∈ E, p.1.size ≤ maxLen) := hs'
  have HN : Hid ((E.map (·.1)).Nodup) := h.mp.2
  obtain ⟨D, hown, hhas⟩ := h.mp.owns1 hs' (by unfold maxLen; omega)
  have Hhas : Hid (∀ p ∈ E, Maps.has D (kyS p.1) = true) := hhas
  have c0 := h.cell
  have hnil : Below w.heap.size w w := Below.refl _ _
  clear h hs hs' hhas
  go_enter Tryz.func26, Tryz.ntmps26
  go_wp2_with (first
    | (at_range; refine wpList_range_own _ rfl _ 48 rfl 9 82 (string_keyed und_strS) und_mapS' _ m E.length D rfl hown ?_; intro w0 hrg0 hg0 hs0)
    | go_in)
  go_frame
  have B0 : Hid (Below w.heap.size w w0) := below_range0 hg0
  go_loopw [2] (fun i wr => ∃ (left : Lit → Bool) (cnt : Nat), wr.ranges Tryz.prog 9 R1 m w.heap.size E.length D left cnt ∧ i = .int .i64 (cntL E left (fun g => anyW (X g).f) : Nat) ∧ Hid (Below w.heap.size w wr))
    (fun _ wr => wr.rangeLeft m w.heap.size)
  case atStart => exact ⟨_, _, hrg0, by rw [cntL_start _ Hhas.out]; rfl, B0⟩
  case round =>
    obtain ⟨left, cnt, hrg, rfl, HB⟩ := hrel
    have hlt : w.heap.size < wr.heap.size := hrg.lt
    go_wp2_with (first
      | (at_next; refine wpList_next_ranges _ rfl _ rfl 9 (string_keyed und_strS) R1 Value.string (fun g : Nat => Value.pointer (some ⟨g, 0, none⟩)) (fun key kl hk => Maps.keyOf_string_inv und_strS hk) (fun v y hv => R1_inv hv) m w.heap.size E.length _ _ _ rfl hrg ?_ ?_)
      | go_in)
    · intro _ hl0
      have hf := cntL_end (E := E) (fun g => anyW (X g).f) hl0
      have HE : Hid (Below w.heap.size w wr) := HB
      clear hl0 hrg hlt
      generalize cntL E left (fun g => anyW (X g).f) = N at *
      have HN2 : Hid (N = E.countP fun p => anyW (X p.2).f) := hf
      clear hf
      go_wp2
      go_ret
      exact ⟨by rw [← HN2.out]; rfl, HE.out⟩
    · intro x g kl y pl w1 cnt1 hkey hlx hR hat hrg1 hlt1 hg1 hs1 hen
      have HR : y = .lit (.int .i64 g) := by
        have h1 : some ((.lit (.int .i64 g), []) : DataW Unit × List MemPlace) = some (y, pl) := hR
        exact (Prod.mk.inj (Option.some.inj h1)).1.symm
      have HK : kl = kyS x := keyS_inv hkey
      have hmem : (x, g) ∈ E := came1 (HM.out wr HB.out) HS.out hrg (HK ▸ hlx) (fun zd => by rw [← HK, hat zd, HR])
      have hst := cntL_step (fun g => anyW (X g).f) HN.out hmem (HK ▸ hlx)
      have hle := cntL_le E (fun z => left z && !z.sameKey (kyS x)) (fun g => anyW (X g).f)
      rw [← HK] at hst hle
      have B1 : Hid (Below w.heap.size w w1) := HB.out.trans (below_range hg1 (Nat.le_refl _) (Nat.le_of_lt hlt))
      have HWc := HW.out x g hmem
      have hlft := hrg.left_eq
      clear hkey hlx hR hat HR HK HB HW hrg hg1 hs1
      generalize hN1 : cntL E left (fun g => anyW (X g).f) = N1 at *
      have Hst : Hid ((cntL E (fun z => left z && !z.sameKey kl) fun g => anyW (X g).f) = N1 + if anyW (X g).f = true then 1 else 0) := hst
      have Hle := Nat.le_trans hle hl
      rw [hst] at Hle
      clear hst hle hN1
      go_wp2_with fail
      refine (HWc w1 B1.out).mono ?_
      rintro e w2 ⟨rfl, rfl⟩
      have Hst' := Hst.out
      cases hb : anyW (X g).f
      · rw [hb] at Hst'
        have H3 : Hid ((cntL E (fun z => left z && !z.sameKey kl) fun g => anyW (X g).f) = N1) := Hst'
        clear Hst Hst' Hle HWc hb
        go_wp2
        go_roundw
        case rel => exact ⟨_, cnt1, hrg1, by rw [H3.out], B1⟩
        case measure => rw [hrg1.left_eq, hlft]; exact hlt1
      · rw [hb] at Hst' Hle
        have H3 : Hid ((cntL E (fun z => left z && !z.sameKey kl) fun g => anyW (X g).f) = N1 + 1) := Hst'
        have H4 : N1 + 1 ≤ 1000 := Hle
        clear Hst Hst' Hle HWc hb
        go_wp2
        go_roundw
        case rel => exact ⟨_, cnt1, hrg1, by rw [H3.out]; rfl, B1⟩
        case measure => rw [hrg1.left_eq, hlft]; exact hlt1
end Go.Proofs.YtlndgepoekllkaaGreatDoor
/- store's Loosen: its walk. -/
namespace Go.Proofs.YtlndgepoekllkaaGreatDoor
open Go.RowKit Go.ChangeMaps Go.Maps

/-- What is neither sure nor waits. -/
def lsK (x : Kp) : Kp := ⟨x.t, false, zW⟩
theorem nd_inj {α β : Type} {f : α → β} : ∀ {l : List α}, (l.map f).Nodup → ∀ {a b : α}, a ∈ l → b ∈ l → f a = f b → a = b
  | [], _, a, b, ha, _, _ => nomatch ha
  | c :: l, hn, a, b, ha, hb, e => by
    rw [List.map_cons, List.nodup_cons] at hn
    rcases List.mem_cons.1 ha with h1 | h1
    · rcases List.mem_cons.1 hb with h2 | h2
      · rw [h1, h2]
      · exact absurd (List.mem_map.2 ⟨b, h2, by rw [← e, h1]⟩) hn.1
    · rcases List.mem_cons.1 hb with h2 | h2
      · exact absurd (List.mem_map.2 ⟨a, h1, by rw [e, h2]⟩) hn.1
      · exact nd_inj hn.2 h1 h2 e
/-- Those that have been met are loosened. -/
def LsI (E : List (ByteArray × Nat)) (X : Nat → Kp) (left : Lit → Bool) (X' : Nat → Kp) : Prop := ∀ p ∈ E, (left (kyS p.1) = true → X' p.2 = X p.2) ∧ (left (kyS p.1) = false → X' p.2 = lsK (X p.2))
theorem lsI_step {E : List (ByteArray × Nat)} {X X' : Nat → Kp} {left : Lit → Bool} {x : ByteArray} {g : Nat} (h : LsI E X left X') (hn : (E.map (·.1)).Nodup) (hd : (E.map (·.2)).Nodup) (hm : (x, g) ∈ E) : LsI E X (fun z => left z && !z.sameKey (kyS x)) (upX X' g (lsK (X g))) := by
  intro p hp
  have hs := left_step (left := left) (x := x) (k := p.1)
  dsimp only
  unfold upX
  by_cases h1 : p.1 = x
  · have h2 : p.2 = g := by rw [nd_inj hn hp hm h1]
    rw [if_pos h1] at hs
    rw [if_pos h2]
    refine ⟨fun hh => ?_, fun _ => by rw [h2]⟩
    rw [hs] at hh
    cases hh
  · have h2 : p.2 ≠ g := fun e => h1 (by rw [nd_inj hd hp hm e])
    rw [if_neg h1] at hs
    rw [if_neg h2, hs]
    exact h p hp
/-- A store stays while a loop's own block turns. -/
theorem StV.turn {base : Nat} {w w' : World} {s m r : Nat} {E : List (ByteArray × Nat)} {X : Nat → Kp} (h : StV base w s m E X) (hk : w.grownBy w' (some r)) (hr : ∀ C e z, w.heap[r]? ≠ some (Obj.cells C e z)) (hm : m ≠ r) : StV base w' s m E X := by
  have ce : ∀ j C e z, w.heap[j]? = some (Obj.cells C e z) → w'.heap[j]? = w.heap[j]? := fun j C e z hj => hk.block j (Array.getElem?_eq_some_iff.1 hj).1 fun e' => by
    have : j = r := by simpa using e'
    rw [this] at hj
    exact hr _ _ _ hj
  refine ⟨h.lo, h.lm, (ce _ _ _ _ h.blk).trans h.blk, h.mp.keep (hk.block m h.mp.lt fun e => hm (by simpa using e)), fun p hp => ?_, h.nd⟩
  refine (h.kp p hp).keep ?_ fun j C z hj => ?_
  · obtain ⟨-, v1, v2, v3, hb, -⟩ := h.kp p hp
    exact ce _ _ _ _ hb
  · rcases hj with hj | hj
    · exact ce _ _ _ _ hj
    · exact ce _ _ _ _ hj
theorem ranges_it {w : World} {m r n cnt : Nat} {D : DataW Unit} {left : Lit → Bool} (h : w.ranges Tryz.prog 9 R1 m r n D left cnt) : ∀ C e z, w.heap[r]? ≠ some (Obj.cells C e z) := by
  obtain ⟨es, clock, since, seen, c0, -, -, -, -, hr, -⟩ := h
  intro C e z hh
  rw [hr] at hh
  cases hh
theorem Onl.grown {g : Nat} {w w' : World} (h : Onl g w w') : w.grownBy w' (some g) := ⟨h.os, h.tape, h.output, by rw [h.size]; exact Nat.le_refl _, fun i _ hne => h.block i fun e => hne (by rw [e])⟩
/-- The blocks of what is kept. -/
def InE (E : List (ByteArray × Nat)) (k : Nat) : Prop := ∃ p ∈ E, p.2 = k
theorem Onl.stpE {E : List (ByteArray × Nat)} {x : ByteArray} {g : Nat} {w0 w w1 w' : World} (h0 : Stp w0 (InE E) (InE E) w) (hb : Below w0.heap.size w w1) (hm : (x, g) ∈ E) (h : Onl g w1 w') : Stp w0 (InE E) (InE E) w' :=
  ⟨h.os.trans (hb.os.trans h0.os), h.tape.trans (hb.tape.trans h0.tape), h.output.trans (hb.output.trans h0.output), by rw [h.size]; exact Nat.le_trans h0.size hb.size, fun k hk hn => (h.block k fun e => hn ⟨_, hm, e.symm⟩).trans ((hb.block k hk).trans (h0.block k hk hn)), fun _ h => .inl h⟩
set_option maxRecDepth 100000 in
set_option maxHeartbeats 4000000 in
theorem loosen_any {base : Nat} {w : World} {s m : Nat} {E : List (ByteArray × Nat)} {X : Nat → Kp} (h : StV base w s m E X) (hs : ∀ p ∈ E, p.1.size ≤ 1000000) (hl : E.length ≤ 1000) :
    Calls Tryz.prog 23 #[stP s] w fun e w' => e = .returned (.tuple #[]) ∧ ∃ X', StV base w' s m E X' ∧ (∀ p ∈ E, X' p.2 = lsK (X p.2)) ∧ Stp w (InE E) (InE E) w' := by
  have hs' : ∀ p ∈ E, p.1.size ≤ maxLen := fun p hp => Nat.le_trans (hs p hp) (by unfold maxLen; decide)
  have HS : Hid (∀ p ∈ E, p.1.size ≤ maxLen) := hs'
  have HN : Hid ((E.map (·.1)).Nodup) := h.mp.2
  have HD : Hid ((E.map (·.2)).Nodup) := h.nd
  have HG : Hid (∀ p ∈ E, p.2 < w.heap.size) := fun p hp => by
    obtain ⟨-, vo, va, vc, h0, -⟩ := h.kp p hp
    exact (Array.getElem?_eq_some_iff.1 h0).1
  have Hm : Hid (∀ p ∈ E, p.2 ≠ m) := fun p hp e => by
    obtain ⟨-, vo, va, vc, h0, -⟩ := h.kp p hp
    obtain ⟨⟨es, c, hm, -⟩, -⟩ := h.mp
    rw [e, hm] at h0
    cases h0
  obtain ⟨D, hown, hhas⟩ := h.mp.owns1 hs' (by unfold maxLen; omega)
  have Hhas : Hid (∀ p ∈ E, Maps.has D (kyS p.1) = true) := hhas
  have c0 := h.cell
  have H0 : Hid (StV base w s m E X) := h
  clear h hs hs' hhas
  go_enter Tryz.func23, Tryz.ntmps23
  go_wp2_with (first
    | (at_range; refine wpList_range_own _ rfl _ 48 rfl 9 82 (string_keyed und_strS) und_mapS' _ m E.length D rfl hown ?_; intro w0 hrg0 hg0 hs0)
    | go_in)
  go_frame
  have HS0 : Hid (StV base w0 s m E X ∧ Stp w (InE E) (InE E) w0) := ⟨H0.out.below (below_range0 hg0), Stp.of _ (below_range0 hg0)⟩
  go_loopw [] (fun wr => ∃ (left : Lit → Bool) (cnt : Nat) (X' : Nat → Kp), wr.ranges Tryz.prog 9 R1 m w.heap.size E.length D left cnt ∧ Hid (LsI E X left X') ∧ Hid (StV base wr s m E X' ∧ Stp w (InE E) (InE E) wr))
    (fun wr => wr.rangeLeft m w.heap.size)
  case atStart => exact ⟨_, _, X, hrg0, fun p hp => ⟨fun _ => rfl, fun hh => by rw [Hhas.out p hp] at hh; cases hh⟩, HS0⟩
  case round =>
    obtain ⟨left, cnt, X', hrg, HL, HB⟩ := hrel
    have hlt : w.heap.size < wr.heap.size := hrg.lt
    go_wp2_with (first
      | (at_next; refine wpList_next_ranges _ rfl _ rfl 9 (string_keyed und_strS) R1 Value.string (fun g : Nat => Value.pointer (some ⟨g, 0, none⟩)) (fun key kl hk => Maps.keyOf_string_inv und_strS hk) (fun v y hv => R1_inv hv) m w.heap.size E.length _ _ _ rfl hrg ?_ ?_)
      | go_in)
    · intro _ hl0
      have HE : Hid (∃ X', StV base wr s m E X' ∧ (∀ p ∈ E, X' p.2 = lsK (X p.2)) ∧ Stp w (InE E) (InE E) wr) := ⟨X', HB.out.1, fun p hp => (HL.out p hp).2 (hl0 _), HB.out.2⟩
      clear hl0 hrg hlt
      go_wp2
      go_end0
      exact ⟨rfl, HE.out⟩
    · intro x g kl y pl w1 cnt1 hkey hlx hR hat hrg1 hlt1 hg1 hs1 hen
      have HR : y = .lit (.int .i64 g) := by
        have h1 : some ((.lit (.int .i64 g), []) : DataW Unit × List MemPlace) = some (y, pl) := hR
        exact (Prod.mk.inj (Option.some.inj h1)).1.symm
      have HK : kl = kyS x := keyS_inv hkey
      have hmem : (x, g) ∈ E := came1 HB.out.1.mp HS.out hrg (HK ▸ hlx) (fun zd => by rw [← HK, hat zd, HR])
      have hgw := HG.out _ hmem
      dsimp only at hgw
      have hb1 : Below w.heap.size wr w1 := below_range hg1 (Nat.le_refl _) (Nat.le_of_lt hlt)
      have HX : X' g = X g := (HL.out _ hmem).1 (HK ▸ hlx)
      obtain ⟨hbg, vo, va, vc, h0, ho⟩ := HB.out.1.kp _ hmem
      dsimp only at hbg h0 ho
      rw [HX] at h0 ho
      obtain ⟨t, s0, f0, hXg⟩ : ∃ t s0 f0, X g = ⟨t, s0, f0⟩ := ⟨_, _, _, rfl⟩
      have hk1 : w1.heap[g]? = some (.cells (kpA ⟨t, s0, f0⟩ vo va vc) 87 (0, 0)) := by rw [hb1.block g hgw, h0, hXg]
      have hl1 := lsI_step HL.out HN.out HD.out hmem
      rw [← HK] at hl1
      obtain ⟨w3, hw3⟩ : ∃ w3, w3 = ((((((((((((((((w1.setCell ⟨g, 8, none⟩ (.bool false)).setCell ⟨g, 9, none⟩ (.bool false)).setCell ⟨g, 10, none⟩ (.bool false)).setCell ⟨g, 11, none⟩ (.bool false)).setCell ⟨g, 12, none⟩ (.bool false)).setCell ⟨g, 13, none⟩ (.bool false)).setCell ⟨g, 14, none⟩ (.bool false)).setCell ⟨g, 15, none⟩ (.bool false)).setCell ⟨g, 16, none⟩ (.bool false)).setCell ⟨g, 17, none⟩ (.bool false)).setCell ⟨g, 18, none⟩ (.bool false)).setCell ⟨g, 19, none⟩ (.bool false)).setCell ⟨g, 20, none⟩ (.bool false)).setCell ⟨g, 21, none⟩ (.bool false)).setCell ⟨g, 22, none⟩ (.bool false)).setCell ⟨g, 23, none⟩ (.bool false)).setCell ⟨g, 24, none⟩ (.bool false) := ⟨_, rfl⟩
      have O3 : Onl g w1 w3 := by
        have h1 := z16_onl (w1.setCell ⟨g, 8, none⟩ (.bool false)) g
        rw [← hw3] at h1
        have h2 := (Onl.refl g w1).set 8 (.bool false)
        exact ⟨h1.os.trans h2.os, h1.tape.trans h2.tape, h1.output.trans h2.output, h1.size.trans h2.size, fun k hk => (h1.block k hk).trans (h2.block k hk)⟩
      have K3 : w3.heap[g]? = some (.cells (kpA ⟨t, false, zW⟩ vo va vc) 87 (0, 0)) := by
        rw [hw3]
        exact z16_heap ((heap_setS hk1 8 (.bool false)).trans rfl)
      have HNew : Hid (LsI E X (fun z => left z && !z.sameKey kl) (upX X' g (lsK (X g))) ∧ StV base w3 s m E (upX X' g (lsK (X g))) ∧ Stp w (InE E) (InE E) w3) := by
        refine ⟨hl1, ?_, Onl.stpE HB.out.2 hb1 hmem O3⟩
        have hbE : StV base w1 s m E X' := HB.out.1.turn hg1 (ranges_it hrg) (fun e => hrg.ne e.symm)
        obtain ⟨-, v1, v2, v3, k0, ko⟩ := hbE.kp _ hmem
        dsimp only at k0 ko
        have k0' := k0
        rw [HX, hXg, hk1] at k0'
        have ke := Array.toList_inj.2 (Obj.cells.inj (Option.some.inj k0')).1
        simp only [List.cons.injEq] at ke
        obtain ⟨-, -, e1, e2, e3, -⟩ := ke
        subst e1 e2 e3
        exact hbE.upd (x := lsK (X g)) (by rw [HX]; rfl) k0 ko (by rw [K3, hXg]; rfl) fun j hj _ => O3.block j hj
      have fz : ∀ j, w1.frozen? ⟨g, j, none⟩ = false := fun j => Lib.frozen_of_heap hk1 j
      have c8 : w1.cell? ⟨g, 8, none⟩ = some (.bool s0) := by rw [Lib.cell_of_heap hk1]; rfl
      have c0 : w1.cell? ⟨g, 9, none⟩ = some (.bool (f0 0)) := by rw [Lib.cell_of_heap hk1]; rfl
      have c1 : w1.cell? ⟨g, 10, none⟩ = some (.bool (f0 1)) := by rw [Lib.cell_of_heap hk1]; rfl
      have c2 : w1.cell? ⟨g, 11, none⟩ = some (.bool (f0 2)) := by rw [Lib.cell_of_heap hk1]; rfl
      have c3 : w1.cell? ⟨g, 12, none⟩ = some (.bool (f0 3)) := by rw [Lib.cell_of_heap hk1]; rfl
      have c4 : w1.cell? ⟨g, 13, none⟩ = some (.bool (f0 4)) := by rw [Lib.cell_of_heap hk1]; rfl
      have c5 : w1.cell? ⟨g, 14, none⟩ = some (.bool (f0 5)) := by rw [Lib.cell_of_heap hk1]; rfl
      have c6 : w1.cell? ⟨g, 15, none⟩ = some (.bool (f0 6)) := by rw [Lib.cell_of_heap hk1]; rfl
      have c7 : w1.cell? ⟨g, 16, none⟩ = some (.bool (f0 7)) := by rw [Lib.cell_of_heap hk1]; rfl
      have c8b : w1.cell? ⟨g, 17, none⟩ = some (.bool (f0 8)) := by rw [Lib.cell_of_heap hk1]; rfl
      have c9 : w1.cell? ⟨g, 18, none⟩ = some (.bool (f0 9)) := by rw [Lib.cell_of_heap hk1]; rfl
      have c10 : w1.cell? ⟨g, 19, none⟩ = some (.bool (f0 10)) := by rw [Lib.cell_of_heap hk1]; rfl
      have c11 : w1.cell? ⟨g, 20, none⟩ = some (.bool (f0 11)) := by rw [Lib.cell_of_heap hk1]; rfl
      have c12 : w1.cell? ⟨g, 21, none⟩ = some (.bool (f0 12)) := by rw [Lib.cell_of_heap hk1]; rfl
      have c13 : w1.cell? ⟨g, 22, none⟩ = some (.bool (f0 13)) := by rw [Lib.cell_of_heap hk1]; rfl
      have c14 : w1.cell? ⟨g, 23, none⟩ = some (.bool (f0 14)) := by rw [Lib.cell_of_heap hk1]; rfl
      have c15 : w1.cell? ⟨g, 24, none⟩ = some (.bool (f0 15)) := by rw [Lib.cell_of_heap hk1]; rfl
      have hlft := hrg.left_eq
      have hrg3 : w3.ranges Tryz.prog 9 R1 m w.heap.size E.length D (fun z => left z && !z.sameKey kl) cnt1 := hrg1.kept O3.grown (fun e => Hm.out _ hmem (by simpa using e.symm)) (fun e => by
        have : w.heap.size = g := by simpa using e
        omega)
      clear hkey hlx hR hat HR HK HB HL hrg hg1 hs1 hl1 O3 K3 HX h0 ho hXg hk1
      go_wp2_with fail
      rw [← hw3]
      go_roundw
      case rel => exact ⟨_, cnt1, _, hrg3, HNew.out.1, HNew.out.2⟩
      case measure => rw [hrg3.left_eq, hlft]; exact hlt1
end Go.Proofs.YtlndgepoekllkaaGreatDoor
/- slices.SortedFunc at a store's keys; store's All: walks. -/
namespace Go.Proofs.YtlndgepoekllkaaGreatDoor
open Go.RowKit Go.ChangeMaps

/-- The keys of a store, sorted. -/
def SrtK (E : List (ByteArray × Nat)) (D : List ByteArray) : Prop := D.Perm (E.map (·.1)) ∧ SortedS D
theorem keysB_perm {E : List (ByteArray × Nat)} {ss : List (List UInt8)} (h : ss.Perm (keysB E)) : (ss.map str).Perm (E.map (·.1)) := by
  refine (h.map str).trans ?_
  unfold keysB
  rw [List.map_map]
  have : E.map (str ∘ fun p => p.1.data.toList) = E.map (·.1) := List.map_congr_left fun p _ => by
    obtain ⟨⟨d⟩, g⟩ := p
    show str d.toList = ⟨d⟩
    simp [str]
  rw [this]
theorem sVals_str (ss : List (List UInt8)) : ss.map encStr = sVals (ss.map str) := by
  unfold sVals
  rw [List.map_map]
  rfl
set_option maxRecDepth 100000 in
theorem sortedF_any {W : World} {m b : Nat} {E : List (ByteArray × Nat)} (h : MapS W m E) (hs : ∀ p ∈ E, p.1.size ≤ 1000000) (hl : E.length ≤ 1000) (hb : W.heap[b]? = some (.cells #[.map (some m)] 48 (0, 0))) (hT : UT W) :
    Calls Tryz.prog 53 #[.func (.func 80) #[] #[.pointer (some ⟨b, 0, none⟩)], .func (.func 55) #[] #[]] W fun e w' =>
      ∃ (a : Option Addr) (c : Nat) (D : List ByteArray), e = .returned (.slice a D.length c) ∧ SrtK E D ∧ IsRow w' 1 (.slice a D.length c) D.length (sVals D) ∧ Below W.heap.size W w' := by
  have HC : Hid (Calls Tryz.prog 78 #[.func (.func 80) #[] #[.pointer (some ⟨b, 0, none⟩)]] W fun e w' => ∃ (v : Value) (ss : List (List UInt8)), e = .returned v ∧ ss.Perm (keysB E) ∧ w'.ownsRow W.heap.size 9 1 v ss.length (ss.map encStr) ∧ Below W.heap.size W w') := collect_any h (fun p hp => Nat.le_trans (hs p hp) (by unfold maxLen; decide)) hl hb
  have HS : Hid (∀ v (l : List ByteArray) w, Below W.heap.size W w → l.Perm (E.map (·.1)) → w.ownsRow W.heap.size 9 1 v l.length (sVals l) → Calls Tryz.prog 79 #[v, .func (.func 55) #[] #[]] w fun e w' => e = .returned (.tuple #[]) ∧ ∃ D : List ByteArray, D.Perm l ∧ SortedS D ∧ IsRow w' 1 v D.length (sVals D) ∧ Below W.heap.size w w') := fun v l w hbw hp ho => sortS_str v l _ w ho (by rw [hp.length_eq, List.length_map]; exact hl) (fun s hs' => by
    obtain ⟨p, hp', rfl⟩ := List.mem_map.1 (hp.mem_iff.1 hs')
    exact hs p hp') fun w' hb' => Utf8Tabs_below hT (hbw.trans hb')
  clear h hs hl hb hT
  go_enter Tryz.func53, Tryz.ntmps53
  go_wp2_with fail
  refine HC.out.mono ?_
  rintro e w1 ⟨v, ss, rfl, hp, ho, hb1⟩
  rw [sVals_str] at ho
  have hlen : ss.length = (ss.map str).length := by rw [List.length_map]
  rw [hlen] at ho
  have HSo := HS.out v (ss.map str) w1 hb1 (keysB_perm hp) ho
  have HP : Hid ((ss.map str).Perm (E.map (·.1))) := keysB_perm hp
  have HB1 : Hid (Below W.heap.size W w1) := hb1
  generalize ss.map str = l at *
  obtain ⟨a1, c1, rfl⟩ := (IsRow.own ho).form
  clear hp hb1 HS HC hlen ho
  go_wp2_with fail
  refine HSo.mono ?_
  rintro e w2 ⟨rfl, D, hD, hS, hr, hb2⟩
  have hDl := hD.length_eq
  have HEnd : Hid (∃ (a : Option Addr) (c : Nat) (D : List ByteArray), Ending.returned (.slice a1 l.length c1) = .returned (.slice a D.length c) ∧ SrtK E D ∧ IsRow w2 1 (.slice a D.length c) D.length (sVals D) ∧ Below W.heap.size W w2) := ⟨a1, c1, D, by rw [hDl], ⟨hD.trans HP.out, hS⟩, by rw [hDl] at hr ⊢; exact hr, HB1.out.trans hb2⟩
  clear hD hS hr hb2 hDl HP HB1 HSo
  go_wp2
  go_ret
  exact HEnd.out
/-- The type at a key. -/
def tyK (E : List (ByteArray × Nat)) (X : Nat → Kp) (k : ByteArray) : Ty := (X ((lkS E k).getD 0)).t
/-- Kept types that are not too great. -/
def SmE (E : List (ByteArray × Nat)) (X : Nat → Kp) : Prop := (∀ p ∈ E, p.1.size ≤ 1000000 ∧ (X p.2).t.own.length ≤ 1000 ∧ (X p.2).t.all.length ≤ 1000 ∧ (X p.2).t.ch.length ≤ 1000) ∧ E.length ≤ 1000
theorem lkS_key {E : List (ByteArray × Nat)} {k : ByteArray} (h : k ∈ E.map (·.1)) : ∃ g, lkS E k = some g ∧ (k, g) ∈ E := by
  cases hl : lkS E k with
  | none =>
    obtain ⟨p, hp, rfl⟩ := List.mem_map.1 h
    exact absurd rfl (lkS_none.1 hl p hp)
  | some g => exact ⟨g, rfl, lkS_memB hl⟩
theorem ty_kept {base b0 : Nat} {w w' : World} {o : Value} {n : Nat} {xs : List Value} (ho : w.ownsRow base 35 8 o n xs) (hg : w.grownBy w' o.ownBlock) {t : Ty} {vo va vc : Value} (h : OwnTy b0 w t vo va vc) : OwnTy b0 w' t vo va vc := by
  have key : ∀ (j : Nat) (C : Array Value) (e : TypeId) (z : Nat × Nat), w.heap[j]? = some (Obj.cells C e z) → 35 ≠ e → w'.heap[j]? = w.heap[j]? := fun j C e z hj hne => hg.block j (Array.getElem?_eq_some_iff.1 hj).1 fun hb => by
    rcases ho.2 with ⟨rfl, -⟩ | ⟨g, cap, cur, rfl, -, hc, -⟩
    · cases hb
    · have hjg : j = g := by simpa [Value.ownBlock] using hb
      rw [hjg, hc] at hj
      exact hne (Obj.cells.inj (Option.some.inj hj)).2.1
  exact ⟨own_keep h.1 fun j C z hj => key j C _ z hj (by decide), own_keep h.2.1 fun j C z hj => key j C _ z hj (by decide), own_keep h.2.2 fun j C z hj => key j C _ z hj (by decide)⟩
/-- So many types are laid. -/
def RaI (D : List ByteArray) (f : ByteArray → Ty) (w : World) (k : Nat) (o : Value) (wr : World) : Prop := ∃ M : List LT, tys M = (D.take k).map f ∧ M.length = k ∧ wr.ownsRow w.heap.size 35 8 o k (tCells M) ∧ ∀ y ∈ M, OwnTy w.heap.size wr y.t y.vo y.va y.vc
theorem RaI.step {D : List ByteArray} {f : ByteArray → Ty} {w wr w2 w3 : World} {k : Nat} {o o' : Value} {M : List LT} {y : LT} (hk : k < D.length) (h0 : w.heap.size ≤ wr.heap.size)
    (h1 : tys M = (D.take k).map f) (h2 : M.length = k) (h3 : wr.ownsRow w.heap.size 35 8 o k (tCells M)) (h4 : ∀ y ∈ M, OwnTy w.heap.size wr y.t y.vo y.va y.vc)
    (hyt : y.t = f D[k]) (hyI : OwnTy wr.heap.size w2 y.t y.vo y.va y.vc) (hb2 : Below wr.heap.size wr w2)
    (hown : w3.ownsRow w.heap.size 35 8 o' (k + 1) (tCells M ++ enT y)) (hgrow : (w2.alloc (.cells (tyA y.t y.vo y.va y.vc) 35)).grownBy w3 o.ownBlock) :
    RaI D f w (k + 1) o' w3 := by
  have hal := al_b w2 (.cells (tyA y.t y.vo y.va y.vc) 35)
  have hrow : (w2.alloc (.cells (tyA y.t y.vo y.va y.vc) 35)).ownsRow w.heap.size 35 8 o k (tCells M) := own_belowE (own_belowE h3 hb2) hal
  refine ⟨M ++ [y], ?_, by simp [h2], ?_, fun z hz => ty_kept hrow hgrow ?_⟩
  · have e1 : tys (M ++ [y]) = tys M ++ [y.t] := by simp [tys]
    rw [e1, h1, hyt, List.take_succ_eq_append_getElem hk, List.map_append]
    rfl
  · have e2 : tCells (M ++ [y]) = tCells M ++ enT y := by rw [tCells_app]; congr 1
    rw [e2]
    exact hown
  · rcases List.mem_append.1 hz with hz | hz
    · exact (h4 z hz |>.below hb2).below hal
    · obtain rfl := List.mem_singleton.1 hz
      exact (hyI.below hal).le h0
/-- What All hands out. -/
def AlP (E : List (ByteArray × Nat)) (X : Nat → Kp) (w : World) (e : Ending) (w' : World) : Prop := ∃ (a : Option Addr) (c : Nat) (D : List ByteArray) (M : List LT), e = .returned (.slice a M.length c) ∧ SrtK E D ∧ tys M = D.map (tyK E X) ∧ IsTys w' (.slice a M.length c) M ∧ Below w.heap.size w w'
theorem info_tyS : (Tryz.prog.info? 35).map (fun i => (i.zero, i.size, i.bytes)) = some (some (.agg zTyA), 8, 128) := by kernel_rfl
theorem oneT_cellS (y : LT) : ∀ u ∈ enT y, u.oneCell' = true := fun u hu => by
  simp [enT] at hu
  rcases hu with rfl | rfl | rfl | rfl | rfl | rfl | rfl | rfl <;> rfl
set_option maxRecDepth 100000 in
set_option maxHeartbeats 4000000 in
theorem allS_any {base : Nat} {w : World} {s m : Nat} {E : List (ByteArray × Nat)} {X : Nat → Kp} (h : StV base w s m E X) (hE : SmE E X) (hT : UT w) :
    Calls Tryz.prog 25 #[stP s] w fun e w' => AlP E X w e w' := by
  obtain ⟨i0, hi0, hz0, hz1, hz2⟩ := info_parts info_tyS
  have HK : Hid (Calls Tryz.prog 54 #[.map (some m)] w fun e w' => e = .returned (.func (.func 80) #[] #[.pointer (some ⟨w.heap.size, 0, none⟩)]) ∧ w' = w.alloc (.cells #[.map (some m)] 48)) := keysM_any (some m) w
  obtain ⟨w1, hw1⟩ : ∃ w1, w1 = w.alloc (.cells #[.map (some m)] 48) := ⟨_, rfl⟩
  have B1 : Hid (Below w.heap.size w w1) := by show Below _ _ _; rw [hw1]; exact al_b _ _
  have hn1 : w1.heap[w.heap.size]? = some (.cells #[.map (some m)] 48 (0, 0)) := by rw [hw1]; exact new_at _ _
  have HSr : Hid (Calls Tryz.prog 53 #[.func (.func 80) #[] #[.pointer (some ⟨w.heap.size, 0, none⟩)], .func (.func 55) #[] #[]] w1 fun e w' =>
      ∃ (a : Option Addr) (c : Nat) (D : List ByteArray), e = .returned (.slice a D.length c) ∧ SrtK E D ∧ IsRow w' 1 (.slice a D.length c) D.length (sVals D) ∧ Below w1.heap.size w1 w') := sortedF_any (h.below B1.out).mp (fun p hp => (hE.1 p hp).1) hE.2 hn1 (Utf8Tabs_below hT B1.out)
  have HM : Hid (∀ W, Below w.heap.size w W → W.cell? ⟨s, 0, none⟩ = some (.map (some m)) ∧ ∀ k, (Instr.lookup 48 (.map (some m)) (.string k) false).run Tryz.prog W = .ok (ptS (lkS E k)) W) := fun W hb => ⟨(h.below hb).cell, fun k => (h.below hb).mp.look k⟩
  have HC : Hid (∀ k g, lkS E k = some g → ∀ W, Below w.heap.size w W → ∃ ao co aa ca ac cc, BxT g (X g).t (.slice ao (X g).t.own.length co) (.slice aa (X g).t.all.length ca) (.slice ac (X g).t.ch.length cc) W ∧ Calls Tryz.prog 30 #[tyV (X g).t (.slice ao (X g).t.own.length co) (.slice aa (X g).t.all.length ca) (.slice ac (X g).t.ch.length cc)] W fun e w' => CpT (X g).t W e w') := fun k g hl W hb => by
    obtain ⟨-, vo, va, vc, h0, ho⟩ := (h.below hb).kp _ (lkS_memB hl)
    dsimp only at h0 ho
    obtain ⟨-, s1, s2, s3⟩ := hE.1 _ (lkS_memB hl)
    obtain ⟨ao, co, rfl⟩ := ho.is.1.form
    obtain ⟨aa, ca, rfl⟩ := ho.is.2.1.form
    obtain ⟨ac, cc, rfl⟩ := ho.is.2.2.form
    have c : ∀ j, W.cell? ⟨g, j, none⟩ = (kpA (X g) (.slice ao (X g).t.own.length co) (.slice aa (X g).t.all.length ca) (.slice ac (X g).t.ch.length cc))[j]? := fun j => by rw [Lib.cell_of_heap h0]
    exact ⟨ao, co, aa, ca, ac, cc, ⟨⟨c 0, c 1, c 2, c 3⟩, c 4, c 5, c 6, c 7⟩, copyOf_any _ _ _ _ W ho.is s1 s2 s3⟩
  have HLen : Hid (E.length ≤ 1000) := hE.2
  obtain ⟨c0, -⟩ := HM.out w (Below.refl _ _)
  clear h hE hT hn1
  go_enter Tryz.func25, Tryz.ntmps25
  go_wp2_with fail
  refine HK.out.mono ?_
  rintro e w1' ⟨rfl, hw1'⟩
  obtain rfl : w1' = w1 := hw1'.trans hw1.symm
  clear hw1 hw1' HK c0
  go_wp2_with fail
  refine HSr.out.mono ?_
  rintro e w2 ⟨ar, cr, D, rfl, hSK, hr, hb2⟩
  have B2 : Hid (Below w.heap.size w w2) := B1.out.trans (hb2.mono B1.out.size)
  have HR : Hid (∀ W, Below w2.heap.size w2 W → IsRow W 1 (.slice ar D.length cr) D.length (sVals D)) := fun W hb => hr.below hb
  have HSK : Hid (SrtK E D) := hSK
  have hDl : D.length ≤ 1000 := by rw [hSK.1.length_eq, List.length_map]; exact HLen.out
  have HSt : Hid (RaI D (tyK E X) w2 0 (.slice none 0 0) w2) := ⟨[], by simp [tys], rfl, World.ownsRow_nil _ _ _ _, fun y hy => nomatch hy⟩
  clear hb2 hr hSK HSr HLen
  go_wp2_with fail
  go_loopw [2, 14] (fun o i wr => ∃ k : Nat, k ≤ D.length ∧ i = .int .i64 (k : Int) ∧ Hid (RaI D (tyK E X) w2 k o wr) ∧ Hid (Below w2.heap.size w2 wr)) (fun _ i _ => D.length - (intOf i).toNat)
  case atStart => exact ⟨0, Nat.zero_le _, rfl, HSt, Below.refl _ _⟩
  case round =>
    clear HSt
    obtain ⟨k, hk, rfl, HI, HB⟩ := hrel
    have hsz := HB.out.size
    have HBw : Hid (Below w.heap.size w wr) := B2.out.trans (HB.out.mono B2.out.size)
    by_cases hlk : k < D.length
    · have dk : decide ((k : Int) < D.length) = true := by simp; omega
      obtain ⟨b, off, har, -, hbl, hcap, hc⟩ := s_at (HR.out _ HB.out) (by omega)
      have y0 := hc k hlk
      have p1 : (0 : Int) ≤ (k : Int) := by omega
      have p2 : (k : Int) < (D.length : Int) := by omega
      obtain ⟨g, hg, -⟩ := lkS_key (HSK.out.1.mem_iff.1 (List.getElem_mem hlk))
      have hft : tyK E X D[k] = (X g).t := by unfold tyK; rw [hg]; rfl
      obtain ⟨cs, hlook⟩ := HM.out wr HBw.out
      have hlk2 := hlook D[k]
      rw [hg] at hlk2
      have hlk3 : (Instr.lookup 48 (.map (some m)) (.string D[k]) false).run Tryz.prog wr = .ok (.pointer (some ⟨g, 0, none⟩)) wr := hlk2
      obtain ⟨ao, co, aa, ca, ac, cc, hbx, hcp⟩ := HC.out _ g hg wr HBw.out
      obtain ⟨M, m1, m2, m3, m4⟩ := HI.out
      have HM3 : Hid (wr.ownsRow w2.heap.size 35 8 u2 k (tCells M)) := m3
      have HSp : Hid (∀ (y : LT) (w3 w4 : World) (o' : Value), y.t = (X g).t → OwnTy wr.heap.size w3 y.t y.vo y.va y.vc → Below wr.heap.size wr w3 → w4.ownsRow w2.heap.size 35 8 o' (k + 1) (tCells M ++ enT y) → (w3.alloc (.cells (tyA y.t y.vo y.va y.vc) 35)).grownBy w4 u2.ownBlock → RaI D (tyK E X) w2 (k + 1) o' w4) := fun y w3 w4 o' q1 q2 q3 q4 q5 => RaI.step hlk hsz m1 m2 m3 m4 (q1.trans hft.symm) q2 q3 q4 q5
      have HOl : Hid (∀ b, u2.ownBlock = some b → w2.heap.size ≤ b) := fun b hb => (m3.lt b hb).1
      have HCp : Hid (Calls Tryz.prog 30 #[tyV (X g).t (.slice ao (X g).t.own.length co) (.slice aa (X g).t.all.length ca) (.slice ac (X g).t.ch.length cc)] wr fun e w' => CpT (X g).t wr e w') := hcp
      obtain ⟨⟨g0, g1, g2, g3⟩, g4, g5, g6, g7⟩ := hbx
      clear hlook hlk2 hcp m1 m2 m3 m4 HI hft hc hg
      generalize (X g).t = t at *
      generalize D[k]'hlk = ky at *
      subst har
      go_wp2_with fail
      refine HCp.out.mono ?_
      rintro e w3 ⟨v1, v2, v3, rfl, ho, hb3⟩
      obtain ⟨x1, y1, rfl⟩ := (IsRow.own ho.1).form
      obtain ⟨x2, y2, rfl⟩ := (IsRow.own ho.2.1).form
      obtain ⟨x3, y3, rfl⟩ := (IsRow.own ho.2.2).form
      have HO3 : Hid (w3.ownsRow w2.heap.size 35 8 u2 k (tCells M)) := own_belowE HM3.out hb3
      have HS3 : Hid (∀ (w4 : World) (o' : Value), w4.ownsRow w2.heap.size 35 8 o' (k + 1) (tCells M ++ enT ⟨t, x1, y1, x2, y2, x3, y3⟩) → (w3.alloc (.cells (tyA t (.slice x1 t.own.length y1) (.slice x2 t.all.length y2) (.slice x3 t.ch.length y3)) 35)).grownBy w4 u2.ownBlock → RaI D (tyK E X) w2 (k + 1) o' w4) := fun w4 o' q4 q5 => HSp.out ⟨t, x1, y1, x2, y2, x3, y3⟩ w3 w4 o' rfl ho hb3 q4 q5
      have HB3 : Hid (Below w2.heap.size w2 w3) := HB.out.trans (hb3.mono hsz)
      have hsz3 := HB3.out.size
      clear ho hb3 HSp HCp y0 g0 g1 g2 g3 g4 g5 g6 g7 HM3 cs hlk3
      go_wp2_with (at_builtin; go_loud (refine wpList_append_lies _ rfl (.tmp 18) (.tmp 29) 59 rfl w2.heap.size 35 i0 _ 8 128 Tryz.underlying59 hi0 hz0 hz1 hz2 rfl (by decide) u2 k (tCells M) rfl (HO3.out.alloc _) ⟨w3.heap.size, 0, none⟩ 1 1 (enT ⟨t, x1, y1, x2, y2, x3, y3⟩) rfl rfl (World.news_of_block (cs := tyA t (.slice x1 t.own.length y1) (.slice x2 t.all.length y2) (.slice x3 t.ch.length y3)) (t := 35) (fr := (0, 0)) (heap_alloc_new w3 _)) (oneT_cellS _) (by omega) (by unfold maxLen; omega) (by omega) (by simp; omega) (w3.heap.size + 1) (by simp) ?_; intro gg cap w4 hown4 hgrow hat hlt4))
      have HI4 : Hid (RaI D (tyK E X) w2 (k + 1) (.slice (some ⟨gg, 0, none⟩) (k + 1) cap) w4) := HS3.out w4 _ hown4 hgrow
      have HB4 : Hid (Below w2.heap.size w2 w4) := (HB3.out.trans ((al_b w3 _).mono hsz3)).grown hgrow (by simp; omega) HOl.out
      clear hown4 hgrow hat hlt4 HS3 HO3 HOl
      go_wp2
      go_roundw
      case rel => exact ⟨k + 1, by omega, by simp, HI4, HB4⟩
      case measure => simp [intOf]; omega
    · have dk : decide ((k : Int) < D.length) = false := by simp; omega
      have hk' : k = D.length := by omega
      subst hk'
      obtain ⟨M, m1, m2, m3, m4⟩ := HI.out
      obtain ⟨ra, rc, rfl⟩ := (IsRow.own m3).form
      have HEnd : Hid (AlP E X w (.returned (.slice ra D.length rc)) wr) := by
        refine ⟨ra, rc, D, M, by rw [m2], HSK.out, by rw [m1, List.take_length], ⟨?_, fun y hy => (m4 y hy).is⟩, HBw.out⟩
        have := IsRow.own m3
        rw [m2]
        exact this
      clear m1 m2 m3 m4 HI HR HC HM
      go_wp2
      go_ret
      exact HEnd.out
end Go.Proofs.YtlndgepoekllkaaGreatDoor
