/- forest.Of: its walk. -/
import Derived.Test.YtkcnkjaeidbjbaaGreatDoorZq
import Derived.Test.YtkcnkjaeidbjbaaGreatDoorZc
namespace Go.Proofs.YtkcnkjaeidbjbaaGreatDoor
open Go.RowKit Go.ChangeMaps

abbrev ofV (b : Nat) : Value := .func (.func 87) #[] #[.pointer (some ⟨b, 0, none⟩)]
theorem of1_any (u s : ByteArray) (b : Nat) (w : World) (hb : w.cell? ⟨b, 0, none⟩ = some (.string s)) (hu : u.size ≤ 1000000) (hs : s.size ≤ 1000000) (hU : UT w) :
    Calls Tryz.prog 87 #[.string u, .pointer (some ⟨b, 0, none⟩)] w fun e w' => e = .returned (.bool (sameL u.data.toList s.data.toList)) ∧ Below w.heap.size w w' := by
  have HC : Hid (Calls Tryz.prog 65 #[.string u, .string s] w fun e w' => e = .returned (.bool (sameL u.data.toList s.data.toList)) ∧ Below w.heap.size w w') := same_any _ _ w hu hs hU
  generalize sameL u.data.toList s.data.toList = C at *
  clear hU
  go_enter Tryz.func87, Tryz.ntmps87
  go_wp2_with fail
  refine HC.out.mono ?_
  rintro e w1 ⟨rfl, hb1⟩
  have HB : Hid (Below w.heap.size w w1) := hb1
  clear hb1 HC
  go_wp2
  go_ret
  exact ⟨rfl, HB.out⟩
def ixO (s : ByteArray) (l : List ByteArray) : Int := match l.findIdx? (fun u => sameL u.data.toList s.data.toList) with | some k => (k : Int) | none => -1
theorem ixO_at {s : ByteArray} {l : List ByteArray} {k : Nat} (hk : k < l.length) (h1 : ∀ (j : Nat) (h : j < l.length), j < k → sameL l[j].data.toList s.data.toList = false) (h2 : sameL l[k].data.toList s.data.toList = true) : ixO s l = (k : Int) := by
  have : l.findIdx? (fun u => sameL u.data.toList s.data.toList) = some k := by
    rw [List.findIdx?_eq_some_iff_getElem]
    exact ⟨hk, h2, fun j hj => by simp [h1 j (by omega) hj]⟩
  unfold ixO
  rw [this]
theorem ixO_none {s : ByteArray} {l : List ByteArray} (h1 : ∀ (j : Nat) (h : j < l.length), sameL l[j].data.toList s.data.toList = false) : ixO s l = -1 := by
  have : l.findIdx? (fun u => sameL u.data.toList s.data.toList) = none := by
    rw [List.findIdx?_eq_none_iff]
    intro x hx
    obtain ⟨j, hj, rfl⟩ := List.mem_iff_getElem.1 hx
    exact h1 j hj
  unfold ixO
  rw [this]
theorem ixO_any (s : ByteArray) (l : List ByteArray) : decide (0 ≤ ixO s l) = l.any fun u => sameL u.data.toList s.data.toList := by
  unfold ixO
  cases h : l.findIdx? (fun u => sameL u.data.toList s.data.toList) with
  | none =>
    rw [List.findIdx?_eq_none_iff] at h
    have : (l.any fun u => sameL u.data.toList s.data.toList) = false := by
      rw [List.any_eq_false]
      intro x hx
      rw [h x hx]
      decide
    rw [this]
    decide
  | some k =>
    obtain ⟨hk, h2, -⟩ := List.findIdx?_eq_some_iff_getElem.1 h
    have : (l.any fun u => sameL u.data.toList s.data.toList) = true := List.any_eq_true.2 ⟨_, List.getElem_mem hk, h2⟩
    rw [this]
    simp
set_option maxRecDepth 100000 in
set_option maxHeartbeats 2000000 in
theorem indexO_any (s : ByteArray) (bb : Nat) (v : Value) (l : List ByteArray) (w : World) (hr : IsRow w 1 v l.length (sVals l)) (hl : l.length ≤ 1000000) (hn : ∀ u ∈ l, u.size ≤ 1000000) (hs : s.size ≤ 1000000) (hb : w.cell? ⟨bb, 0, none⟩ = some (.string s)) (hU : UT w) :
    Calls Tryz.prog 114 #[v, ofV bb] w fun e w' => e = .returned (.int .i64 (ixO s l)) ∧ Below w.heap.size w w' := by
  obtain ⟨a0, cap0, rfl⟩ := hr.form
  have HR : Hid (IsRow w 1 (.slice a0 l.length cap0) l.length (sVals l)) := hr
  have hlt : bb < w.heap.size := by
    rcases Nat.lt_or_ge bb w.heap.size with h | h
    · exact h
    · simp [World.cell?, Array.getElem?_eq_none h] at hb
  have HT : Hid (∀ (k : Nat) (hk : k < l.length) w', Below w.heap.size w w' → Calls Tryz.prog 87 #[.string l[k], .pointer (some ⟨bb, 0, none⟩)] w' fun e w'' => e = .returned (.bool (sameL l[k].data.toList s.data.toList)) ∧ Below w'.heap.size w' w'') := fun k hk w' h => of1_any _ s bb w' ((h.cell (p := ⟨bb, 0, none⟩) hlt).trans hb) (hn _ (List.getElem_mem hk)) hs (Utf8Tabs_below hU h)
  clear hr hb hn hU hlt
  go_enter Tryz.func114, Tryz.ntmps114
  go_wp2_with fail
  go_loopw [4, 5, 8] (fun r _ i wr => r = .int .i64 0 ∧ ∃ k : Nat, k ≤ l.length ∧ i = .int .i64 (k : Int) ∧ Hid (∀ (j : Nat) (h : j < l.length), j < k → sameL l[j].data.toList s.data.toList = false) ∧ Hid (Below w.heap.size w wr)) (fun _ _ i _ => l.length - (intOf i).toNat)
  case atStart => exact ⟨rfl, 0, Nat.zero_le _, rfl, fun j h hj => absurd hj (Nat.not_lt_zero _), Below.refl _ _⟩
  case round =>
    obtain ⟨rfl, k, hk, rfl, HO, HB⟩ := hrel
    by_cases hlk : k < l.length
    · have dk : decide ((k : Int) < l.length) = true := by simp; omega
      obtain ⟨b, off, rfl, -, hlt, hcap, hc⟩ := s_at (HR.out.below HB.out) (by omega)
      have y0 := hc k hlk
      have HTk : Hid (Calls Tryz.prog 87 #[.string l[k], .pointer (some ⟨bb, 0, none⟩)] wr fun e w'' => e = .returned (.bool (sameL l[k].data.toList s.data.toList)) ∧ Below wr.heap.size wr w'') := HT.out k hlk wr HB.out
      have HF : Hid (sameL l[k].data.toList s.data.toList = true → ixO s l = (k : Int)) := fun h => ixO_at hlk HO.out h
      have HO2 : Hid (sameL l[k].data.toList s.data.toList = false → ∀ (j : Nat) (h : j < l.length), j < k + 1 → sameL l[j].data.toList s.data.toList = false) := fun h0 j h hj => by
        by_cases e : j = k
        · subst e; exact h0
        · exact HO.out j h (by omega)
      have i1 : (0 : Int) ≤ (k : Int) := by omega
      have i2 : (k : Int) < (l.length : Int) := by omega
      generalize sameL l[k].data.toList s.data.toList = bo at *
      generalize l[k]'hlk = x at *
      clear hc HO HT HR
      go_wp2_with fail
      refine HTk.out.mono ?_
      rintro e w5 ⟨rfl, hb5⟩
      have HB5 : Hid (Below w.heap.size w w5) := HB.out.trans (hb5.mono HB.out.size)
      clear hb5 HTk HB y0
      cases bo with
      | true =>
        have HX : Hid (ixO s l = (k : Int)) := HF.out rfl
        clear HF HO2
        go_wp2
        go_ret
        exact ⟨by rw [HX.out]; rfl, HB5.out⟩
      | false =>
        have HO3 : Hid (∀ (j : Nat) (h : j < l.length), j < k + 1 → sameL l[j].data.toList s.data.toList = false) := HO2.out rfl
        clear HF HO2
        go_wp2
        go_roundw
        case rel => exact ⟨rfl, k + 1, by omega, by simp, HO3, HB5⟩
        case measure => simp [intOf]; omega
    · have dk : decide ((k : Int) < l.length) = false := by simp; omega
      have HX : Hid (ixO s l = -1) := ixO_none fun j h => HO.out j h (by omega)
      clear HO HT HR
      go_wp2
      go_ret
      exact ⟨by rw [HX.out]; rfl, HB.out⟩
set_option maxRecDepth 100000 in
theorem contO_any (s : ByteArray) (bb : Nat) (v : Value) (l : List ByteArray) (w : World) (hr : IsRow w 1 v l.length (sVals l)) (hl : l.length ≤ 1000000) (hn : ∀ u ∈ l, u.size ≤ 1000000) (hs : s.size ≤ 1000000) (hb : w.cell? ⟨bb, 0, none⟩ = some (.string s)) (hU : UT w) :
    Calls Tryz.prog 86 #[v, ofV bb] w fun e w' => e = .returned (.bool (l.any fun u => sameL u.data.toList s.data.toList)) ∧ Below w.heap.size w w' := by
  obtain ⟨a0, cap0, rfl⟩ := hr.form
  have HC : Hid (Calls Tryz.prog 114 #[.slice a0 l.length cap0, ofV bb] w fun e w' => e = .returned (.int .i64 (ixO s l)) ∧ Below w.heap.size w w') := indexO_any s bb _ l w hr hl hn hs hb hU
  have he := ixO_any s l
  rw [← he]
  clear he
  generalize ixO s l = X at *
  clear hr hn hb hU
  go_enter Tryz.func86, Tryz.ntmps86
  go_wp2_with fail
  refine HC.out.mono ?_
  rintro e w1 ⟨rfl, hb1⟩
  have HB : Hid (Below w.heap.size w w1) := hb1
  clear hb1 HC
  go_wp2
  go_ret
  exact ⟨rfl, HB.out⟩
set_option maxRecDepth 100000 in
theorem of_any (x : LT) (s : ByteArray) (w : World) (hr : IsTy w x.t x.vo x.va x.vc) (hl : x.t.ch.length ≤ 1000000) (hn : ∀ u ∈ x.t.ch, u.size ≤ 1000000) (hs : s.size ≤ 1000000) (hU : UT w) :
    Calls Tryz.prog 43 #[ltV x, .string s] w fun e w' => e = .returned (.bool (ofB x.t s)) ∧ Below w.heap.size w w' := by
  have HB : Hid (Below w.heap.size w ((w.alloc (.cells (tyA x.t x.vo x.va x.vc) 30)).alloc (.cells #[.string s] 9))) := (al_b w _).trans ((al_b _ _).mono (by simp))
  have HC : Hid (Calls Tryz.prog 86 #[x.vc, ofV (w.heap.size + 1)] ((w.alloc (.cells (tyA x.t x.vo x.va x.vc) 30)).alloc (.cells #[.string s] 9)) fun e w' => e = .returned (.bool (ofB x.t s)) ∧ Below ((w.alloc (.cells (tyA x.t x.vo x.va x.vc) 30)).alloc (.cells #[.string s] 9)).heap.size ((w.alloc (.cells (tyA x.t x.vo x.va x.vc) 30)).alloc (.cells #[.string s] 9)) w') := contO_any s _ _ x.t.ch _ (hr.2.2.below HB.out) hl hn hs (by simp) (Utf8Tabs_below hU HB.out)
  generalize ofB x.t s = C at *
  clear hr hn hU
  go_enter Tryz.func43, Tryz.ntmps43
  go_wp2_with fail
  refine HC.out.mono ?_
  rintro e w1 ⟨rfl, hb1⟩
  have HB1 : Hid (Below w.heap.size w w1) := HB.out.trans (hb1.mono HB.out.size)
  clear hb1 HC HB
  go_wp2
  go_ret
  exact ⟨rfl, HB1.out⟩
end Go.Proofs.YtkcnkjaeidbjbaaGreatDoor
/- slices.Grow of nothing, slices.Concat of two rows of names: walks. -/
namespace Go.Proofs.YtkcnkjaeidbjbaaGreatDoor
open Go.RowKit Go.ChangeMaps

set_option maxRecDepth 100000 in
set_option maxHeartbeats 1000000 in
theorem growS_nil (n : Nat) (w : World) (hn : n ≤ 1000) :
    Calls Tryz.prog 91 #[.slice none 0 0, .int .i64 (n : Int)] w fun e w' => ClS [] w e w' := by
  obtain ⟨i0, hi0, hz0, hz1, hz2⟩ := info_parts info_st
  by_cases h0 : n = 0
  · subst h0
    go_enter Tryz.func91, Tryz.ntmps91
    go_wp2
    go_ret
    exact ⟨_, rfl, ⟨rfl, .inl ⟨rfl, rfl⟩⟩, Below.refl _ _⟩
  · have hr : ∀ ty, (Builtin.append_ #[28, 3] ty #[.slice none 0 0, .int .i64 (n : Int)]).run Tryz.prog w = .ok (.slice (some ⟨w.heap.size, 0, none⟩) n (grownCap w n 0 9)) (w.drew.alloc (.cells (Builtin.zeroCells (#[.string ⟨#[]⟩] : Array Value) n ++ Builtin.zeroCells #[.string ⟨#[]⟩] (grownCap w n 0 9 - n)) 9)) := fun ty =>
      Lib.run_append_nil_zeros w 28 3 ty 9 i0 _ .i64 .i64 Tryz.underlying28 Tryz.underlying3 hi0 hz0 n (by omega) (by omega) (by omega) (by rw [hz2]; omega)
    have hG := grownCap_ge w n 0 9
    have hG2 := grownCap_le_maxLen w n 0 9 (by unfold maxLen; omega)
    generalize grownCap w n 0 9 = G at *
    have HO : Hid (ClS [] w (.returned (.slice (some ⟨w.heap.size, 0, none⟩) 0 G)) (w.drew.alloc (.cells (Builtin.zeroCells (#[.string ⟨#[]⟩] : Array Value) n ++ Builtin.zeroCells #[.string ⟨#[]⟩] (G - n)) 9))) := by
      refine ⟨_, rfl, ⟨rfl, .inr ⟨w.heap.size, G, _, rfl, Nat.le_refl _, new_at w.drew _, Nat.zero_le _, hG2, ?_, rfl⟩⟩, ?_⟩
      · rw [Array.size_append, zc_size, zc_size]
        show n * 1 + (G - n) * 1 = G * 1
        omega
      · exact ((Below.refl _ _).drew).alloc (Nat.le_refl _) _
    have hG3 : G ≤ 9223372036854775807 := by unfold maxLen at hG2; omega
    have d0 : ¬ ((n : Int) < 0) := by omega
    have d1 : (0 : Int) < (n : Int) := by omega
    generalize (w.drew.alloc (.cells (Builtin.zeroCells (#[.string ⟨#[]⟩] : Array Value) n ++ Builtin.zeroCells #[.string ⟨#[]⟩] (G - n)) 9)) = W at *
    go_enter Tryz.func91, Tryz.ntmps91
    go_wp2_with (at_builtin; refine Lib.wpList_append_run _ rfl _ _ _ _ rfl _ _ rfl rfl _ _ (hr _) ?_)
    go_wp2
    go_ret
    exact HO.out
def preS (a b : List ByteArray) (k : Nat) : List ByteArray := if k = 0 then [] else if k = 1 then a else a ++ b
set_option maxRecDepth 100000 in
set_option maxHeartbeats 2000000 in
theorem concatS_any (B : Nat) (v u : Value) (a b : List ByteArray) (w : World) (hr : IsRow w 1 v a.length (sVals a)) (hq : IsRow w 1 u b.length (sVals b)) (c0 : w.cell? ⟨B, 0, none⟩ = some v) (c1 : w.cell? ⟨B, 1, none⟩ = some u) (ha : a.length ≤ 100) (hb : b.length ≤ 100) :
    Calls Tryz.prog 45 #[.slice (some ⟨B, 0, none⟩) 2 2] w fun e w' => ClS (a ++ b) w e w' := by
  have hB : B < w.heap.size := World.block_lt_of_cell? _ _ c0
  obtain ⟨a0, cap0, rfl⟩ := hr.form
  obtain ⟨a1, cap1, rfl⟩ := hq.form
  have HA : Hid (∀ W, Below w.heap.size w W → (W.cell? ⟨B, 0, none⟩ = some (.slice a0 a.length cap0) ∧ W.cell? ⟨B, 1, none⟩ = some (.slice a1 b.length cap1)) ∧ IsRow W 1 (.slice a0 a.length cap0) a.length (sVals a) ∧ IsRow W 1 (.slice a1 b.length cap1) b.length (sVals b)) := fun W h => ⟨⟨(h.cell (p := ⟨B, 0, none⟩) hB).trans c0, (h.cell (p := ⟨B, 1, none⟩) hB).trans c1⟩, hr.below h, hq.below h⟩
  clear hr hq
  go_enter Tryz.func45, Tryz.ntmps45
  go_wp2_with fail
  go_loopw [3, 11] (fun s i wr => ∃ k : Nat, k ≤ 2 ∧ i = .int .i64 (k : Int) ∧ s = .int .i64 ((preS a b k).length : Int) ∧ w = wr) (fun _ i _ => 2 - (intOf i).toNat)
  case atStart => exact ⟨0, by omega, rfl, rfl, rfl⟩
  case round =>
    obtain ⟨k, hk, rfl, rfl, rfl⟩ := hrel
    obtain rfl | rfl | rfl : k = 0 ∨ k = 1 ∨ k = 2 := by omega
    · have e0 : (preS a b 0).length = 0 := rfl
      have e1 : Hid ((preS a b 1).length = a.length) := rfl
      have nn : ¬ ((a.length : Int) < 0) := by omega
      rw [e0]
      clear e0
      go_wp2
      go_roundw
      case rel => exact ⟨1, by omega, rfl, by rw [e1.out], trivial⟩
      case measure => simp [intOf]
    · have e0 : (preS a b 1).length = a.length := rfl
      have e1 : Hid ((preS a b 2).length = a.length + b.length) := by
        show (a ++ b).length = _
        exact List.length_append
      have nn : ¬ ((a.length : Int) + (b.length : Int) < 0) := by omega
      have wz : IntKind.i64.wrap ((a.length : Int) + (b.length : Int)) = (a.length : Int) + (b.length : Int) := by
        rw [IntKind.wrap_i64]; omega
      rw [e0]
      clear e0
      go_wp2
      go_roundw
      case rel => exact ⟨2, by omega, rfl, by rw [e1.out]; simp, trivial⟩
      case measure => simp [intOf]
    · have e0 : (preS a b 2).length = a.length + b.length := by
        show (a ++ b).length = _
        exact List.length_append
      have HG : Hid (Calls Tryz.prog 91 #[.slice none 0 0, .int .i64 ((preS a b 2).length : Int)] w fun e w' => ClS [] w e w') := growS_nil _ w (by rw [e0]; omega)
      clear e0
      generalize (preS a b 2).length = n at *
      go_wp2_with fail
      refine HG.out.mono ?_
      rintro e w1 ⟨v1, rfl, ho1, hb1⟩
      have HO1 : Hid (w1.ownsRow w.heap.size 9 1 v1 (preS a b 0).length (sVals (preS a b 0))) := ho1
      have HB1 : Hid (Below w.heap.size w w1) := hb1
      clear ho1 hb1 HG
      go_wp2_with fail
      go_loopw [6, 27] (fun s i wr => ∃ k : Nat, k ≤ 2 ∧ i = .int .i64 (k : Int) ∧ Hid (wr.ownsRow w.heap.size 9 1 s (preS a b k).length (sVals (preS a b k))) ∧ Hid (Below w.heap.size w wr)) (fun _ i _ => 2 - (intOf i).toNat)
      case atStart => exact ⟨0, by omega, rfl, HO1, HB1⟩
      case round =>
        clear HO1 HB1 c0 c1
        obtain ⟨k, hk, rfl, HO, HB⟩ := hrel
        obtain ⟨⟨c0, c1⟩, r0, r1⟩ := HA.out wr HB.out
        have HR0 : Hid (IsRow wr 1 (.slice a0 a.length cap0) a.length (sVals a)) := r0
        have HR1 : Hid (IsRow wr 1 (.slice a1 b.length cap1) b.length (sVals b)) := r1
        have hsz := HB.out.size
        clear r0 r1
        obtain rfl | rfl | rfl : k = 0 ∨ k = 1 ∨ k = 2 := by omega
        · go_wp2_with (at_builtin; go_loud (refine wpl_sts wr rfl (.tmp 31) (.tmp 32) rfl w.heap.size u6 (.slice a0 a.length cap0) [] a rfl rfl HO.out HR0.out (by simp; omega) hsz ?_; intro v4 w4 hown4 hb4))
          have HO4 : Hid (w4.ownsRow w.heap.size 9 1 v4 (preS a b 1).length (sVals (preS a b 1))) := hown4
          have HB4 : Hid (Below w.heap.size w w4) := HB.out.trans hb4
          clear hown4 hb4 HO HR0 HR1
          go_wp2
          go_roundw
          case rel => exact ⟨1, by omega, rfl, HO4, HB4⟩
          case measure => simp [intOf]
        · go_wp2_with (at_builtin; go_loud (refine wpl_sts wr rfl (.tmp 31) (.tmp 32) rfl w.heap.size u6 (.slice a1 b.length cap1) a b rfl rfl HO.out HR1.out (by omega) hsz ?_; intro v4 w4 hown4 hb4))
          have HO4 : Hid (w4.ownsRow w.heap.size 9 1 v4 (preS a b 2).length (sVals (preS a b 2))) := hown4
          have HB4 : Hid (Below w.heap.size w w4) := HB.out.trans hb4
          clear hown4 hb4 HO HR0 HR1
          go_wp2
          go_roundw
          case rel => exact ⟨2, by omega, rfl, HO4, HB4⟩
          case measure => simp [intOf]
        · clear HR0 HR1
          go_wp2
          go_ret
          exact ⟨_, rfl, HO.out, HB.out⟩
end Go.Proofs.YtkcnkjaeidbjbaaGreatDoor
/- What is made can be added: plain mathematics of forests. -/
namespace Go.Proofs.YtkcnkjaeidbjbaaGreatDoor
open Go.RowKit

/-- All names of a chain are names, none the same as another one. -/
theorem clm_full : ∀ (ch : List ByteArray) (b : List (List UInt8)), b.length + ch.length ≤ (clm b ch).length ↔ (∀ s ∈ ch, checkL s.data.toList = 0) ∧ (ch.map fun s => foldL s.data.toList).Nodup ∧ ∀ s ∈ ch, ¬ foldL s.data.toList ∈ b
  | [], b => by simp [clm]
  | s :: r, b => by
    rw [clm]
    split
    · rename_i h
      have ih := clm_full r (b ++ [foldL s.data.toList])
      rw [List.length_append, List.length_singleton] at ih
      rw [List.length_cons, show b.length + (r.length + 1) = b.length + 1 + r.length by omega, ih, List.map_cons, List.nodup_cons]
      constructor
      · rintro ⟨h1, h2, h3⟩
        refine ⟨?_, ⟨?_, h2⟩, ?_⟩
        · intro x hx
          rcases List.mem_cons.1 hx with rfl | hx
          · exact h.1
          · exact h1 x hx
        · intro hm
          obtain ⟨x, hx, e⟩ := List.mem_map.1 hm
          exact h3 x hx (by rw [e]; simp)
        · intro x hx
          rcases List.mem_cons.1 hx with rfl | hx
          · exact h.2
          · intro hb; exact h3 x hx (by simp [hb])
      · rintro ⟨h1, ⟨h2, h3⟩, h4⟩
        refine ⟨fun x hx => h1 x (by simp [hx]), h3, fun x hx hm => ?_⟩
        rcases List.mem_append.1 hm with hm | hm
        · exact h4 x (by simp [hx]) hm
        · have := List.mem_singleton.1 hm
          exact h2 (List.mem_map.2 ⟨x, hx, this⟩)
    · rename_i h
      constructor
      · intro hl; rw [List.length_cons] at hl; omega
      · rintro ⟨h1, h2, h3⟩
        exact absurd ⟨h1 s (by simp), h3 s (by simp)⟩ h
theorem chain_iff (ch : List ByteArray) : ch.length ≤ (clm [] ch).length ↔ (∀ s ∈ ch, checkL s.data.toList = 0) ∧ (ch.map fun s => foldL s.data.toList).Nodup := by
  have := clm_full ch []
  simpa using this
theorem chkT_iff (t : Ty) : chkT t = true ↔ 1 ≤ t.ch.length ∧ t.ch.length ≤ 8 ∧ t.ch[0]? = some t.n ∧ ((∀ s ∈ t.ch, checkL s.data.toList = 0) ∧ (t.ch.map fun s => foldL s.data.toList).Nodup) ∧ chkR t = true := by
  unfold chkT
  simp only [Bool.and_eq_true, decide_eq_true_eq, chain_iff]
theorem chkT_zT : chkT zT = false := by
  cases h : chkT zT
  · rfl
  · have := ((chkT_iff _).1 h).1
    simp [zT] at this
theorem checkL_nil : checkL [] ≠ 0 := by decide
theorem chkT_name {t : Ty} (h : chkT t = true) : checkL t.n.data.toList = 0 := by
  obtain ⟨h1, h2, h3, ⟨h4, -⟩, -⟩ := (chkT_iff t).1 h
  exact h4 _ (List.mem_of_getElem? h3)
theorem size_name {s : ByteArray} (h : checkL s.data.toList = 0) : s.size ≠ 0 := by
  intro e
  have : s.data.toList = [] := List.eq_nil_of_length_eq_zero (by simpa using e)
  rw [this] at h
  exact checkL_nil h
theorem sameR_self (l : List Fd) : sameR l l = true := (sameR_iff l l).2 rfl
theorem root_chk {s : ByteArray} {own : List Fd} {a b c : Int} {t : Ty} (h : rootR s own a b c = (t, 0)) : t = ⟨s, ⟨#[]⟩, own, own, [s], a, b, c⟩ ∧ chkT t = true := by
  unfold rootR at h
  split at h
  · rename_i hc
    split at h
    · rename_i hk
      obtain rfl := (Prod.mk.inj h).1
      rw [Bool.and_eq_true] at hk
      refine ⟨rfl, (chkT_iff _).2 ⟨by simp, by simp, rfl, ⟨by simpa using hc, by simp⟩, ?_⟩⟩
      unfold chkR
      simp only [hk.1, hk.2, sameR_self, List.length_singleton, if_true, Bool.true_and, Bool.and_true]
      rfl
    · have := (Prod.mk.inj h).2
      cases this
  · rename_i hc
    exact absurd (Prod.mk.inj h).2 hc
theorem bel_chk {o : Ty} {s : ByteArray} {own : List Fd} {a b c : Int} {t : Ty} (h : belR o s own a b c = (t, 0)) : t = ⟨s, o.n, own, (mgL o.all own).1, s :: o.ch, a, b, c⟩ ∧ chkT t = true ∧ belB t o = true ∧ t.p.size ≠ 0 := by
  unfold belR at h
  split at h
  · rename_i hc
    split at h
    · rename_i hk
      rw [Bool.and_eq_true, Bool.and_eq_true] at hk
      split at h
      · exact absurd (Prod.mk.inj h).2 (by decide)
      · rename_i hof
        split at h
        · exact absurd (Prod.mk.inj h).2 (by decide)
        · rename_i h8
          split at h
          · rename_i hm
            obtain rfl := (Prod.mk.inj h).1
            obtain ⟨g1, g2, g3, ⟨g4, g5⟩, -⟩ := (chkT_iff o).1 hk.1
            refine ⟨rfl, (chkT_iff _).2 ⟨by simp, by simp only [List.length_cons]; omega, rfl, ⟨?_, ?_⟩, ?_⟩, ?_, size_name (chkT_name hk.1)⟩
            · intro x hx
              rcases List.mem_cons.1 hx with rfl | hx
              · exact hc
              · exact g4 x hx
            · rw [List.map_cons, List.nodup_cons]
              refine ⟨fun hmem => hof ?_, g5⟩
              obtain ⟨x, hx, e⟩ := List.mem_map.1 hmem
              exact List.any_eq_true.2 ⟨x, hx, by unfold sameL; exact decide_eq_true e⟩
            · unfold chkR
              have e1 : ¬ (s :: o.ch).length = 1 := by simp only [List.length_cons]; omega
              have e2 : (s :: o.ch)[1]? = some o.n := by simpa using g3
              simp only [if_neg e1, e2, hk.2.1, hk.2.2, mgL_chk hm, (mgL_within hm).2, decide_true, Bool.and_self]
            · unfold belB
              simp only [hm, sameR_self, sameS, List.tail_cons, decide_true, Bool.and_self]
          · rename_i hm
            exact absurd (Prod.mk.inj h).2 hm
    · exact absurd (Prod.mk.inj h).2 (by decide)
  · rename_i hc
    exact absurd (Prod.mk.inj h).2 hc
theorem isB_iff (l : List Ty) : isB l = true ↔ l.length ≤ 200 ∧ (∀ t ∈ l, chkT t = true) ∧ Rise l ∧ ∀ t ∈ l, parB l t = true := by
  unfold isB
  simp only [Bool.and_eq_true, decide_eq_true_eq, List.all_eq_true, riseB_iff]
theorem parN_mem {l : List Ty} (hr : Rise l) {o : Ty} (ho : o ∈ l) {s : ByteArray} (h : nmC o s = 0) : parN l s = some o := by
  obtain ⟨k, hk, rfl⟩ := List.mem_iff_getElem.1 ho
  exact (par_at hr hk h).2
theorem parN_some {l : List Ty} {o : Ty} {s : ByteArray} (h : parN l s = some o) : o ∈ l ∧ nmC o s = 0 := by
  unfold parN at h
  have h1 := List.find?_some h
  exact ⟨List.mem_of_find?_eq_some h, sameL_iff.1 h1⟩
/-- What can be added to a forest. -/
def CanAdd (l : List Ty) (t : Ty) : Prop := chkT t = true ∧ parN l t.n = none ∧ (t.p.size = 0 ∨ ∃ o, parN l t.p = some o ∧ belB t o = true)
theorem make_can {l : List Ty} {s p : ByteArray} {own : List Fd} {a b c : Int} {t : Ty} (h : mkR l s p own a b c = (t, 0)) : isB l = true ∧ t.n = s ∧ CanAdd l t := by
  unfold mkR at h
  split at h
  · rename_i hi
    obtain ⟨i1, i2, i3, i4⟩ := (isB_iff l).1 hi
    split at h
    · split at h
      · exact absurd (Prod.mk.inj h).2 (by decide)
      · rename_i hp
        have hpn : parN l s = none := by simpa using hp
        split at h
        · obtain ⟨rfl, hc⟩ := root_chk h
          exact ⟨hi, rfl, hc, hpn, .inl rfl⟩
        · split at h
          · exact absurd (Prod.mk.inj h).2 (by decide)
          · rename_i o ho
            obtain ⟨rfl, hc, hb, -⟩ := bel_chk h
            have hom := (parN_some ho).1
            exact ⟨hi, rfl, hc, hpn, .inr ⟨o, parN_mem i3 hom (cmpL_irr _), hb⟩⟩
    · rename_i hc
      exact absurd (Prod.mk.inj h).2 hc
  · exact absurd (Prod.mk.inj h).2 (by decide)
theorem insT_mem {l : List Ty} {k : Nat} {t x : Ty} : x ∈ insT l k t ↔ x = t ∨ x ∈ l := by
  unfold insT
  rw [List.mem_append, List.mem_cons]
  have h2 := List.take_append_drop k l
  constructor
  · rintro (h | h | h)
    · exact .inr (List.mem_of_mem_take h)
    · exact .inl h
    · exact .inr (List.mem_of_mem_drop h)
  · rintro (h | h)
    · exact .inr (.inl h)
    · rw [← h2] at h
      rcases List.mem_append.1 h with h | h
      · exact .inl h
      · exact .inr (.inr h)
theorem insT_len {l : List Ty} {k : Nat} {t : Ty} (hk : k ≤ l.length) : (insT l k t).length = l.length + 1 := by
  unfold insT
  rw [List.length_append, List.length_cons, List.length_take, List.length_drop]
  omega
theorem insT_rise {l : List Ty} {t : Ty} (hr : Rise l) (hn : parN l t.n = none) : Rise (insT l (plcN l t.n) t) := by
  have hne : ∀ x ∈ l, nmC x t.n ≠ 0 := fun x hx h => by
    have := parN_mem hr hx h
    rw [hn] at this
    cases this
  have hsplit := List.take_append_drop (plcN l t.n) l
  have hr2 : (l.take (plcN l t.n) ++ l.drop (plcN l t.n)).Pairwise fun t u => nmC t u.n < 0 := by rw [hsplit]; exact hr
  obtain ⟨p1, p2, p3⟩ := List.pairwise_append.1 hr2
  have hlo : ∀ x ∈ l.take (plcN l t.n), nmC x t.n < 0 := fun x hx => by
    obtain ⟨i, hi, rfl⟩ := List.mem_iff_getElem.1 hx
    rw [List.length_take] at hi
    rw [List.getElem_take]
    exact plc_lt (by omega) (by omega)
  have hhi : ∀ x ∈ l.drop (plcN l t.n), nmC t x.n < 0 := fun x hx => by
    obtain ⟨i, hi, rfl⟩ := List.mem_iff_getElem.1 hx
    rw [List.length_drop] at hi
    rw [List.getElem_drop]
    have h0 := plc_ge l t.n (by omega)
    have h1 : ¬ nmC (l[plcN l t.n + i]'(by omega)) t.n < 0 := fun hlt => h0 (rise_mono hr (Nat.le_add_right _ i) (by omega) hlt)
    have h2 := hne _ (List.getElem_mem (by omega : plcN l t.n + i < l.length))
    unfold nmC at *
    rw [cmpL_anti]
    omega
  unfold Rise insT
  rw [List.pairwise_append]
  refine ⟨p1, List.pairwise_cons.2 ⟨hhi, p2⟩, fun x hx y hy => ?_⟩
  rcases List.mem_cons.1 hy with rfl | hy
  · exact hlo x hx
  · exact p3 x hx y hy
theorem parN_ins {l : List Ty} {t : Ty} (hr : Rise l) (hn : parN l t.n = none) {s : ByteArray} {o : Ty} (h : parN l s = some o) : parN (insT l (plcN l t.n) t) s = some o := by
  obtain ⟨h1, h2⟩ := parN_some h
  exact parN_mem (insT_rise hr hn) (insT_mem.2 (.inr h1)) h2
theorem parB_ins {l : List Ty} {t : Ty} (hr : Rise l) (hn : parN l t.n = none) {u : Ty} (h : parB l u = true) : parB (insT l (plcN l t.n) t) u = true := by
  unfold parB at *
  rw [Bool.or_eq_true] at *
  rcases h with h | h
  · exact .inl h
  · refine .inr ?_
    cases hp : parN l u.p with
    | none => rw [hp] at h; cases h
    | some o => rw [parN_ins hr hn hp]; rw [hp] at h; exact h
/-- WHAT CAN BE ADDED IS ADDED, and a forest stays one. -/
theorem add_can {l : List Ty} {t : Ty} (hi : isB l = true) (hc : CanAdd l t) (hl : l.length < 200) : addR l t = (insT l (plcN l t.n) t, 0) ∧ isB (insT l (plcN l t.n) t) = true ∧ (insT l (plcN l t.n) t).length = l.length + 1 ∧ parN (insT l (plcN l t.n) t) t.n = some t := by
  obtain ⟨i1, i2, i3, i4⟩ := (isB_iff l).1 hi
  obtain ⟨c1, c2, c3⟩ := hc
  refine ⟨?_, (isB_iff _).2 ⟨?_, ?_, insT_rise i3 c2, ?_⟩, insT_len (plcN_le _ _), parN_mem (insT_rise i3 c2) (insT_mem.2 (.inl rfl)) (cmpL_irr _)⟩
  · unfold addR
    rw [hi, c1, Bool.and_self, if_pos rfl, c2, if_neg (by simp), if_neg (by omega)]
    rcases c3 with h | ⟨o, h1, h2⟩
    · rw [if_pos h]
    · by_cases hp : t.p.size = 0
      · rw [if_pos hp]
      · rw [if_neg hp, h1]
        simp only [h2, if_true]
  · rw [insT_len (plcN_le _ _)]; omega
  · intro x hx
    rcases insT_mem.1 hx with rfl | hx
    · exact c1
    · exact i2 x hx
  · intro x hx
    rcases insT_mem.1 hx with rfl | hx
    · unfold parB
      rw [Bool.or_eq_true]
      rcases c3 with h | ⟨o, h1, h2⟩
      · exact .inl (decide_eq_true h)
      · rw [parN_ins i3 c2 h1]
        exact .inr h2
    · exact parB_ins i3 c2 (i4 x hx)
/-- Where none is made it is none. -/
theorem root_bad {s : ByteArray} {own : List Fd} {a b c : Int} (h : (rootR s own a b c).2 ≠ 0) : (rootR s own a b c).1 = zT := by
  unfold rootR at *
  split
  · split
    · rename_i h1 h2
      rw [if_pos h1, if_pos h2] at h
      exact absurd rfl h
    · rfl
  · rfl
theorem bel_bad {o : Ty} {s : ByteArray} {own : List Fd} {a b c : Int} (h : (belR o s own a b c).2 ≠ 0) : (belR o s own a b c).1 = zT := by
  unfold belR at *
  split
  · split
    · split
      · rfl
      · split
        · rfl
        · split
          · rename_i h1 h2 h3 h4 h5
            rw [if_pos h1, if_pos h2, if_neg h3, if_neg h4, if_pos h5] at h
            exact absurd rfl h
          · rfl
    · rfl
  · rfl
theorem make_bad {l : List Ty} {s p : ByteArray} {own : List Fd} {a b c : Int} (h : (mkR l s p own a b c).2 ≠ 0) : (mkR l s p own a b c).1 = zT := by
  unfold mkR at *
  split
  · split
    · split
      · rfl
      · split
        · rename_i h1 h2 h3 h4
          rw [if_pos h1, if_pos h2, if_neg h3, if_pos h4] at h
          exact root_bad h
        · rename_i h1 h2 h3 h4
          rw [if_pos h1, if_pos h2, if_neg h3, if_neg h4] at h
          split
          · rfl
          · rename_i o ho
            rw [ho] at h
            exact bel_bad h
    · rfl
  · rfl
end Go.Proofs.YtkcnkjaeidbjbaaGreatDoor
