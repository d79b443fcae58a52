/- slices.Grow of nothing, slices.Concat of three rows of types: walks. -/
import Derived.Test.YtkcnkjaeidbjbaaGreatDoorFjA
import Derived.Test.YtkcnkjaeidbjbaaGreatDoorZs
import Derived.Test.YtkcnkjaeidbjbaaGreatDoorZg
import Derived.Lib.AppendZeros
namespace Go.Proofs.YtkcnkjaeidbjbaaGreatDoor
open Go.RowKit Go.ChangeMaps

/-- A row of types is appended to one that is owned. -/
theorem wpl_tysJ (w : World) {ops : Array Oper} {rest : List Oper} {o : Oper} {a : Act} {Q : Exit → Act → World → Prop} (hgd : o.guard = none) (s x : Operand)
    (ho : o.op = .call { callee := .builtin .append, args := #[s, x], argTypes := #[22, 22] })
    (base : Nat) (v xv : Value) (l news : List LT) (hs : a.eval s = v) (hx : a.eval x = xv) (h : w.ownsRow base 30 8 v l.length (tCells l)) (hr : IsRow w 8 xv news.length (tCells news)) (hl : l.length + news.length ≤ 1000000) (hbase : base ≤ w.heap.size)
    (hk : ∀ v' w', w'.ownsRow base 30 8 v' (l ++ news).length (tCells (l ++ news)) → Below base w w' → wpList Tryz.prog ops Q rest (a.put o.dst v') w') : wpList Tryz.prog ops Q (o :: rest) a w := by
  obtain ⟨i0, hi0, hz0, hz1, hz2⟩ := info_parts info_ty
  rcases hr.2 with ⟨h0, xa, xc, rfl⟩ | ⟨b, off, cap, rfl, hb, hc, hm, hcell⟩
  · refine wpList_plain hgd fun K hK => ?_
    have hn : news = [] := List.eq_nil_of_length_eq_zero h0
    subst hn
    have hv : ∃ va vc, v = .slice va l.length vc ∧ l.length ≤ vc := by
      rcases h.2 with ⟨rfl, h1⟩ | ⟨g, cap, cur, rfl, _, _, hlc, _⟩
      · rw [h1]; exact ⟨none, 0, rfl, Nat.le_refl _⟩
      · exact ⟨_, cap, rfl, hlc⟩
    obtain ⟨va, vc, rfl, hvc⟩ := hv
    have hrun := run_app0S (P := Tryz.prog) w 22 o.type 30 i0 Tryz.underlying22 hi0 va l.length vc hvc xa xc
    unfold Oper.wp execOp
    simp only [ho, resolve, invoke, builtin, Sem.run_bind, Sem.run_pure, Result.andThen_ok, List.map_toArray, List.map_cons, List.map_nil, hs, hx, hrun]
    exact hK _ _ (hk _ w (by rw [List.append_nil]; exact h) (Below.refl _ _))
  · refine wpList_append_own_at w hgd s x 22 ho base 30 i0 _ 8 128 Tryz.underlying22 hi0 hz0 hz1 hz2 rfl (by decide) v l.length (tCells l) hs h ⟨b, off, none⟩ news.length cap (tCells news) hx (tCells_len _) (fun j u hu => ?_) (oneTs_cell _) (by unfold maxLen; omega) (by omega) hbase fun v' w' h1 h2 _ h4 => hk v' w' ?_ ?_
    · have hadd : (⟨b, off, none⟩ : Addr).add j = ⟨b, off + j, none⟩ := by unfold Addr.add; split <;> simp_all
      rw [hadd]; exact hcell j u hu
    · rw [List.length_append, tCells_app]; exact h1
    · exact (Below.refl _ _).grown h2 hbase (fun k hk => (h.lt k hk).1)
def ClT (l : List LT) (w : World) (e : Ending) (w' : World) : Prop := ∃ v, e = .returned v ∧ w'.ownsRow w.heap.size 30 8 v l.length (tCells l) ∧ Below w.heap.size w w'
set_option maxRecDepth 100000 in
set_option maxHeartbeats 1000000 in
theorem growT_nil (n : Nat) (w : World) (hn : n ≤ 1000) :
    Calls Tryz.prog 103 #[.slice none 0 0, .int .i64 (n : Int)] w fun e w' => ClT [] w e w' := by
  obtain ⟨i0, hi0, hz0, hz1, hz2⟩ := info_parts info_ty
  by_cases h0 : n = 0
  · subst h0
    go_enter Tryz.func103, Tryz.ntmps103
    go_wp2
    go_ret
    exact ⟨_, rfl, ⟨rfl, .inl ⟨rfl, rfl⟩⟩, Below.refl _ _⟩
  · have hr : ∀ ty, (Builtin.append_ #[22, 3] ty #[.slice none 0 0, .int .i64 (n : Int)]).run Tryz.prog w = .ok (.slice (some ⟨w.heap.size, 0, none⟩) n (grownCap w n 0 30)) (w.drew.alloc (.cells (Builtin.zeroCells (zTyA : Array Value) n ++ Builtin.zeroCells zTyA (grownCap w n 0 30 - n)) 30)) := fun ty =>
      Lib.run_append_nil_zeros w 22 3 ty 30 i0 _ .i64 .i64 Tryz.underlying22 Tryz.underlying3 hi0 hz0 n (by omega) (by omega) (by omega) (by rw [hz2]; omega)
    have hG := grownCap_ge w n 0 30
    have hG2 := grownCap_le_maxLen w n 0 30 (by unfold maxLen; omega)
    generalize grownCap w n 0 30 = G at *
    have HO : Hid (ClT [] w (.returned (.slice (some ⟨w.heap.size, 0, none⟩) 0 G)) (w.drew.alloc (.cells (Builtin.zeroCells (zTyA : Array Value) n ++ Builtin.zeroCells zTyA (G - n)) 30))) := by
      refine ⟨_, rfl, ⟨rfl, .inr ⟨w.heap.size, G, _, rfl, Nat.le_refl _, new_at w.drew _, Nat.zero_le _, hG2, ?_, rfl⟩⟩, ?_⟩
      · rw [Array.size_append, zc_size, zc_size]
        show n * 8 + (G - n) * 8 = G * 8
        omega
      · exact ((Below.refl _ _).drew).alloc (Nat.le_refl _) _
    have hG3 : G ≤ 9223372036854775807 := by unfold maxLen at hG2; omega
    have d0 : ¬ ((n : Int) < 0) := by omega
    have d1 : (0 : Int) < (n : Int) := by omega
    generalize (w.drew.alloc (.cells (Builtin.zeroCells (zTyA : Array Value) n ++ Builtin.zeroCells zTyA (G - n)) 30)) = W at *
    go_enter Tryz.func103, Tryz.ntmps103
    go_wp2_with (at_builtin; refine Lib.wpList_append_run _ rfl _ _ _ _ rfl _ _ rfl rfl _ _ (hr _) ?_)
    go_wp2
    go_ret
    exact HO.out
def preT (a b c : List LT) (k : Nat) : List LT := if k = 0 then [] else if k = 1 then a else if k = 2 then a ++ b else a ++ b ++ c
set_option maxRecDepth 100000 in
set_option maxHeartbeats 2000000 in
theorem concatT_any (B : Nat) (v u z : Value) (a b c : List LT) (w : World) (hr : IsRow w 8 v a.length (tCells a)) (hq : IsRow w 8 u b.length (tCells b)) (hp : IsRow w 8 z c.length (tCells c)) (c0 : w.cell? ⟨B, 0, none⟩ = some v) (c1 : w.cell? ⟨B, 1, none⟩ = some u) (c2 : w.cell? ⟨B, 2, none⟩ = some z) (ha : a.length ≤ 300) (hb : b.length ≤ 300) (hc : c.length ≤ 300) :
    Calls Tryz.prog 63 #[.slice (some ⟨B, 0, none⟩) 3 3] w fun e w' => ClT (a ++ b ++ c) w e w' := by
  have hB : B < w.heap.size := World.block_lt_of_cell? _ _ c0
  obtain ⟨a0, cap0, rfl⟩ := hr.form
  obtain ⟨a1, cap1, rfl⟩ := hq.form
  obtain ⟨a2, cap2, rfl⟩ := hp.form
  have HA : Hid (∀ W, Below w.heap.size w W → (W.cell? ⟨B, 0, none⟩ = some (.slice a0 a.length cap0) ∧ W.cell? ⟨B, 1, none⟩ = some (.slice a1 b.length cap1) ∧ W.cell? ⟨B, 2, none⟩ = some (.slice a2 c.length cap2)) ∧ IsRow W 8 (.slice a0 a.length cap0) a.length (tCells a) ∧ IsRow W 8 (.slice a1 b.length cap1) b.length (tCells b) ∧ IsRow W 8 (.slice a2 c.length cap2) c.length (tCells c)) := fun W h => ⟨⟨(h.cell (p := ⟨B, 0, none⟩) hB).trans c0, (h.cell (p := ⟨B, 1, none⟩) hB).trans c1, (h.cell (p := ⟨B, 2, none⟩) hB).trans c2⟩, hr.below h, hq.below h, hp.below h⟩
  clear hr hq hp
  go_enter Tryz.func63, Tryz.ntmps63
  go_wp2_with fail
  go_loopw [3, 5, 11] (fun s _ i wr => ∃ k : Nat, k ≤ 3 ∧ i = .int .i64 (k : Int) ∧ s = .int .i64 ((preT a b c k).length : Int) ∧ w = wr) (fun _ _ i _ => 3 - (intOf i).toNat)
  case atStart => exact ⟨0, by omega, rfl, rfl, rfl⟩
  case round =>
    obtain ⟨k, hk, rfl, rfl, rfl⟩ := hrel
    obtain rfl | rfl | rfl | rfl : k = 0 ∨ k = 1 ∨ k = 2 ∨ k = 3 := by omega
    · have e0 : (preT a b c 0).length = 0 := rfl
      have e1 : Hid ((preT a b c 1).length = a.length) := rfl
      have nn : ¬ ((a.length : Int) < 0) := by omega
      rw [e0]
      clear e0
      go_wp2
      go_roundw
      case rel => exact ⟨1, by omega, rfl, by rw [e1.out], trivial⟩
      case measure => simp [intOf]
    · have e0 : (preT a b c 1).length = a.length := rfl
      have e1 : Hid ((preT a b c 2).length = a.length + b.length) := by
        show (a ++ b).length = _
        exact List.length_append
      have nn : ¬ ((a.length : Int) + (b.length : Int) < 0) := by omega
      have wz : IntKind.i64.wrap ((a.length : Int) + (b.length : Int)) = (a.length : Int) + (b.length : Int) := by
        rw [IntKind.wrap_i64]; omega
      rw [e0]
      clear e0
      go_wp2
      go_roundw
      case rel => exact ⟨2, by omega, rfl, by rw [e1.out]; simp, trivial⟩
      case measure => simp [intOf]
    · have e0 : (preT a b c 2).length = a.length + b.length := by
        show (a ++ b).length = _
        exact List.length_append
      have e1 : Hid ((preT a b c 3).length = a.length + b.length + c.length) := by
        show (a ++ b ++ c).length = _
        rw [List.length_append, List.length_append]
      have e2 : ((a.length + b.length : Nat) : Int) + (c.length : Int) = ((a.length + b.length + c.length : Nat) : Int) := by omega
      have nn : ¬ (((a.length + b.length : Nat) : Int) + (c.length : Int) < 0) := by omega
      have nn' : ¬ ((a.length : Int) + (b.length : Int) + (c.length : Int) < 0) := by omega
      have wz : IntKind.i64.wrap (((a.length + b.length : Nat) : Int) + (c.length : Int)) = ((a.length + b.length : Nat) : Int) + (c.length : Int) := by
        rw [IntKind.wrap_i64]; omega
      have wz' : IntKind.i64.wrap ((a.length : Int) + (b.length : Int) + (c.length : Int)) = (a.length : Int) + (b.length : Int) + (c.length : Int) := by
        rw [IntKind.wrap_i64]; omega
      rw [e0]
      clear e0
      go_wp2
      go_roundw
      case rel => exact ⟨3, by omega, rfl, by rw [e1.out]; simp, trivial⟩
      case measure => simp [intOf]
    · have e0 : (preT a b c 3).length = a.length + b.length + c.length := by
        show (a ++ b ++ c).length = _
        rw [List.length_append, List.length_append]
      have HG : Hid (Calls Tryz.prog 103 #[.slice none 0 0, .int .i64 ((preT a b c 3).length : Int)] w fun e w' => ClT [] w e w') := growT_nil _ w (by rw [e0]; omega)
      clear e0
      generalize (preT a b c 3).length = n at *
      go_wp2_with fail
      refine HG.out.mono ?_
      rintro e w1 ⟨v1, rfl, ho1, hb1⟩
      have HO1 : Hid (w1.ownsRow w.heap.size 30 8 v1 (preT a b c 0).length (tCells (preT a b c 0))) := ho1
      have HB1 : Hid (Below w.heap.size w w1) := hb1
      clear ho1 hb1 HG
      go_wp2_with fail
      go_loopw [6, 8, 27] (fun s _ i wr => ∃ k : Nat, k ≤ 3 ∧ i = .int .i64 (k : Int) ∧ Hid (wr.ownsRow w.heap.size 30 8 s (preT a b c k).length (tCells (preT a b c k))) ∧ Hid (Below w.heap.size w wr)) (fun _ _ i _ => 3 - (intOf i).toNat)
      case atStart => exact ⟨0, by omega, rfl, HO1, HB1⟩
      case round =>
        clear HO1 HB1 c0 c1 c2
        obtain ⟨k, hk, rfl, HO, HB⟩ := hrel
        obtain ⟨⟨c0, c1, c2⟩, r0, r1, r2⟩ := HA.out wr HB.out
        have HR0 : Hid (IsRow wr 8 (.slice a0 a.length cap0) a.length (tCells a)) := r0
        have HR1 : Hid (IsRow wr 8 (.slice a1 b.length cap1) b.length (tCells b)) := r1
        have HR2 : Hid (IsRow wr 8 (.slice a2 c.length cap2) c.length (tCells c)) := r2
        have hsz := HB.out.size
        clear r0 r1 r2
        obtain rfl | rfl | rfl | rfl : k = 0 ∨ k = 1 ∨ k = 2 ∨ k = 3 := by omega
        · go_wp2_with (at_builtin; go_loud (refine wpl_tysJ wr rfl (.tmp 31) (.tmp 32) rfl w.heap.size u6 (.slice a0 a.length cap0) [] a rfl rfl HO.out HR0.out (by first | omega | (simp; omega)) hsz ?_; intro v4 w4 hown4 hb4))
          have HO4 : Hid (w4.ownsRow w.heap.size 30 8 v4 (preT a b c 1).length (tCells (preT a b c 1))) := hown4
          have HB4 : Hid (Below w.heap.size w w4) := HB.out.trans hb4
          clear hown4 hb4 HO HR0 HR1 HR2
          go_wp2
          go_roundw
          case rel => exact ⟨1, by omega, rfl, HO4, HB4⟩
          case measure => simp [intOf]
        · go_wp2_with (at_builtin; go_loud (refine wpl_tysJ wr rfl (.tmp 31) (.tmp 32) rfl w.heap.size u6 (.slice a1 b.length cap1) a b rfl rfl HO.out HR1.out (by first | omega | (simp; omega)) hsz ?_; intro v4 w4 hown4 hb4))
          have HO4 : Hid (w4.ownsRow w.heap.size 30 8 v4 (preT a b c 2).length (tCells (preT a b c 2))) := hown4
          have HB4 : Hid (Below w.heap.size w w4) := HB.out.trans hb4
          clear hown4 hb4 HO HR0 HR1 HR2
          go_wp2
          go_roundw
          case rel => exact ⟨2, by omega, rfl, HO4, HB4⟩
          case measure => simp [intOf]
        · go_wp2_with (at_builtin; go_loud (refine wpl_tysJ wr rfl (.tmp 31) (.tmp 32) rfl w.heap.size u6 (.slice a2 c.length cap2) (a ++ b) c rfl rfl HO.out HR2.out (by first | omega | (simp; omega)) hsz ?_; intro v4 w4 hown4 hb4))
          have HO4 : Hid (w4.ownsRow w.heap.size 30 8 v4 (preT a b c 3).length (tCells (preT a b c 3))) := hown4
          have HB4 : Hid (Below w.heap.size w w4) := HB.out.trans hb4
          clear hown4 hb4 HO HR0 HR1 HR2
          go_wp2
          go_roundw
          case rel => exact ⟨3, by omega, rfl, HO4, HB4⟩
          case measure => simp [intOf]
        · clear HR0 HR1 HR2
          go_wp2
          go_ret
          exact ⟨_, rfl, HO.out, HB.out⟩
end Go.Proofs.YtkcnkjaeidbjbaaGreatDoor
