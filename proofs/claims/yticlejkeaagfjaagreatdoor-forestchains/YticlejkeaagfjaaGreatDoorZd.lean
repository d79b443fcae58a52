/- slices.Clone, slices.Grow of nothing, slices.Concat of two, at fields: walks. -/
import Derived.Test.YticlejkeaagfjaaGreatDoorZc
import Derived.Lib.AppendZeros
import Derived.Maps.AppendAt
namespace Go.Proofs.YticlejkeaagfjaaGreatDoor
open Go.RowKit Go.ChangeMaps

theorem run_app0S {P : Program} (w : World) (t ty e : TypeId) (i : TypeInfo) (ht : P.underlying t = some (.slice e)) (hi : P.info? e = some i) (a : Option Addr) (n c : Nat) (hc : n ≤ c) (xa : Option Addr) (xc : Nat) :
    (Builtin.append_ #[t, t] ty #[.slice a n c, .slice xa 0 xc]).run P w = .ok (.slice a n c) w := by
  have hs : (sizeOf e).run P w = .ok i.size w := by simp [sizeOf, typeInfo, hi, Sem.run_bind]
  cases xa <;> cases a <;> simp [Builtin.append_, run_underlying ht, hs, Builtin.lenOf, Builtin.firstCells, loadCells, loadCellsFrom, storeCells, Result.andThen, hc]
theorem grown_reflS (w : World) (r : Option Nat) : w.grownBy w r := ⟨rfl, rfl, rfl, Nat.le_refl _, fun _ _ _ => rfl⟩
theorem oneF_cell (l : List Fd) : ∀ u ∈ fCells l, u.oneCell' = true := by
  intro u hu
  obtain ⟨x, -, hx⟩ := List.mem_flatMap.1 hu
  simp only [enF, List.mem_cons, List.not_mem_nil, or_false] at hx
  rcases hx with rfl | rfl | rfl <;> rfl
theorem fCells_app (a b : List Fd) : fCells (a ++ b) = fCells a ++ fCells b := by simp [fCells]
/-- A row of fields is appended to one that is owned. -/
theorem wpl_fds (w : World) {ops : Array Oper} {rest : List Oper} {o : Oper} {a : Act} {Q : Exit → Act → World → Prop} (hgd : o.guard = none) (s x : Operand)
    (ho : o.op = .call { callee := .builtin .append, args := #[s, x], argTypes := #[24, 24] })
    (base : Nat) (v xv : Value) (l news : List Fd) (hs : a.eval s = v) (hx : a.eval x = xv) (h : w.ownsRow base 93 3 v l.length (fCells l)) (hr : IsRow w 3 xv news.length (fCells news)) (hl : l.length + news.length ≤ 1000000) (hbase : base ≤ w.heap.size)
    (hk : ∀ v' w', w'.ownsRow base 93 3 v' (l ++ news).length (fCells (l ++ news)) → Below base w w' → wpList Tryz.prog ops Q rest (a.put o.dst v') w') : wpList Tryz.prog ops Q (o :: rest) a w := by
  obtain ⟨i0, hi0, hz0, hz1, hz2⟩ := info_parts info_fd
  rcases hr.2 with ⟨h0, xa, xc, rfl⟩ | ⟨b, off, cap, rfl, hb, hc, hm, hcell⟩
  · refine wpList_plain hgd fun K hK => ?_
    have hn : news = [] := List.eq_nil_of_length_eq_zero h0
    subst hn
    have hv : ∃ va vc, v = .slice va l.length vc ∧ l.length ≤ vc := by
      rcases h.2 with ⟨rfl, h1⟩ | ⟨g, cap, cur, rfl, _, _, hlc, _⟩
      · rw [h1]; exact ⟨none, 0, rfl, Nat.le_refl _⟩
      · exact ⟨_, cap, rfl, hlc⟩
    obtain ⟨va, vc, rfl, hvc⟩ := hv
    have hrun := run_app0S (P := Tryz.prog) w 24 o.type 93 i0 Tryz.underlying24 hi0 va l.length vc hvc xa xc
    unfold Oper.wp execOp
    simp only [ho, resolve, invoke, builtin, Sem.run_bind, Sem.run_pure, Result.andThen_ok, List.map_toArray, List.map_cons, List.map_nil, hs, hx, hrun]
    exact hK _ _ (hk _ w (by rw [List.append_nil]; exact h) (Below.refl _ _))
  · refine wpList_append_own_at w hgd s x 24 ho base 93 i0 _ 3 32 Tryz.underlying24 hi0 hz0 hz1 hz2 rfl (by decide) v l.length (fCells l) hs h ⟨b, off, none⟩ news.length cap (fCells news) hx (fCells_len _) (fun j u hu => ?_) (oneF_cell _) (by unfold maxLen; omega) (by omega) hbase fun v' w' h1 h2 _ h4 => hk v' w' ?_ ?_
    · have hadd : (⟨b, off, none⟩ : Addr).add j = ⟨b, off + j, none⟩ := by unfold Addr.add; split <;> simp_all
      rw [hadd]; exact hcell j u hu
    · rw [List.length_append, fCells_app]; exact h1
    · exact (Below.refl _ _).grown h2 hbase (fun k hk => (h.lt k hk).1)
def ClF (l : List Fd) (w : World) (e : Ending) (w' : World) : Prop := ∃ v, e = .returned v ∧ w'.ownsRow w.heap.size 93 3 v l.length (fCells l) ∧ Below w.heap.size w w'
set_option maxRecDepth 100000 in
set_option maxHeartbeats 1000000 in
theorem cloneF_any (v : Value) (l : List Fd) (w : World) (hr : IsRow w 3 v l.length (fCells l)) (hl : l.length ≤ 1000) :
    Calls Tryz.prog 67 #[v] w fun e w' => ClF l w e w' := by
  obtain ⟨a0, cap0, rfl⟩ := hr.form
  cases a0 with
  | none =>
    have hn : l.length = 0 := by
      rcases hr.2 with ⟨h, -⟩ | ⟨b, off, cap, hv, -⟩
      · exact h
      · cases hv
    obtain rfl : l = [] := List.eq_nil_of_length_eq_zero hn
    have heq : ∀ w, (binOp BinOp.eql 24 (.slice none 0 cap0) (.slice none 0 0)).run Tryz.prog w = .ok (.bool true) w := fun w => by kernel_rfl
    clear hr hn
    go_enter Tryz.func67, Tryz.ntmps67
    go_wp2
    go_ret
    exact ⟨_, rfl, ⟨rfl, .inl ⟨rfl, rfl⟩⟩, Below.refl _ _⟩
  | some a =>
    have HW : Hid ((w.alloc (.cells #[] 93)).ownsRow w.heap.size 93 3 (.slice (some ⟨w.heap.size, 0, none⟩) 0 0) ([] : List Fd).length (fCells [])) := ⟨rfl, .inr ⟨w.heap.size, 0, #[], rfl, Nat.le_refl _, new_at w _, Nat.le_refl _, Nat.zero_le _, rfl, rfl⟩⟩
    have HB : Hid (Below w.heap.size w (w.alloc (.cells #[] 93))) := al_b w _
    have HR : Hid (IsRow (w.alloc (.cells #[] 93)) 3 (.slice (some a) l.length cap0) l.length (fCells l)) := hr.below (al_b w _)
    have heq : ∀ w, (binOp BinOp.eql 24 (.slice (some a) l.length cap0) (.slice none 0 0)).run Tryz.prog w = .ok (.bool false) w := fun w => by kernel_rfl
    clear hr
    go_enter Tryz.func67, Tryz.ntmps67
    go_wp2_with (at_builtin; go_loud (refine wpl_fds (w.alloc (.cells #[] 93)) rfl (.tmp 5) (.tmp 6) rfl w.heap.size (.slice (some ⟨w.heap.size, 0, none⟩) 0 0) (.slice (some a) l.length cap0) [] l rfl rfl HW.out HR.out (by simp; omega) (by simp) ?_; intro v4 w4 hown4 hb4))
    rw [List.nil_append] at hown4
    have HO : Hid (w4.ownsRow w.heap.size 93 3 v4 l.length (fCells l)) := hown4
    have HB4 : Hid (Below w.heap.size w w4) := HB.out.trans hb4
    clear hown4 hb4 HW HR
    go_wp2
    go_ret
    exact ⟨_, rfl, HO.out, HB4.out⟩
theorem zc_size (z : Array Value) (n : Nat) : (Builtin.zeroCells z n).size = n * z.size := by
  induction n with
  | zero => simp [Builtin.zeroCells]
  | succ n ih => simp_all [Builtin.zeroCells]
set_option maxRecDepth 100000 in
set_option maxHeartbeats 1000000 in
theorem growF_nil (n : Nat) (w : World) (hn : n ≤ 1000) :
    Calls Tryz.prog 130 #[.slice none 0 0, .int .i64 (n : Int)] w fun e w' => ClF [] w e w' := by
  obtain ⟨i0, hi0, hz0, hz1, hz2⟩ := info_parts info_fd
  by_cases h0 : n = 0
  · subst h0
    go_enter Tryz.func130, Tryz.ntmps130
    go_wp2
    go_ret
    exact ⟨_, rfl, ⟨rfl, .inl ⟨rfl, rfl⟩⟩, Below.refl _ _⟩
  · have hr : ∀ ty, (Builtin.append_ #[24, 3] ty #[.slice none 0 0, .int .i64 (n : Int)]).run Tryz.prog w = .ok (.slice (some ⟨w.heap.size, 0, none⟩) n (grownCap w n 0 93)) (w.drew.alloc (.cells (Builtin.zeroCells (#[.string ⟨#[]⟩, .int .i64 0, .bool false] : Array Value) n ++ Builtin.zeroCells #[.string ⟨#[]⟩, .int .i64 0, .bool false] (grownCap w n 0 93 - n)) 93)) := fun ty =>
      Lib.run_append_nil_zeros w 24 3 ty 93 i0 _ .i64 .i64 Tryz.underlying24 Tryz.underlying3 hi0 hz0 n (by omega) (by omega) (by omega) (by rw [hz2]; omega)
    have hG := grownCap_ge w n 0 93
    have hG2 := grownCap_le_maxLen w n 0 93 (by unfold maxLen; omega)
    generalize grownCap w n 0 93 = G at *
    have HO : Hid (ClF [] w (.returned (.slice (some ⟨w.heap.size, 0, none⟩) 0 G)) (w.drew.alloc (.cells (Builtin.zeroCells (#[.string ⟨#[]⟩, .int .i64 0, .bool false] : Array Value) n ++ Builtin.zeroCells #[.string ⟨#[]⟩, .int .i64 0, .bool false] (G - n)) 93))) := by
      refine ⟨_, rfl, ⟨rfl, .inr ⟨w.heap.size, G, _, rfl, Nat.le_refl _, new_at w.drew _, Nat.zero_le _, hG2, ?_, rfl⟩⟩, ?_⟩
      · rw [Array.size_append, zc_size, zc_size]
        show n * 3 + (G - n) * 3 = G * 3
        omega
      · exact ((Below.refl _ _).drew).alloc (Nat.le_refl _) _
    have hG3 : G ≤ 9223372036854775807 := by unfold maxLen at hG2; omega
    have d0 : ¬ ((n : Int) < 0) := by omega
    have d1 : (0 : Int) < (n : Int) := by omega
    generalize (w.drew.alloc (.cells (Builtin.zeroCells (#[.string ⟨#[]⟩, .int .i64 0, .bool false] : Array Value) n ++ Builtin.zeroCells #[.string ⟨#[]⟩, .int .i64 0, .bool false] (G - n)) 93)) = W at *
    go_enter Tryz.func130, Tryz.ntmps130
    go_wp2_with (at_builtin; refine Lib.wpList_append_run _ rfl _ _ _ _ rfl _ _ rfl rfl _ _ (hr _) ?_)
    go_wp2
    go_ret
    exact HO.out
end Go.Proofs.YticlejkeaagfjaaGreatDoor
/- slices.Concat of two rows of fields: its walk. -/
namespace Go.Proofs.YticlejkeaagfjaaGreatDoor
open Go.RowKit Go.ChangeMaps

def pre2 (a b : List Fd) (k : Nat) : List Fd := if k = 0 then [] else if k = 1 then a else a ++ b
set_option maxRecDepth 100000 in
set_option maxHeartbeats 2000000 in
theorem concatF_any (B : Nat) (v u : Value) (a b : List Fd) (w : World) (hr : IsRow w 3 v a.length (fCells a)) (hq : IsRow w 3 u b.length (fCells b)) (c0 : w.cell? ⟨B, 0, none⟩ = some v) (c1 : w.cell? ⟨B, 1, none⟩ = some u) (ha : a.length ≤ 100) (hb : b.length ≤ 100) :
    Calls Tryz.prog 107 #[.slice (some ⟨B, 0, none⟩) 2 2] w fun e w' => ClF (a ++ b) w e w' := by
  have hB : B < w.heap.size := World.block_lt_of_cell? _ _ c0
  obtain ⟨a0, cap0, rfl⟩ := hr.form
  obtain ⟨a1, cap1, rfl⟩ := hq.form
  have HA : Hid (∀ W, Below w.heap.size w W → (W.cell? ⟨B, 0, none⟩ = some (.slice a0 a.length cap0) ∧ W.cell? ⟨B, 1, none⟩ = some (.slice a1 b.length cap1)) ∧ IsRow W 3 (.slice a0 a.length cap0) a.length (fCells a) ∧ IsRow W 3 (.slice a1 b.length cap1) b.length (fCells b)) := fun W h => ⟨⟨(h.cell (p := ⟨B, 0, none⟩) hB).trans c0, (h.cell (p := ⟨B, 1, none⟩) hB).trans c1⟩, hr.below h, hq.below h⟩
  clear hr hq
  go_enter Tryz.func107, Tryz.ntmps107
  go_wp2_with fail
  go_loopw [3, 11] (fun s i wr => ∃ k : Nat, k ≤ 2 ∧ i = .int .i64 (k : Int) ∧ s = .int .i64 ((pre2 a b k).length : Int) ∧ w = wr) (fun _ i _ => 2 - (intOf i).toNat)
  case atStart => exact ⟨0, by omega, rfl, rfl, rfl⟩
  case round =>
    obtain ⟨k, hk, rfl, rfl, rfl⟩ := hrel
    obtain rfl | rfl | rfl : k = 0 ∨ k = 1 ∨ k = 2 := by omega
    · have e0 : (pre2 a b 0).length = 0 := rfl
      have e1 : Hid ((pre2 a b 1).length = a.length) := rfl
      have nn : ¬ ((a.length : Int) < 0) := by omega
      rw [e0]
      clear e0
      go_wp2
      go_roundw
      case rel => exact ⟨1, by omega, rfl, by rw [e1.out], trivial⟩
      case measure => simp [intOf]
    · have e0 : (pre2 a b 1).length = a.length := rfl
      have e1 : Hid ((pre2 a b 2).length = a.length + b.length) := by
        show (a ++ b).length = _
        exact List.length_append
      have nn : ¬ ((a.length : Int) + (b.length : Int) < 0) := by omega
      have wz : IntKind.i64.wrap ((a.length : Int) + (b.length : Int)) = (a.length : Int) + (b.length : Int) := by
        rw [IntKind.wrap_i64]; omega
      rw [e0]
      clear e0
      go_wp2
      go_roundw
      case rel => exact ⟨2, by omega, rfl, by rw [e1.out]; simp, trivial⟩
      case measure => simp [intOf]
    · have e0 : (pre2 a b 2).length = a.length + b.length := by
        show (a ++ b).length = _
        exact List.length_append
      have HG : Hid (Calls Tryz.prog 130 #[.slice none 0 0, .int .i64 ((pre2 a b 2).length : Int)] w fun e w' => ClF [] w e w') := growF_nil _ w (by rw [e0]; omega)
      clear e0
      generalize (pre2 a b 2).length = n at *
      go_wp2_with fail
      refine HG.out.mono ?_
      rintro e w1 ⟨v1, rfl, ho1, hb1⟩
      have HO1 : Hid (w1.ownsRow w.heap.size 93 3 v1 (pre2 a b 0).length (fCells (pre2 a b 0))) := ho1
      have HB1 : Hid (Below w.heap.size w w1) := hb1
      clear ho1 hb1 HG
      go_wp2_with fail
      go_loopw [6, 27] (fun s i wr => ∃ k : Nat, k ≤ 2 ∧ i = .int .i64 (k : Int) ∧ Hid (wr.ownsRow w.heap.size 93 3 s (pre2 a b k).length (fCells (pre2 a b k))) ∧ Hid (Below w.heap.size w wr)) (fun _ i _ => 2 - (intOf i).toNat)
      case atStart => exact ⟨0, by omega, rfl, HO1, HB1⟩
      case round =>
        clear HO1 HB1 c0 c1
        obtain ⟨k, hk, rfl, HO, HB⟩ := hrel
        obtain ⟨⟨c0, c1⟩, r0, r1⟩ := HA.out wr HB.out
        have HR0 : Hid (IsRow wr 3 (.slice a0 a.length cap0) a.length (fCells a)) := r0
        have HR1 : Hid (IsRow wr 3 (.slice a1 b.length cap1) b.length (fCells b)) := r1
        have hsz := HB.out.size
        clear r0 r1
        obtain rfl | rfl | rfl : k = 0 ∨ k = 1 ∨ k = 2 := by omega
        · go_wp2_with (at_builtin; go_loud (refine wpl_fds wr rfl (.tmp 31) (.tmp 32) rfl w.heap.size u6 (.slice a0 a.length cap0) [] a rfl rfl HO.out HR0.out (by simp; omega) hsz ?_; intro v4 w4 hown4 hb4))
          have HO4 : Hid (w4.ownsRow w.heap.size 93 3 v4 (pre2 a b 1).length (fCells (pre2 a b 1))) := hown4
          have HB4 : Hid (Below w.heap.size w w4) := HB.out.trans hb4
          clear hown4 hb4 HO HR0 HR1
          go_wp2
          go_roundw
          case rel => exact ⟨1, by omega, rfl, HO4, HB4⟩
          case measure => simp [intOf]
        · go_wp2_with (at_builtin; go_loud (refine wpl_fds wr rfl (.tmp 31) (.tmp 32) rfl w.heap.size u6 (.slice a1 b.length cap1) a b rfl rfl HO.out HR1.out (by omega) hsz ?_; intro v4 w4 hown4 hb4))
          have HO4 : Hid (w4.ownsRow w.heap.size 93 3 v4 (pre2 a b 2).length (fCells (pre2 a b 2))) := hown4
          have HB4 : Hid (Below w.heap.size w w4) := HB.out.trans hb4
          clear hown4 hb4 HO HR0 HR1
          go_wp2
          go_roundw
          case rel => exact ⟨2, by omega, rfl, HO4, HB4⟩
          case measure => simp [intOf]
        · clear HR0 HR1
          go_wp2
          go_ret
          exact ⟨_, rfl, HO.out, HB.out⟩
end Go.Proofs.YticlejkeaagfjaaGreatDoor
