/- slices.Concat of two rows of fields: its walk. -/
import Derived.Test.YtfbnlkgopncejaaGreatDoorSnC
namespace Go.Proofs.YtfbnlkgopncejaaGreatDoor
open Go.RowKit Go.ChangeMaps

def pre2 (a b : List Fd) (k : Nat) : List Fd := if k = 0 then [] else if k = 1 then a else a ++ b
set_option maxRecDepth 100000 in
set_option maxHeartbeats 2000000 in
theorem concatF_any (B : Nat) (v u : Value) (a b : List Fd) (w : World) (hr : IsRow w 3 v a.length (fCells a)) (hq : IsRow w 3 u b.length (fCells b)) (c0 : w.cell? ⟨B, 0, none⟩ = some v) (c1 : w.cell? ⟨B, 1, none⟩ = some u) (ha : a.length ≤ 100) (hb : b.length ≤ 100) :
    Calls Tryz.prog 27 #[.slice (some ⟨B, 0, none⟩) 2 2] w fun e w' => ClF (a ++ b) w e w' := by
  have hB : B < w.heap.size := World.block_lt_of_cell? _ _ c0
  obtain ⟨a0, cap0, rfl⟩ := hr.form
  obtain ⟨a1, cap1, rfl⟩ := hq.form
  have HA : Hid (∀ W, Below w.heap.size w W → (W.cell? ⟨B, 0, none⟩ = some (.slice a0 a.length cap0) ∧ W.cell? ⟨B, 1, none⟩ = some (.slice a1 b.length cap1)) ∧ IsRow W 3 (.slice a0 a.length cap0) a.length (fCells a) ∧ IsRow W 3 (.slice a1 b.length cap1) b.length (fCells b)) := fun W h => ⟨⟨(h.cell (p := ⟨B, 0, none⟩) hB).trans c0, (h.cell (p := ⟨B, 1, none⟩) hB).trans c1⟩, hr.below h, hq.below h⟩
  clear hr hq
  go_enter Tryz.func27, Tryz.ntmps27
  go_wp2_with fail
  go_loopw [3, 11] (fun s i wr => ∃ k : Nat, k ≤ 2 ∧ i = .int .i64 (k : Int) ∧ s = .int .i64 ((pre2 a b k).length : Int) ∧ w = wr) (fun _ i _ => 2 - (intOf i).toNat)
  case atStart => exact ⟨0, by omega, rfl, rfl, rfl⟩
  case round =>
    obtain ⟨k, hk, rfl, rfl, rfl⟩ := hrel
    obtain rfl | rfl | rfl : k = 0 ∨ k = 1 ∨ k = 2 := by omega
    · have e0 : (pre2 a b 0).length = 0 := rfl
      have e1 : Hid ((pre2 a b 1).length = a.length) := rfl
      have nn : ¬ ((a.length : Int) < 0) := by omega
      rw [e0]
      clear e0
      go_wp2
      go_roundw
      case rel => exact ⟨1, by omega, rfl, by rw [e1.out], trivial⟩
      case measure => simp [intOf]
    · have e0 : (pre2 a b 1).length = a.length := rfl
      have e1 : Hid ((pre2 a b 2).length = a.length + b.length) := by
        show (a ++ b).length = _
        exact List.length_append
      have nn : ¬ ((a.length : Int) + (b.length : Int) < 0) := by omega
      have wz : IntKind.i64.wrap ((a.length : Int) + (b.length : Int)) = (a.length : Int) + (b.length : Int) := by
        rw [IntKind.wrap_i64]; omega
      rw [e0]
      clear e0
      go_wp2
      go_roundw
      case rel => exact ⟨2, by omega, rfl, by rw [e1.out]; simp, trivial⟩
      case measure => simp [intOf]
    · have e0 : (pre2 a b 2).length = a.length + b.length := by
        show (a ++ b).length = _
        exact List.length_append
      have HG : Hid (Calls Tryz.prog 43 #[.slice none 0 0, .int .i64 ((pre2 a b 2).length : Int)] w fun e w' => ClF [] w e w') := growF_nil _ w (by rw [e0]; omega)
      clear e0
      generalize (pre2 a b 2).length = n at *
      go_wp2_with fail
      refine HG.out.mono ?_
      rintro e w1 ⟨v1, rfl, ho1, hb1⟩
      have HO1 : Hid (w1.ownsRow w.heap.size 35 3 v1 (pre2 a b 0).length (fCells (pre2 a b 0))) := ho1
      have HB1 : Hid (Below w.heap.size w w1) := hb1
      clear ho1 hb1 HG
      go_wp2_with fail
      go_loopw [6, 27] (fun s i wr => ∃ k : Nat, k ≤ 2 ∧ i = .int .i64 (k : Int) ∧ Hid (wr.ownsRow w.heap.size 35 3 s (pre2 a b k).length (fCells (pre2 a b k))) ∧ Hid (Below w.heap.size w wr)) (fun _ i _ => 2 - (intOf i).toNat)
      case atStart => exact ⟨0, by omega, rfl, HO1, HB1⟩
      case round =>
        clear HO1 HB1 c0 c1
        obtain ⟨k, hk, rfl, HO, HB⟩ := hrel
        obtain ⟨⟨c0, c1⟩, r0, r1⟩ := HA.out wr HB.out
        have HR0 : Hid (IsRow wr 3 (.slice a0 a.length cap0) a.length (fCells a)) := r0
        have HR1 : Hid (IsRow wr 3 (.slice a1 b.length cap1) b.length (fCells b)) := r1
        have hsz := HB.out.size
        clear r0 r1
        obtain rfl | rfl | rfl : k = 0 ∨ k = 1 ∨ k = 2 := by omega
        · go_wp2_with (at_builtin; go_loud (refine wpl_fds wr rfl (.tmp 31) (.tmp 32) rfl w.heap.size u6 (.slice a0 a.length cap0) [] a rfl rfl HO.out HR0.out (by simp; omega) hsz ?_; intro v4 w4 hown4 hb4))
          have HO4 : Hid (w4.ownsRow w.heap.size 35 3 v4 (pre2 a b 1).length (fCells (pre2 a b 1))) := hown4
          have HB4 : Hid (Below w.heap.size w w4) := HB.out.trans hb4
          clear hown4 hb4 HO HR0 HR1
          go_wp2
          go_roundw
          case rel => exact ⟨1, by omega, rfl, HO4, HB4⟩
          case measure => simp [intOf]
        · go_wp2_with (at_builtin; go_loud (refine wpl_fds wr rfl (.tmp 31) (.tmp 32) rfl w.heap.size u6 (.slice a1 b.length cap1) a b rfl rfl HO.out HR1.out (by omega) hsz ?_; intro v4 w4 hown4 hb4))
          have HO4 : Hid (w4.ownsRow w.heap.size 35 3 v4 (pre2 a b 2).length (fCells (pre2 a b 2))) := hown4
          have HB4 : Hid (Below w.heap.size w w4) := HB.out.trans hb4
          clear hown4 hb4 HO HR0 HR1
          go_wp2
          go_roundw
          case rel => exact ⟨2, by omega, rfl, HO4, HB4⟩
          case measure => simp [intOf]
        · clear HR0 HR1
          go_wp2
          go_ret
          exact ⟨_, rfl, HO.out, HB.out⟩
end Go.Proofs.YtfbnlkgopncejaaGreatDoor
