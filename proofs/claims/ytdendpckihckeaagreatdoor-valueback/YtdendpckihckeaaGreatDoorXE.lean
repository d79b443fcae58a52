/- strings.Builder's WriteRune of any rune: its walk. -/
import Derived.Test.YtdendpckihckeaaGreatDoorVI
import Derived.Test.YtdendpckihckeaaGreatDoorXB
import Derived.Test.YtdendpckihckeaaGreatDoorWShelf
namespace Go.Proofs.YtdendpckihckeaaGreatDoor
open Go.RowKit

theorem encRune_is {c : Nat} (hs : scal c) : Lib.encodeRune (c : Int) = enc c := by
  by_cases h1 : c < 128
  · rw [enc1 h1, Lib.encodeRune, Lib.encodeRuneZ_one (by omega) (by omega)]; simp
  by_cases h2 : c < 2048
  · rw [enc2 (by omega) h2, Lib.encodeRune, Lib.encodeRuneZ_two (by omega) (by omega)]
    simp only [List.map_cons, List.map_nil]
    congr 1
  by_cases h3 : c < 65536
  · rw [enc3 (by omega) h3 hs, Lib.encodeRune, Lib.encodeRuneZ_three (by unfold scal at hs; omega)]
    simp only [List.map_cons, List.map_nil]
    congr 1
  · rw [enc4 (by omega) hs, Lib.encodeRune, Lib.encodeRuneZ_four (by omega) (by unfold scal at hs; omega)]
    simp only [List.map_cons, List.map_nil]
    congr 1
theorem cells_rune {c : Nat} (hs : scal c) : Lib.runeCells (c : Int) = Lib.byteCells (enc c) := by rw [← Lib.byteCells_encodeRune, encRune_is hs]
theorem appendRune_any (B : Nat) (v : Value) (n : Nat) (xs : List Value) (c : Nat) (w : World) (hs : scal c) (hown : w.ownsRowF B 5 1 v n xs) (hlen : n + 4 ≤ 140737488355328) (hBw : B ≤ w.heap.size) :
    Calls Tryz.prog 89 #[v, .int .i32 (c : Int)] w fun e w' => ArPost B (xs ++ Lib.byteCells (enc c)) w e w' := by
  have hc : c ≤ 1114111 := by unfold scal at hs; omega
  have hxl : xs.length = n := by have := hown.1; omega
  refine (Tryz.utf8_AppendRune_row B v n xs c (by omega) (by omega) w hown hlen hBw).mono ?_
  rintro e w' ⟨v', rfl, ho, o, hg⟩
  rw [cells_rune hs] at ho
  refine ⟨v', rfl, ?_, ((Below.refl _ _).alloc hBw _).grown hg (by simp; omega) (fun k hk => (hown.lt k hk).1), ((Lib.OthersKept.refl _ _ _).alloc _).grown hg (fun g hg' => by obtain ⟨c, fz, h⟩ := rowF_cells hown g hg'; exact ⟨c, fz, by rw [Lib.alloc_old w _ g (Array.getElem?_eq_some_iff.1 h).1]; exact h⟩)⟩
  rw [List.length_append, hxl]
  exact ho
set_option maxRecDepth 100000 in
set_option maxHeartbeats 2000000 in
theorem writeRune_any (B b : Nat) (bs : List Value) (c : Nat) (w : World) (hsc : scal c) (h : IsB B b bs w) (hlen : bs.length + 4 ≤ 140737488355328) (hBw : B ≤ w.heap.size) :
    Calls Tryz.prog 56 #[.pointer (some ⟨b, 0, none⟩), .int .i32 (c : Int)] w fun e w' => e = .returned (.tuple #[.int .i64 (enc c).length, .nilIface]) ∧ IsB B b (bs ++ Lib.byteCells (enc c)) w' ∧ Below B w w' ∧ Lib.OthersKept 5 (some b) w w' := by
  have HA : Hid (∀ v W, W.ownsRowF B 5 1 v bs.length bs → B ≤ W.heap.size → Calls Tryz.prog 89 #[v, .int .i32 (c : Int)] W fun e w' => ArPost B (bs ++ Lib.byteCells (enc c)) W e w') := fun v W ho hB => appendRune_any B v bs.length bs c W hsc ho hlen hB
  have hel := enc_len4 c
  have hel1 := enc_len c
  have hll : (bs ++ Lib.byteCells (enc c)).length = bs.length + (enc c).length := by rw [List.length_append, Lib.byteCells_length]
  generalize hX : Lib.byteCells (enc c) = X at *
  generalize hm : (enc c).length = m at *
  clear hX hm
  go_enter Tryz.func56, Tryz.ntmps56
  go_wp2_with (go_at_call 88; refine (copyCheck_any B b bs _ h).mono ?_)
  rintro e w1 ⟨rfl, h1, hb1, ok1⟩
  obtain ⟨hB, v, hbk, hown, hne⟩ := h1
  have c0 : w1.cell? ⟨b, 0, none⟩ = some (.pointer (some ⟨b, 0, none⟩)) := by rw [Lib.cell_of_heap hbk]; rfl
  have c1 : w1.cell? ⟨b, 1, none⟩ = some v := by rw [Lib.cell_of_heap hbk]; rfl
  obtain ⟨ao, cap, rfl⟩ : ∃ ao cap, v = .slice ao bs.length cap := by
    rcases hown.2 with ⟨hv, h0⟩ | ⟨g, cap, cur, fz, hv, _⟩
    · exact ⟨none, 0, by rw [h0]; exact hv⟩
    · exact ⟨_, _, hv⟩
  have hs1 := hb1.size
  go_wp2_with fail
  refine (HA.out _ _ hown (by omega)).mono ?_
  rintro e w2 ⟨v', rfl, hown', hb2, ok2⟩
  rw [hll] at hown'
  have hb2k : w2.heap[b]? = some (.cells #[.pointer (some ⟨b, 0, none⟩), .slice ao bs.length cap] 87 (0, 0)) := ok2 b _ hbk (by simp) (fun c fz e => by cases e)
  have d0 : w2.cell? ⟨b, 0, none⟩ = some (.pointer (some ⟨b, 0, none⟩)) := by rw [Lib.cell_of_heap hb2k]; rfl
  have d1 : w2.cell? ⟨b, 1, none⟩ = some (.slice ao bs.length cap) := by rw [Lib.cell_of_heap hb2k]; rfl
  have f1 : w2.frozen? ⟨b, 1, none⟩ = false := Lib.frozen_of_heap hb2k 1
  obtain ⟨g, cap', rfl⟩ : ∃ g cap', v' = .slice (some ⟨g, 0, none⟩) (bs.length + m) cap' := by
    rcases hown'.2 with ⟨_, h0⟩ | ⟨g, cap, cur, fz, hv, _⟩
    · omega
    · exact ⟨g, cap, hv⟩
  have HR : Hid (IsB B b (bs ++ X) (w2.setCell ⟨b, 1, none⟩ (.slice (some ⟨g, 0, none⟩) (bs.length + m) cap')) ∧ Below B w (w2.setCell ⟨b, 1, none⟩ (.slice (some ⟨g, 0, none⟩) (bs.length + m) cap')) ∧ Lib.OthersKept 5 (some b) w (w2.setCell ⟨b, 1, none⟩ (.slice (some ⟨g, 0, none⟩) (bs.length + m) cap'))) := by
    refine ⟨.inr (Lib.BuilderAtF.put (T := 87) (e := 5) hB hb2k (by rw [hll]; exact hown') (by decide)), (hb1.trans hb2).setCell (p := ⟨b, 1, none⟩) hB _, Lib.OthersKept.setCell (b := b) (ok1.trans (fun k o hk _ ho => ok2 k o hk (by simp) ho)) ⟨b, 1, none⟩ rfl _⟩
  clear hown' hown hb2 ok2 hbk hne HA hll
  go_wp2
  go_ret2
  refine ⟨by simp; omega, HR.out.1, HR.out.2.1, HR.out.2.2⟩
end Go.Proofs.YtdendpckihckeaaGreatDoor
