/- quic.takeItem: an item of a kind at the front of bytes. -/
import Derived.Test.YtfbhalkiilbcoaaGreatDoorT
import Derived.Test.YtfbhalkiilbcoaaGreatDoorU2
namespace Go.Proofs.YtfbhalkiilbcoaaGreatDoor.Q
open Go.RowKit

def tN (s : ByteArray) (k : Int) : Int := if k = 1 then getV s else if k = 2 then wof (getV s) else if k = 3 then tfV s else 0
def tS (s : ByteArray) (k : Int) : ByteArray := if k = 4 then ttS s else ⟨#[]⟩
def tR (s : ByteArray) (k : Int) : ByteArray := if k = 1 then getRest s else if k = 2 then getRest s else if k = 3 then tfR s else ttR s
def tE (s : ByteArray) (k : Int) : Int := if k = 1 then getE s else if k = 2 then getE s else if k = 3 then tfE s else ttE s

theorem set_cells1 {w : World} {b : Nat} {x y z u : Value} (hc : ∀ j, w.cell? ⟨b, j, none⟩ = #[x, y, z][j]?) : ∀ j, (w.setCell ⟨b, 1, none⟩ u).cell? ⟨b, j, none⟩ = #[x, u, z][j]? := by
  intro j
  by_cases h1 : j = 1
  · subst h1
    rw [World.cell?_setCell_same _ _ _ (u := y) (by simp [hc])]
    rfl
  · rw [World.cell?_setCell_other _ _ _ _ (fun e => h1 (congrArg Addr.off e).symm), hc]
    match j, h1 with
    | 0, _ => rfl
    | 2, _ => rfl
    | j + 3, _ => simp

set_option maxRecDepth 100000 in
set_option maxHeartbeats 1000000 in
theorem takeItem_1 (s : ByteArray) (w : World) (hs : s.size ≤ 140737488355328) :
    Calls Tryz.prog 77 #[.string s, .int .i64 1] w fun e w' => e = .returned (.tuple #[.agg #[.int .i64 1, .int .i64 (getV s), .string ⟨#[]⟩], .string (getRest s), .int .i64 (getE s)]) ∧ Below w.heap.size w w' := by
  go_enter Tryz.func77, Tryz.ntmps77
  go_wp2_with fail
  refine (get_any _ _ hs).mono ?_
  rintro e w1 ⟨rfl, hb1⟩
  obtain ⟨hc, hf, hbl, hz⟩ := part_cells0 hb1
  clear hb1
  go_wp2
  refine bodyPost_ret (v := .tuple #[.agg #[.int .i64 1, .int .i64 (getV s), .string ⟨#[]⟩], .string (getRest s), .int .i64 (getE s)]) (by simp [results, Tryz.results77, go_sem, hc]) rfl ⟨rfl, ?_⟩
  repeat (first | exact hbl | refine Below.setCell ?_ (by exact Nat.le_refl _) _)

set_option maxRecDepth 100000 in
set_option maxHeartbeats 1000000 in
theorem takeItem_2 (s : ByteArray) (w : World) (hs : s.size ≤ 140737488355328) :
    Calls Tryz.prog 77 #[.string s, .int .i64 2] w fun e w' => e = .returned (.tuple #[.agg #[.int .i64 2, .int .i64 (wof (getV s)), .string ⟨#[]⟩], .string (getRest s), .int .i64 (getE s)]) ∧ Below w.heap.size w w' := by
  go_enter Tryz.func77, Tryz.ntmps77
  go_wp2_with fail
  refine (get_any _ _ hs).mono ?_
  rintro e w1 ⟨rfl, hb1⟩
  obtain ⟨hc, hf, hbl, hz⟩ := part_cells0 hb1
  clear hb1
  go_wp2_with fail
  refine (wholeOf_any _ _ (getV_nn s).1 (getV_nn s).2).mono ?_
  rintro e w2 ⟨rfl, hw2⟩
  have hc2 : ∀ j, w2.cell? ⟨w.heap.size, j, none⟩ = #[Value.int .i64 2, .int .i64 (getV s), .string ⟨#[]⟩][j]? := by subst hw2; exact set_cells1 hc
  have hf2 : ∀ j, w2.frozen? ⟨w.heap.size, j, none⟩ = false := by subst hw2; intro j; simpa using hf j
  have hbl2 : Below w.heap.size w w2 := by subst hw2; exact hbl.setCell (by exact Nat.le_refl _) _
  have hz2 : w.heap.size < w2.heap.size := by subst hw2; simpa using hz
  clear hw2 hc hf hbl hz
  go_wp2
  refine bodyPost_ret (v := .tuple #[.agg #[.int .i64 2, .int .i64 (wof (getV s)), .string ⟨#[]⟩], .string (getRest s), .int .i64 (getE s)]) (by simp [results, Tryz.results77, go_sem, hc2]) rfl ⟨rfl, ?_⟩
  repeat (first | exact hbl2 | refine Below.setCell ?_ (by exact Nat.le_refl _) _)

set_option maxRecDepth 100000 in
set_option maxHeartbeats 1000000 in
theorem takeItem_3 (s : ByteArray) (w : World) (hs : s.size ≤ 140737488355328) :
    Calls Tryz.prog 77 #[.string s, .int .i64 3] w fun e w' => e = .returned (.tuple #[.agg #[.int .i64 3, .int .i64 (tfV s), .string ⟨#[]⟩], .string (tfR s), .int .i64 (tfE s)]) ∧ Below w.heap.size w w' := by
  go_enter Tryz.func77, Tryz.ntmps77
  go_wp2_with fail
  refine (takeFlag_any _ _ hs).mono ?_
  rintro e w1 ⟨rfl, hb1⟩
  obtain ⟨hc, hf, hbl, hz⟩ := part_cells0 hb1
  clear hb1
  go_wp2
  refine bodyPost_ret (v := .tuple #[.agg #[.int .i64 3, .int .i64 (tfV s), .string ⟨#[]⟩], .string (tfR s), .int .i64 (tfE s)]) (by simp [results, Tryz.results77, go_sem, hc]) rfl ⟨rfl, ?_⟩
  repeat (first | exact hbl | refine Below.setCell ?_ (by exact Nat.le_refl _) _)

set_option maxRecDepth 100000 in
set_option maxHeartbeats 1000000 in
theorem takeItem_4 (s : ByteArray) (w : World) (hs : s.size ≤ 140737488355328) :
    Calls Tryz.prog 77 #[.string s, .int .i64 4] w fun e w' => e = .returned (.tuple #[.agg #[.int .i64 4, .int .i64 0, .string (ttS s)], .string (ttR s), .int .i64 (ttE s)]) ∧ Below w.heap.size w w' := by
  go_enter Tryz.func77, Tryz.ntmps77
  go_wp2_with fail
  refine (takeText_any _ _ hs).mono ?_
  rintro e w1 ⟨rfl, hb1⟩
  obtain ⟨hc, hf, hbl, hz⟩ := part_cells0 hb1
  clear hb1
  go_wp2
  refine bodyPost_ret (v := .tuple #[.agg #[.int .i64 4, .int .i64 0, .string (ttS s)], .string (ttR s), .int .i64 (ttE s)]) (by simp [results, Tryz.results77, go_sem, hc]) rfl ⟨rfl, ?_⟩
  repeat (first | exact hbl | refine Below.setCell ?_ (by exact Nat.le_refl _) _)

/-- quic.takeItem, of each kind. -/
theorem takeItem_any (s : ByteArray) (k : Int) (w : World) (hs : s.size ≤ 140737488355328) (h1 : 1 ≤ k) (h4 : k ≤ 4) :
    Calls Tryz.prog 77 #[.string s, .int .i64 k] w fun e w' => e = .returned (.tuple #[.agg #[.int .i64 k, .int .i64 (tN s k), .string (tS s k)], .string (tR s k), .int .i64 (tE s k)]) ∧ Below w.heap.size w w' := by
  obtain rfl | rfl | rfl | rfl : k = 1 ∨ k = 2 ∨ k = 3 ∨ k = 4 := by omega
  · exact takeItem_1 s w hs
  · exact takeItem_2 s w hs
  · exact takeItem_3 s w hs
  · exact takeItem_4 s w hs
end Go.Proofs.YtfbhalkiilbcoaaGreatDoor.Q
