/- name.Parts and name.Under: walks. -/
import Derived.Test.YtncnjaplbkjgdaaDoorND
import Derived.Test.YtncnjaplbkjgdaaDoorNT
namespace Go.Proofs.YtncnjaplbkjgdaaDoor
open Go.RowKit

/-- The library's own variable holds some number. -/
def ML (w : World) : Prop := ∃ m, w.cell? ⟨2, 0, none⟩ = some (.int .i64 m)
theorem ML_below {w w' : World} (h : ML w) (hb : Below w.heap.size w w') : ML w' := by
  obtain ⟨m, hm⟩ := h
  exact ⟨m, (hb.cell (p := ⟨2, 0, none⟩) (World.block_lt_of_cell? _ _ hm)).trans hm⟩
def svals (l : List (List UInt8)) : List Value := l.map fun p => Value.string (str p)
theorem split_eq (s : ByteArray) : Lib.splitB ⟨#[46]⟩ 0 (Lib.countB s ⟨#[46]⟩) s = (cutB s.data.toList).map str := by
  have h := Lib.splitB_data ⟨#[46]⟩ 0 (Lib.countB s ⟨#[46]⟩) s
  have h2 : Lib.splitK (⟨#[46]⟩ : ByteArray).data.toList 0 (Lib.countB s ⟨#[46]⟩) s.data.toList = cutB s.data.toList := split_cut s.data.toList
  rw [h2] at h
  rw [← h, List.map_map]
  have e : (str ∘ fun (x : ByteArray) => x.data.toList) = id := funext str_of
  rw [e, List.map_id]
theorem split_len (s : ByteArray) : Lib.countB s ⟨#[46]⟩ + 1 = (cutB s.data.toList).length := by
  have h := Lib.splitB_all ⟨#[46]⟩ (by decide) 0 _ s rfl
  rw [split_eq, List.length_map] at h
  exact h.symm

/-- What Parts leaves. -/
def PaPost (l : List (List UInt8)) (w : World) (e : Ending) (w' : World) : Prop :=
  ∃ v, e = .returned v ∧ IsRow w' 1 v l.length (svals l) ∧ Below w.heap.size w w'
set_option maxHeartbeats 1000000 in
theorem parts_ok (s : ByteArray) (w : World) (hs : s.size ≤ 1000000) (hM : ML w) (hc : checkL s.data.toList = 0) :
    Calls Tryd.prog 11 #[.string s] w fun e w' => PaPost (cutB s.data.toList) w e w' := by
  go_enter Tryd.func11, Tryd.ntmps11
  go_wp2_with fail
  refine (check_any s _ (by omega)).mono ?_
  rintro e w1 ⟨rfl, hb1⟩
  rw [hc]
  obtain ⟨m, hm⟩ := ML_below hM hb1
  have hs1 := hb1.size
  go_wp2_with fail
  refine (Tryd.strings_Split s _ m _ (by omega) hm (by decide)).mono ?_
  rintro e w2 ⟨rfl, rfl⟩
  rw [split_eq, split_len]
  go_wp2
  go_ret
  refine ⟨_, rfl, ⟨by simp [svals], .inr ⟨w1.heap.size, 0, (cutB s.data.toList).length, rfl, by simp, Nat.le_refl _, ?_, ?_⟩⟩, hb1.alloc hs1 _⟩
  · have h1 := split_len s
    have h2 := Lib.countB_le ⟨#[46]⟩ (by decide) s.size s (Nat.le_refl _)
    unfold maxLen
    omega
  · intro j u hu
    simpa [svals, Function.comp] using hu
set_option maxHeartbeats 1000000 in
theorem parts_no (s : ByteArray) (w : World) (hs : s.size ≤ 1000000) (hc : checkL s.data.toList ≠ 0) :
    Calls Tryd.prog 11 #[.string s] w fun e w' => e = .returned (.slice none 0 0) ∧ Below w.heap.size w w' := by
  have hc' : (checkL s.data.toList != 0) = true := by rw [bne_iff_ne]; exact hc
  go_enter Tryd.func11, Tryd.ntmps11
  go_wp2_with fail
  refine (check_any s _ (by omega)).mono ?_
  rintro e w1 ⟨rfl, hb1⟩
  go_wp2
  go_ret
  exact ⟨rfl, hb1⟩

theorem str_point (l : List UInt8) : str l ++ (⟨#[46]⟩ : ByteArray) = str (l ++ [46]) := ba_eq (by rw [ba_append, str_data, str_data])
theorem room1 {A B : ByteArray} (h1 : A.size ≤ 8000000) (h2 : B.size ≤ 8000000) : ¬ 9223372036854775807 < A.size + B.size := by omega
set_option maxHeartbeats 1000000 in
theorem under_no (a b : ByteArray) (w : World) (ha : a.size ≤ 1000000) (hc : checkL a.data.toList ≠ 0) :
    Calls Tryd.prog 17 #[.string a, .string b] w fun e w' => e = .returned (.bool false) ∧ Below w.heap.size w w' := by
  have hc' : (checkL a.data.toList != 0) = true := by rw [bne_iff_ne]; exact hc
  go_enter Tryd.func17, Tryd.ntmps17
  go_wp2_with fail
  refine (check_any a _ (by omega)).mono ?_
  rintro e w1 ⟨rfl, hb1⟩
  go_wp2
  go_ret
  exact ⟨rfl, hb1⟩
set_option maxHeartbeats 1000000 in
theorem under_names (a b : ByteArray) (w : World) (ha : a.size ≤ 1000000) (hb : b.size ≤ 1000000) (hT : UT w) (ca : checkL a.data.toList = 0) (cb : checkL b.data.toList = 0) :
    Calls Tryd.prog 17 #[.string a, .string b] w fun e w' => e = .returned (.bool (Lib.hasPrefix (foldL a.data.toList ++ [46]) (foldL b.data.toList ++ [46]))) ∧ Below w.heap.size w w' := by
  have hza := fold_size a
  have hzb := fold_size b
  have r1 := room1 (A := str (foldL a.data.toList)) (B := ⟨#[46]⟩) (by omega) (by decide)
  have r2 := room1 (A := str (foldL b.data.toList)) (B := ⟨#[46]⟩) (by omega) (by decide)
  have HP : Hid (Lib.hasPrefix (str (foldL a.data.toList) ++ (⟨#[46]⟩ : ByteArray)).data.toList (str (foldL b.data.toList) ++ (⟨#[46]⟩ : ByteArray)).data.toList = Lib.hasPrefix (foldL a.data.toList ++ [46]) (foldL b.data.toList ++ [46])) := by
    show _ = _
    rw [str_point, str_point, str_data, str_data]
  go_enter Tryd.func17, Tryd.ntmps17
  go_wp2_with fail
  refine (check_any a _ (by omega)).mono ?_
  rintro e w1 ⟨rfl, hb1⟩
  rw [ca]
  go_wp2_with fail
  refine (check_any b _ (by omega)).mono ?_
  rintro e w2 ⟨rfl, hb2'⟩
  rw [cb]
  have hb2 := hb1.trans (hb2'.mono hb1.size)
  clear hb1 hb2'
  go_wp2_with fail
  refine (fold_any a _ ha (Utf8Tabs_below hT hb2)).mono ?_
  rintro e w3 ⟨rfl, hb3'⟩
  have hb3 := hb2.trans (hb3'.mono hb2.size)
  clear hb2 hb3'
  go_wp2_with fail
  refine (fold_any b _ hb (Utf8Tabs_below hT hb3)).mono ?_
  rintro e w4 ⟨rfl, hb4'⟩
  have hb4 : Hid (Below w.heap.size w w4) := hb3.trans (hb4'.mono hb3.size)
  clear hb3 hb4'
  go_wp2_with fail
  refine (Tryd.strings_HasPrefix _ _ _).mono ?_
  rintro e w5 ⟨rfl, rfl⟩
  rw [HP.out]
  go_wp2
  go_ret
  exact ⟨rfl, hb4.out⟩
end Go.Proofs.YtncnjaplbkjgdaaDoor
