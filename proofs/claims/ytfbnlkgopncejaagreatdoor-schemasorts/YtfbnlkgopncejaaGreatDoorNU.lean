/- name.Parts and name.Under: walks. -/
import Derived.Test.YtfbnlkgopncejaaGreatDoorND
import Derived.Test.YtfbnlkgopncejaaGreatDoorNT
namespace Go.Proofs.YtfbnlkgopncejaaGreatDoor
open Go.RowKit

/-- The library's own variable holds some number. -/
def ML (w : World) : Prop := ∃ m, w.cell? ⟨3, 0, none⟩ = some (.int .i64 m)
theorem ML_below {w w' : World} (h : ML w) (hb : Below w.heap.size w w') : ML w' := by
  obtain ⟨m, hm⟩ := h
  exact ⟨m, (hb.cell (p := ⟨3, 0, none⟩) (World.block_lt_of_cell? _ _ hm)).trans hm⟩
def svals (l : List (List UInt8)) : List Value := l.map fun p => Value.string (str p)
theorem split_eq (s : ByteArray) : Lib.splitB ⟨#[46]⟩ 0 (Lib.countB s ⟨#[46]⟩) s = (cutB s.data.toList).map str := by
  have h := Lib.splitB_data ⟨#[46]⟩ 0 (Lib.countB s ⟨#[46]⟩) s
  have h2 : Lib.splitK (⟨#[46]⟩ : ByteArray).data.toList 0 (Lib.countB s ⟨#[46]⟩) s.data.toList = cutB s.data.toList := split_cut s.data.toList
  rw [h2] at h
  rw [← h, List.map_map]
  have e : (str ∘ fun (x : ByteArray) => x.data.toList) = id := funext str_of
  rw [e, List.map_id]
theorem split_len (s : ByteArray) : Lib.countB s ⟨#[46]⟩ + 1 = (cutB s.data.toList).length := by
  have h := Lib.splitB_all ⟨#[46]⟩ (by decide) 0 _ s rfl
  rw [split_eq, List.length_map] at h
  exact h.symm

/-- What Parts leaves. -/
def PaPost (l : List (List UInt8)) (w : World) (e : Ending) (w' : World) : Prop :=
  ∃ v, e = .returned v ∧ IsRow w' 1 v l.length (svals l) ∧ Below w.heap.size w w'
set_option maxHeartbeats 1000000 in
theorem parts_ok (s : ByteArray) (w : World) (hs : s.size ≤ 1000000) (hM : ML w) (hc : checkL s.data.toList = 0) :
    Calls Tryz.prog 45 #[.string s] w fun e w' => PaPost (cutB s.data.toList) w e w' := by
  go_enter Tryz.func45, Tryz.ntmps45
  go_wp2_with fail
  refine (check_any s _ (by omega)).mono ?_
  rintro e w1 ⟨rfl, hb1⟩
  rw [hc]
  obtain ⟨m, hm⟩ := ML_below hM hb1
  have hs1 := hb1.size
  go_wp2_with fail
  refine (Tryz.strings_Split s _ m _ (by omega) hm (by decide)).mono ?_
  rintro e w2 ⟨rfl, rfl⟩
  rw [split_eq, split_len]
  go_wp2
  go_ret
  refine ⟨_, rfl, ⟨by simp [svals], .inr ⟨w1.heap.size, 0, (cutB s.data.toList).length, rfl, by simp, Nat.le_refl _, ?_, ?_⟩⟩, hb1.alloc hs1 _⟩
  · have h1 := split_len s
    have h2 := Lib.countB_le ⟨#[46]⟩ (by decide) s.size s (Nat.le_refl _)
    unfold maxLen
    omega
  · intro j u hu
    simpa [svals, Function.comp] using hu
set_option maxHeartbeats 1000000 in
theorem parts_no (s : ByteArray) (w : World) (hs : s.size ≤ 1000000) (hc : checkL s.data.toList ≠ 0) :
    Calls Tryz.prog 45 #[.string s] w fun e w' => e = .returned (.slice none 0 0) ∧ Below w.heap.size w w' := by
  have hc' : (checkL s.data.toList != 0) = true := by rw [bne_iff_ne]; exact hc
  go_enter Tryz.func45, Tryz.ntmps45
  go_wp2_with fail
  refine (check_any s _ (by omega)).mono ?_
  rintro e w1 ⟨rfl, hb1⟩
  go_wp2
  go_ret
  exact ⟨rfl, hb1⟩

theorem str_point (l : List UInt8) : str l ++ (⟨#[46]⟩ : ByteArray) = str (l ++ [46]) := ba_eq (by rw [ba_append, str_data, str_data])
theorem room1 {A B : ByteArray} (h1 : A.size ≤ 8000000) (h2 : B.size ≤ 8000000) : ¬ 9223372036854775807 < A.size + B.size := by omega
end Go.Proofs.YtfbnlkgopncejaaGreatDoor
