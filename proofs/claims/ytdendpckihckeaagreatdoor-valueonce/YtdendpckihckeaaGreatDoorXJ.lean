/- value.scanBytes at any text: its walk. -/
import Derived.Test.YtdendpckihckeaaGreatDoorXI
import Derived.Lib.IndexBytes
namespace Go.Proofs.YtdendpckihckeaaGreatDoor
open Go.RowKit

theorem indexByte_no : ∀ (l : List UInt8) (c : UInt8), c ∉ l → Lib.indexByte l c = -1
  | [], _, _ => rfl
  | b :: t, c, h => by
    have hb : b ≠ c := fun e => h (by simp [e])
    have ht : c ∉ t := fun e => h (by simp [e])
    unfold Lib.indexByte
    rw [indexByte_no t c ht]
    simp [hb]
theorem indexByte_app : ∀ (D R : List UInt8) (c : UInt8), c ∉ D → Lib.indexByte (D ++ c :: R) c = D.length
  | [], R, c, _ => by simp [Lib.indexByte]
  | b :: t, R, c, h => by
    have hb : b ≠ c := fun e => h (by simp [e])
    have ht : c ∉ t := fun e => h (by simp [e])
    rw [List.cons_append]
    unfold Lib.indexByte
    rw [indexByte_app t R c ht]
    have h1 : ((t.length : Int) == -1) = false := by rw [beq_eq_false_iff_ne]; omega
    simp [hb, h1]
theorem split_at : ∀ (l : List UInt8) (c : UInt8), c ∈ l → ∃ D R, l = D ++ c :: R ∧ c ∉ D
  | [], _, h => by cases h
  | b :: t, c, h => by
    by_cases e : b = c
    · exact ⟨[], t, by rw [e]; rfl, by simp⟩
    · obtain ⟨D, R, h1, h2⟩ := split_at t c (by rcases List.mem_cons.1 h with h | h; exact absurd h.symm e; exact h)
      refine ⟨b :: D, R, by rw [h1]; rfl, ?_⟩
      intro h
      rcases List.mem_cons.1 h with h | h
      · exact e h.symm
      · exact h2 h
theorem cut_no {l : List UInt8} {c : UInt8} (h : c ∉ l) : Lib.cut l [c] = (l, [], false) := by
  unfold Lib.cut
  rw [Lib.index_one, indexByte_no l c h]
  rfl
theorem cut_yes {D R : List UInt8} {c : UInt8} (h : c ∉ D) : Lib.cut (D ++ c :: R) [c] = (D, R, true) := by
  unfold Lib.cut
  rw [Lib.index_one, indexByte_app D R c h, if_pos (by omega)]
  have : (D.length : Int).toNat = D.length := rfl
  rw [this, List.take_left, ← List.drop_drop, List.drop_left]
  rfl
theorem cutCall (s : ByteArray) (D R : List UInt8) (C : Bool) (w : World) (hs : s.size ≤ 1000000) (hM : ML w) (h : Lib.cut s.data.toList [39] = (D, R, C)) :
    Calls Tryz.prog 59 #[.string s, .string ⟨#[39]⟩] w fun e w' => e = .returned (.tuple #[.string (str D), .string (str R), .bool C]) ∧ Below w.heap.size w w' := by
  obtain ⟨m, hm⟩ := hM
  refine (Tryz.strings_Cut s ⟨#[39]⟩ m w (by omega) hm).mono ?_
  rintro e w1 ⟨rfl, n, hw1⟩
  have e1 : Lib.cut s.data.toList (⟨#[39]⟩ : ByteArray).data.toList = (D, R, C) := h
  rw [e1]
  exact ⟨rfl, by rw [hw1]; exact ⟨rfl, rfl, rfl, Nat.le_refl _, fun _ _ => rfl⟩⟩
set_option maxRecDepth 100000 in
set_option maxHeartbeats 4000000 in
theorem scanBytes_no (s : ByteArray) (w : World) (hs : s.size ≤ 1000000) (hM : ML w) (h : 39 ∉ s.data.toList) :
    Calls Tryz.prog 29 #[.string s] w fun e w' => e = .returned (scV (scX s.data.toList)) ∧ Below w.heap.size w w' := by
  have HX : Hid (scX s.data.toList = .bad 3) := by show _ = _; unfold scX; rw [hxs_open _ h]
  have HC : Hid (∀ w, ML w → Calls Tryz.prog 59 #[.string s, .string ⟨#[39]⟩] w fun e w' => e = .returned (.tuple #[.string (str s.data.toList), .string (str []), .bool false]) ∧ Below w.heap.size w w') := fun w hM => cutCall s _ _ _ w hs hM (cut_no h)
  clear h
  go_enter Tryz.func29, Tryz.ntmps29
  go_wp2_with fail
  refine (HC.out _ (ML_below hM (wv_below w))).mono ?_
  rintro e w1 ⟨rfl, hb1⟩
  have HF : Hid (Fr w w1) := Fr.of hb1
  obtain ⟨⟨d0, d1, d2, f0, f1, f2⟩, -⟩ := HF.out
  clear hb1
  go_wp2
  try simp only [Exit.inBlock, Exit.then]
  exact bodyPost_ret (results_v3 rfl _ _ w.heap.size rfl (HF.out.z.three.set _ _ _)) rfl ⟨by rw [HX.out]; rfl, set3_below HF.out.b _ _ _⟩
set_option maxRecDepth 100000 in
set_option maxHeartbeats 4000000 in
theorem scanBytes_odd (s : ByteArray) (w : World) (D R : List UInt8) (hs : s.size ≤ 1000000) (hM : ML w) (hl : s.data.toList = D ++ 39 :: R) (h : 39 ∉ D) (ho : D.length % 2 ≠ 0) :
    Calls Tryz.prog 29 #[.string s] w fun e w' => e = .returned (scV (scX s.data.toList)) ∧ Below w.heap.size w w' := by
  have HX : Hid (scX s.data.toList = .bad 3) := by show _ = _; unfold scX; rw [hl, hxs_app _ _ h, hxp_odd _ ho]; rfl
  have HC : Hid (∀ w, ML w → Calls Tryz.prog 59 #[.string s, .string ⟨#[39]⟩] w fun e w' => e = .returned (.tuple #[.string (str D), .string (str R), .bool true]) ∧ Below w.heap.size w w') := fun w hM => cutCall s _ _ _ w hs hM (by rw [hl]; exact cut_yes h)
  have hz : (str D).size = D.length := str_size D
  have h1 : (((str D).size : Int) % 2 != 0) = true := by rw [bne_iff_ne, hz]; omega
  generalize str D = E at *
  clear h ho hl hz
  go_enter Tryz.func29, Tryz.ntmps29
  go_wp2_with fail
  refine (HC.out _ (ML_below hM (wv_below w))).mono ?_
  rintro e w1 ⟨rfl, hb1⟩
  have HF : Hid (Fr w w1) := Fr.of hb1
  obtain ⟨⟨d0, d1, d2, f0, f1, f2⟩, -⟩ := HF.out
  clear hb1
  go_wp2
  all_goals (try simp only [Exit.inBlock, Exit.then])
  exact bodyPost_ret (results_v3 rfl _ _ w.heap.size rfl (HF.out.z.three.set _ _ _)) rfl ⟨by rw [HX.out]; rfl, set3_below HF.out.b _ _ _⟩
end Go.Proofs.YtdendpckihckeaaGreatDoor
