/- name.Fold, Key, Compare, Same, Runes; the law's awake: walks. -/
import Derived.Test.YtfbnlkgopncejaaGreatDoorNC
namespace Go.Proofs.YtfbnlkgopncejaaGreatDoor
open Go.RowKit

theorem ba_eq {a b : ByteArray} (h : a.data.toList = b.data.toList) : a = b := by
  cases a; cases b
  simp only [Array.toList_inj] at h
  rw [h]
theorem ba_append (a b : ByteArray) : (a ++ b).data.toList = a.data.toList ++ b.data.toList := by
  rw [ByteArray.data_append, Array.toList_append]
set_option maxRecDepth 100000 in
theorem runesBytes_enc : ∀ (l : List Nat) (s : ByteArray), ((l.map fun (c : Nat) => (c : Int)).foldl (fun r n => r ++ Utf8.encode n) s).data.toList = s.data.toList ++ l.flatMap enc
  | [], s => by simp
  | c :: l, s => by
    rw [List.map_cons, List.foldl_cons, runesBytes_enc l, ba_append, List.flatMap_cons, List.append_assoc]
    rfl
/-- Bytes as a text. -/
def str (l : List UInt8) : ByteArray := ⟨l.toArray⟩
theorem str_data (l : List UInt8) : (str l).data.toList = l := by simp [str]
theorem str_of (s : ByteArray) : str s.data.toList = s := by cases s; simp [str]
theorem str_size (l : List UInt8) : (str l).size = l.length := by simp [str, ByteArray.size]
theorem conv_runes {w : World} {v : Value} {l : List Nat} (h : IsRow w 1 v l.length (rcells l)) :
    (convert 117 9 v).run Tryz.prog w = .ok (.string (str (l.flatMap enc))) w := by
  have e : runesBytes (l.map fun (c : Nat) => (c : Int)) = str (l.flatMap enc) := ba_eq (by
    rw [str_data]
    unfold runesBytes
    rw [runesBytes_enc]
    rfl)
  rw [← e]
  rcases h.2 with ⟨h0, a, cap, rfl⟩ | ⟨b, off, cap, rfl, hb, hc, hm, hcell⟩
  · have hl : l = [] := List.eq_nil_of_length_eq_zero h0
    subst hl
    cases a with
    | none => exact run_convert_runes_nil w _ _ 21 _ _ Tryz.underlying117 Tryz.underlying21 Tryz.underlying9
    | some a => exact run_convert_runes w _ _ 21 a 0 cap [] (by simp) Tryz.underlying117 Tryz.underlying21 Tryz.underlying9 (by intro j hj; simp at hj)
  · have := run_convert_runes (P := Tryz.prog) w 117 9 21 ⟨b, off, none⟩ l.length cap (l.map fun (c : Nat) => (c : Int)) (by simp) Tryz.underlying117 Tryz.underlying21 Tryz.underlying9 (by
      intro j hj
      have hj' : j < l.length := by simpa using hj
      have e1 : (⟨b, off, none⟩ : Addr).add j = ⟨b, off + j, none⟩ := by unfold Addr.add; split <;> simp_all
      rw [e1, hcell j (.int .i32 (l[j] : Nat)) (by simp [rcells, hj'])]
      simp [List.getD, hj'])
    rw [this]
    have e2 : (l.map fun (c : Nat) => (c : Int)).take l.length = l.map fun (c : Nat) => (c : Int) := List.take_of_length_le (by simp)
    rw [e2]

set_option maxHeartbeats 1000000 in
theorem fold_any (s : ByteArray) (w : World) (hs : s.size ≤ 1000000) (hT : UT w) :
    Calls Tryz.prog 59 #[.string s] w fun e w' => e = .returned (.string (str (foldL s.data.toList))) ∧ Below w.heap.size w w' := by
  by_cases hv : Lib.validD s.data.toList = true
  · have HF : Hid (str (((rns s.data.toList).map smallN).flatMap enc) = str (foldL s.data.toList)) := by show _ = _; rw [foldL, if_pos hv]
    go_enter Tryz.func59, Tryz.ntmps59
    go_wp2_with fail
    refine (Tryz.utf8_ValidString s _ (by omega) hT).mono ?_
    rintro e w1 ⟨rfl, hb1⟩
    rw [hv]
    go_wp2_with fail
    refine (smalls_any s _ hs).mono ?_
    rintro e w2 ⟨v2, rfl, hv2, hb2⟩
    have hcv := conv_runes hv2
    rw [HF.out] at hcv
    have hb : Hid (Below w.heap.size w w2) := hb1.trans (hb2.mono hb1.size)
    clear hb1 hb2 hv2
    go_wp2
    go_ret
    exact ⟨rfl, hb.out⟩
  · have hv' : Lib.validD s.data.toList = false := by simpa using hv
    have HF : Hid (s = str (foldL s.data.toList)) := by show _ = _; rw [foldL, if_neg hv, str_of]
    go_enter Tryz.func59, Tryz.ntmps59
    go_wp2_with fail
    refine (Tryz.utf8_ValidString s _ (by omega) hT).mono ?_
    rintro e w1 ⟨rfl, hb1⟩
    rw [hv']
    go_wp2
    go_ret
    exact ⟨by rw [← HF.out]; rfl, hb1⟩

theorem fold_size (s : ByteArray) : (str (foldL s.data.toList)).size ≤ 4 * s.size := by
  rw [str_size]
  have := foldL_len s.data.toList
  have e : s.data.toList.length = s.size := Array.length_toList
  omega
def keyL (l : List UInt8) : Nat := hashL (foldL l)
def cmpL (a b : List UInt8) : Int := Lib.compareBytes (foldL a) (foldL b)
def sameL (a b : List UInt8) : Bool := decide (foldL a = foldL b)
end Go.Proofs.YtfbnlkgopncejaaGreatDoor
