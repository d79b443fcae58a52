/- name.Runes: its walk. -/
import Derived.Test.YtncnjaplbkjgdaaDoorND
namespace Go.Proofs.YtncnjaplbkjgdaaDoor
open Go.RowKit

def countL (l : List UInt8) : Int := if Lib.validD l = true then ((rns l).length : Int) else -1
set_option maxHeartbeats 1000000 in
theorem runes_any (s : ByteArray) (w : World) (hs : s.size ≤ 1000000) (hT : UT w) :
    Calls Tryd.prog 21 #[.string s] w fun e w' => e = .returned (.int .i64 (countL s.data.toList)) ∧ Below w.heap.size w w' := by
  by_cases hv : Lib.validD s.data.toList = true
  · have HC : Hid ((Lib.runeCount s : Int) = countL s.data.toList) := by show _ = _; rw [countL, if_pos hv, runeCount_rns]
    go_enter Tryd.func21, Tryd.ntmps21
    go_wp2_with fail
    refine (Tryd.utf8_ValidString s _ (by omega) hT).mono ?_
    rintro e w1 ⟨rfl, hb1⟩
    rw [hv]
    go_wp2_with fail
    refine (Tryd.utf8_RuneCountInString s _ (by omega)).mono ?_
    rintro e w2 ⟨rfl, pos, rfl⟩
    go_wp2
    go_ret
    exact ⟨by rw [← HC.out]; rfl, hb1.alloc hb1.size _⟩
  · have hv' : Lib.validD s.data.toList = false := by simpa using hv
    have HC : Hid (-1 = countL s.data.toList) := by show _ = _; rw [countL, if_neg hv]
    go_enter Tryd.func21, Tryd.ntmps21
    go_wp2_with fail
    refine (Tryd.utf8_ValidString s _ (by omega) hT).mono ?_
    rintro e w1 ⟨rfl, hb1⟩
    rw [hv']
    go_wp2
    go_ret
    exact ⟨by rw [← HC.out]; rfl, hb1⟩
end Go.Proofs.YtncnjaplbkjgdaaDoor
