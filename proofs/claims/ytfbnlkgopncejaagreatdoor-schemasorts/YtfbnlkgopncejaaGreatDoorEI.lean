/- schema.parseField: its walk. -/
import Derived.Test.YtfbnlkgopncejaaGreatDoorEH
namespace Go.Proofs.YtfbnlkgopncejaaGreatDoor
open Go.RowKit

/-- The field that a text says. -/
def parseF (s : List UInt8) : Fd := ⟨str (Lib.cut s [32]).1, kindW (Lib.trimSuffix (Lib.cut s [32]).2.1 [33]), Lib.hasSuffix (Lib.cut s [32]).2.1 [33]⟩
theorem results_cell1 {fn : Func} {p : Tmp} {ty : TypeId} (h : fn.results = #[.cell p ty]) (tmps : Array Value) (P : Program) (w : World) :
    (results fn tmps).run P w = ((asAddr (tmps.getD p undef)).run P w).andThen fun a w₁ => (loadVar ty a).run P w₁ := by
  simp only [results, h]
  simp [Sem.run_bind, Result.andThen]
theorem cut_le (s sep : List UInt8) : (Lib.cut s sep).2.1.length ≤ s.length := by
  unfold Lib.cut
  split <;> simp
set_option maxRecDepth 100000 in
set_option maxHeartbeats 2000000 in
theorem parseField_any (s : ByteArray) (w : World) (hs : s.size ≤ 1000000) (hM : ML w) (hW : WT w) :
    Calls Tryz.prog 25 #[.string s] w fun e w' => e = .returned (fV (parseF s.data.toList)) ∧ Below w.heap.size w w' := by
  have hA := al_b w (.cells #[.string ⟨#[]⟩, .int .i64 0, .bool false] 35)
  have hZ := new_at w (.cells #[.string ⟨#[]⟩, .int .i64 0, .bool false] 35)
  obtain ⟨m, hm⟩ := ML_below hM hA
  have HC : Hid (Calls Tryz.prog 39 #[.string s, .string ⟨#[32]⟩] (w.alloc (.cells #[.string ⟨#[]⟩, .int .i64 0, .bool false] 35)) fun e w' => e = .returned (.tuple #[.string (str (Lib.cut s.data.toList [32]).1), .string (str (Lib.cut s.data.toList [32]).2.1), .bool (Lib.cut s.data.toList [32]).2.2]) ∧ ∃ n, w' = (w.alloc (.cells #[.string ⟨#[]⟩, .int .i64 0, .bool false] 35)).drewN n) := Tryz.strings_Cut s ⟨#[32]⟩ m _ (by omega) hm
  have hl := cut_le s.data.toList [32]
  have hsz : s.data.toList.length = s.size := by simp
  have HX : Hid (∀ w', Calls Tryz.prog 40 #[.string (str (Lib.cut s.data.toList [32]).2.1), .string ⟨#[33]⟩] w' fun e w'' => e = .returned (.tuple #[.string (str (Lib.trimSuffix (Lib.cut s.data.toList [32]).2.1 [33])), .bool (Lib.hasSuffix (Lib.cut s.data.toList [32]).2.1 [33])]) ∧ w'' = w') := fun w' => by
    have := Tryz.strings_CutSuffix (str (Lib.cut s.data.toList [32]).2.1) ⟨#[33]⟩ w' (by rw [str_size]; omega)
    rw [str_data] at this
    exact this
  have HK : Hid (∀ w', Below w.heap.size w w' → Calls Tryz.prog 41 #[.string (str (Lib.trimSuffix (Lib.cut s.data.toList [32]).2.1 [33]))] w' fun e w'' => e = .returned (.int .i64 (kindW (Lib.trimSuffix (Lib.cut s.data.toList [32]).2.1 [33]))) ∧ w'' = w') := fun w' h => by
    have := kindOf_any (str (Lib.trimSuffix (Lib.cut s.data.toList [32]).2.1 [33])) w' (WT_below hW h)
    rw [str_data] at this
    exact this
  have HP : Hid (parseF s.data.toList = ⟨str (Lib.cut s.data.toList [32]).1, kindW (Lib.trimSuffix (Lib.cut s.data.toList [32]).2.1 [33]), Lib.hasSuffix (Lib.cut s.data.toList [32]).2.1 [33]⟩) := rfl
  have HZ : Hid (∀ n, ((w.alloc (.cells #[.string ⟨#[]⟩, .int .i64 0, .bool false] 35)).drewN n).heap[w.heap.size]? = some (.cells #[.string ⟨#[]⟩, .int .i64 0, .bool false] 35) ∧ Below w.heap.size w ((w.alloc (.cells #[.string ⟨#[]⟩, .int .i64 0, .bool false] 35)).drewN n)) := fun n => ⟨hZ, ⟨rfl, rfl, rfl, hA.size, hA.block⟩⟩
  clear hA hZ hm hM hW hl hsz
  generalize kindW (Lib.trimSuffix (Lib.cut s.data.toList [32]).2.1 [33]) = kk at *
  generalize Lib.hasSuffix (Lib.cut s.data.toList [32]).2.1 [33] = mu at *
  generalize Lib.trimSuffix (Lib.cut s.data.toList [32]).2.1 [33] = wd at *
  generalize str (Lib.cut s.data.toList [32]).1 = ti at *
  generalize str (Lib.cut s.data.toList [32]).2.1 = re at *
  generalize (Lib.cut s.data.toList [32]).2.2 = fo at *
  go_enter Tryz.func25, Tryz.ntmps25
  go_wp2_with fail
  refine HC.out.mono ?_
  rintro e w1 ⟨rfl, n, hw⟩
  obtain ⟨y0, y1⟩ := HZ.out n
  rw [← hw] at y0 y1
  clear hw HC HZ
  go_wp2_with fail
  refine (HX.out w1).mono ?_
  rintro e w2 ⟨rfl, hw⟩
  subst hw
  go_wp2_with fail
  refine (HK.out _ y1).mono ?_
  rintro e w3 ⟨rfl, hw⟩
  subst hw
  obtain ⟨c0, c1, c2, f0, f1, f2⟩ := z3 y0
  have HBB : Hid (Below w.heap.size w _) := y1
  clear y0 y1 HK HX
  go_wp2
  try simp only [Exit.inBlock, Exit.then]
  refine bodyPost_ret (v := .agg #[.string ti, .int .i64 kk, .bool mu]) ?_ rfl ⟨by rw [HP.out], set3_b HBB.out _ _ _⟩
  rw [results_cell1 rfl]; go_simp
end Go.Proofs.YtfbnlkgopncejaaGreatDoor
