/- Fields and attributes, plainly; schema.onePart, mayBe, byName: walks. -/
import Derived.Test.YticlejkeaagfjaaGreatDoorZb
import Derived.Test.YticlejkeaagfjaaGreatDoorNDc
import Derived.RegionTactic
import Derived.Deep.QuietTactic
import Derived.BigQuiet
namespace Go.Proofs.YticlejkeaagfjaaGreatDoor
open Go.RowKit

/-- A field. -/
structure Fd where
  n : ByteArray
  k : Int
  m : Bool
/-- An attribute. -/
structure At where
  n : ByteArray
  k : Int
  v : Int
  s : ByteArray
def enF (x : Fd) : List Value := [.string x.n, .int .i64 x.k, .bool x.m]
abbrev fV (x : Fd) : Value := .agg #[.string x.n, .int .i64 x.k, .bool x.m]
def enA (x : At) : List Value := [.string x.n, .int .i64 x.k, .int .i64 x.v, .string x.s]
abbrev aV (x : At) : Value := .agg #[.string x.n, .int .i64 x.k, .int .i64 x.v, .string x.s]
/-- Is a text a name of one part? -/
def oneP (s : ByteArray) : Bool := decide (checkL s.data.toList = 0) && decide ((cutB s.data.toList).length = 1)
def mayF (x : Fd) : Bool := decide (1 ≤ x.k) && (decide (x.k < 5) && oneP x.n)
set_option maxRecDepth 100000 in
theorem onePart_any (s : ByteArray) (w : World) (hs : s.size ≤ 1000000) (hM : ML w) :
    Calls Tryz.prog 115 #[.string s] w fun e w' => e = .returned (.bool (oneP s)) ∧ Below w.heap.size w w' := by
  by_cases hc : checkL s.data.toList = 0
  · have e0 : oneP s = decide ((cutB s.data.toList).length = 1) := by unfold oneP; rw [decide_eq_true hc, Bool.true_and]
    rw [e0]
    have HP : Hid (Calls Tryz.prog 133 #[.string s] w fun e w' => PaPost (cutB s.data.toList) w e w') := parts_ok s w hs hM hc
    clear e0
    generalize cutB s.data.toList = L at *
    go_enter Tryz.func115, Tryz.ntmps115
    go_wp2_with fail
    refine HP.out.mono ?_
    rintro e w1 ⟨v, rfl, hr, hb⟩
    obtain ⟨a, cap, rfl⟩ := hr.form
    have HB : Hid (Below w.heap.size w w1) := hb
    have HE : Hid (((L.length : Int) == 1) = decide (L.length = 1)) := by show _ = _; rw [Bool.eq_iff_iff]; simp; omega
    clear hr hb
    go_wp2
    go_ret
    exact ⟨by rw [← HE.out]; rfl, HB.out⟩
  · have e0 : oneP s = false := by unfold oneP; rw [decide_eq_false hc, Bool.false_and]
    rw [e0]
    go_enter Tryz.func115, Tryz.ntmps115
    go_wp2_with fail
    refine (parts_no s _ hs hc).mono ?_
    rintro e w1 ⟨rfl, hb⟩
    have HB : Hid (Below w.heap.size w w1) := hb
    clear hb
    go_wp2
    go_ret
    exact ⟨rfl, HB.out⟩
theorem al_b (w : World) (o : Obj) : Below w.heap.size w (w.alloc o) := (Below.refl _ _).alloc (Nat.le_refl _) o
set_option maxRecDepth 100000 in
theorem mayBe_any (x : Fd) (w : World) (hs : x.n.size ≤ 1000000) (hM : ML w) :
    Calls Tryz.prog 85 #[fV x] w fun e w' => e = .returned (.bool (mayF x)) ∧ Below w.heap.size w w' := by
  obtain ⟨s, k, m⟩ := x
  have hA := al_b w (.cells #[.string s, .int .i64 k, .bool m] 93)
  have HP := onePart_any s (w.alloc (.cells #[.string s, .int .i64 k, .bool m] 93)) hs (ML_below hM hA)
  have HPh : Hid (Calls Tryz.prog 115 #[.string s] (w.alloc (.cells #[.string s, .int .i64 k, .bool m] 93)) fun e w' => e = .returned (.bool (oneP s)) ∧ Below (w.alloc (.cells #[.string s, .int .i64 k, .bool m] 93)).heap.size (w.alloc (.cells #[.string s, .int .i64 k, .bool m] 93)) w') := HP
  have HA : Hid (Below w.heap.size w (w.alloc (.cells #[.string s, .int .i64 k, .bool m] 93))) := hA
  clear HP hA
  show Calls _ _ _ _ fun e w' => e = .returned (.bool (decide (1 ≤ k) && (decide (k < 5) && oneP s))) ∧ _
  by_cases h1 : 1 ≤ k
  · by_cases h5 : k < 5
    · rw [decide_eq_true h1, decide_eq_true h5, Bool.true_and, Bool.true_and]
      go_enter Tryz.func85, Tryz.ntmps85
      go_wp2_with fail
      refine HPh.out.mono ?_
      rintro e w1 ⟨rfl, hb⟩
      have HB : Hid (Below w.heap.size w w1) := HA.out.trans (hb.mono HA.out.size)
      clear hb
      go_wp2
      go_ret
      exact ⟨rfl, HB.out⟩
    · rw [decide_eq_true h1, decide_eq_false h5, Bool.true_and, Bool.false_and]
      go_enter Tryz.func85, Tryz.ntmps85
      go_wp2
      go_ret
      exact ⟨rfl, HA.out⟩
  · rw [decide_eq_false h1, Bool.false_and]
    go_enter Tryz.func85, Tryz.ntmps85
    go_wp2
    go_ret
    exact ⟨rfl, HA.out⟩
set_option maxRecDepth 100000 in
theorem byName_any (x y : Fd) (w : World) (hx : x.n.size ≤ 1000000) (hy : y.n.size ≤ 1000000) (hT : UT w) :
    Calls Tryz.prog 86 #[fV x, fV y] w fun e w' => e = .returned (.int .i64 (cmpL x.n.data.toList y.n.data.toList)) ∧ Below w.heap.size w w' := by
  obtain ⟨s, k, m⟩ := x
  obtain ⟨s', k', m'⟩ := y
  have hA := (al_b w (.cells #[.string s, .int .i64 k, .bool m] 93)).trans ((al_b (w.alloc (.cells #[.string s, .int .i64 k, .bool m] 93)) (.cells #[.string s', .int .i64 k', .bool m'] 93)).mono (al_b w _).size)
  have HC : Hid (Calls Tryz.prog 52 #[.string s, .string s'] ((w.alloc (.cells #[.string s, .int .i64 k, .bool m] 93)).alloc (.cells #[.string s', .int .i64 k', .bool m'] 93)) fun e w' => e = .returned (.int .i64 (cmpL s.data.toList s'.data.toList)) ∧ Below ((w.alloc (.cells #[.string s, .int .i64 k, .bool m] 93)).alloc (.cells #[.string s', .int .i64 k', .bool m'] 93)).heap.size ((w.alloc (.cells #[.string s, .int .i64 k, .bool m] 93)).alloc (.cells #[.string s', .int .i64 k', .bool m'] 93)) w') :=
    compare_any s s' _ hx hy (Utf8Tabs_below hT hA)
  have HA : Hid (Below w.heap.size w ((w.alloc (.cells #[.string s, .int .i64 k, .bool m] 93)).alloc (.cells #[.string s', .int .i64 k', .bool m'] 93))) := hA
  clear hA
  show Calls _ _ _ _ fun e w' => e = .returned (.int .i64 (cmpL s.data.toList s'.data.toList)) ∧ _
  generalize cmpL s.data.toList s'.data.toList = c at *
  go_enter Tryz.func86, Tryz.ntmps86
  go_wp2_with fail
  refine HC.out.mono ?_
  rintro e w1 ⟨rfl, hb⟩
  have HB : Hid (Below w.heap.size w w1) := HA.out.trans (hb.mono HA.out.size)
  clear hb
  go_wp2
  go_ret
  exact ⟨rfl, HB.out⟩
end Go.Proofs.YticlejkeaagfjaaGreatDoor
