/- The law LinkOrder: its walk. -/
import Derived.Test.YtiejehaaglpkoaaLpC
import Derived.Test.YtiejehaaglpkoaaLoE0
import Derived.Deep.CutBlock
import Derived.Deep.DeepCutAuto
namespace Go.Proofs.Ytiejehaaglpkoaa
open Go.RowKit Go.ChangeMaps

/-- A pair alone, behind k deeds, with what it keeps of the order. -/
def PO (w : World) (f : Int) (P : Nat) (k : Nat) (wr : World) : Prop := ∃ a s R, PSn w P a s [] R wr ∧ PI s R k ∧ OI f s R
theorem PO.do {w wr : World} {f : Int} {P k : Nat} (h : PO w f P k wr) (hk : k ≤ 500) (kd ad n : Int) (t : ByteArray) : Calls Try.prog 27 #[.pointer (some ⟨P, 0, none⟩), dV kd ad n t] wr fun e w' => e = .returned (.bool true) ∧ PO w f P (k + 1) w' := by
  obtain ⟨a, s, R, h1, h2, h3⟩ := h
  exact (OI.do h1 h2 h3 hk kd ad n t).mono fun e w' ⟨he, a', s', R', h3, h4, h5⟩ => ⟨he, a', s', R', h3, h4, h5⟩
theorem PO.to {w wr : World} {f : Int} {P k : Nat} (h : PO w f P k wr) : Below w.heap.size w wr := by
  obtain ⟨a, s, R, h1, -⟩ := h
  exact PSn.to h1
theorem PO.right {w wr : World} {f : Int} {P k : Nat} (h : PO w f P k wr) (hk : k ≤ 500) : Calls Try.prog 28 #[.pointer (some ⟨P, 0, none⟩)] wr fun e w' => e = .returned (.bool true) ∧ PO w f P k w' := by
  obtain ⟨a, s, R, h1, h2, h3⟩ := h
  exact (right_any h1 (fun i hi => (h2.en i hi).ok) (fun i hi => (h3.rcv i hi).1.early (h3.rcv i hi).2) (fun i hi => (h3.rcv i hi).1.pre) (fun i hi => by have := h2.S i hi; omega)).mono fun e w' ⟨he, h4⟩ => ⟨he, a, s, R, h4, h2, h3⟩
theorem PO.cells {w wr : World} {f : Int} {P k : Nat} (h : PO w f P k wr) : ∃ g0 g1, wr.cell? ⟨P, 0, none⟩ = some (lP g0) ∧ wr.cell? ⟨P, 1, none⟩ = some (lP g1) := by
  obtain ⟨a, s, R, h1, -⟩ := h
  obtain ⟨-, -, pc, -⟩ := PSn.cells h1
  exact ⟨_, _, (pc 0 (by omega)).1, (pc 1 (by omega)).1⟩
theorem PO.below {w wr w' : World} {f : Int} {P k : Nat} (h : PO w f P k wr) (hb : Below wr.heap.size wr w') : PO w f P k w' := by
  obtain ⟨a, s, R, h1, h2⟩ := h
  exact ⟨a, s, R, PSn.below h1 hb, h2⟩
set_option maxRecDepth 100000 in
set_option maxHeartbeats 4000000 in
theorem linkOrder_walk (v : Value) (l : List Dd) (w : World) (hrow : IsRow w 4 v l.length (dCells l)) (_hl : l.length ≤ 140737488355328) :
    Calls Try.prog 4 #[v] w fun e w' => e = .returned (.bool true) ∧ Below w.heap.size w w' := by
  obtain ⟨va, vcap, hvf⟩ := hrow.form
  subst hvf
  have HRow : Hid (IsRow w 4 (.slice va l.length vcap) l.length (dCells l)) := hrow
  have HFr : Hid (Calls Try.prog 26 #[.int .i64 1] w fun e w' => ∃ P, e = .returned (.pointer (some ⟨P, 0, none⟩)) ∧ PO w 1 P 0 w') := (fresh_any 1 (St.nil w) (by decide) (by decide)).mono fun e w' ⟨P, a, he, h⟩ => ⟨P, he, a, _, _, h, pi_0 1 (by omega) (by omega), oi_0 1⟩
  have HAw : Hid (∀ w, Calls Try.prog 10 #[] w fun e w' => e = .returned (.bool true) ∧ Below w.heap.size w w') := awake13_any
  have HDo : Hid (∀ P k wr, PO w 1 P k wr → k ≤ 500 → ∀ kd ad n t, Calls Try.prog 27 #[.pointer (some ⟨P, 0, none⟩), .agg #[.int .i64 kd, .int .i64 ad, .int .i64 n, .string t]] wr fun e w' => e = .returned (.bool true) ∧ PO w 1 P (k + 1) w') := fun P k wr h hk kd ad n t => h.do hk kd ad n t
  have HRt : Hid (∀ P k wr, PO w 1 P k wr → k ≤ 500 → Calls Try.prog 28 #[.pointer (some ⟨P, 0, none⟩)] wr fun e w' => e = .returned (.bool true) ∧ PO w 1 P k w') := fun P k wr h hk => h.right hk
  clear hrow
  go_enter Try.func4, Try.ntmps4
  go_wp2_with fail
  refine HFr.out.mono ?_
  rintro e w1 ⟨P, rfl, T1⟩
  have HT1 : Hid (PO w 1 P 0 w1) := T1
  clear HFr T1
  go_wp2_with fail
  refine (HAw.out _).mono ?_
  rintro e w2 ⟨rfl, hb2⟩
  have HT2 : Hid (PO w 1 P 0 w2) := HT1.out.below hb2
  obtain ⟨g0, g1, p0, p1⟩ := HT2.out.cells
  clear hb2 HT1 HAw
  go_wp2_with fail
  go_loopw [2, 4] (fun r i wr => r = .bool false ∧ ∃ k : Nat, (k ≤ l.length ∧ k ≤ 100) ∧ i = .int .i64 (k : Int) ∧ Hid (PO w 1 P k wr)) (fun _ i _ => l.length - (intOf i).toNat)
  case atStart => exact ⟨rfl, 0, ⟨Nat.zero_le _, by omega⟩, rfl, HT2⟩
  case round =>
    obtain ⟨rfl, k, hk, rfl, HR⟩ := hrel
    clear HT2 p0 p1
    by_cases hlk : k < l.length ∧ k < 100
    · as_aux_lemma =>
      have dk : decide (k < l.length) = true := by simp; omega
      have dk2 : decide ((k : Int) < 100) = true := by simp; omega
      have wk : IntKind.i64.wrap ((k : Int) + 1) = (k : Int) + 1 := wrapI (by omega) (by omega)
      obtain ⟨b, off, cap, hv, hc1, hc2, z0, z1, z2, z3⟩ := deed_at (HRow.out.below HR.out.to) hlk.1
      obtain ⟨rfl, -, rfl⟩ := Value.slice.inj hv
      have HS : Hid (Calls Try.prog 27 #[.pointer (some ⟨P, 0, none⟩), .agg #[.int .i64 (l[k]'hlk.1).kd, .int .i64 (l[k]'hlk.1).ad, .int .i64 (l[k]'hlk.1).n, .string (l[k]'hlk.1).t]] wr fun e w' => e = .returned (.bool true) ∧ PO w 1 P (k + 1) w') := HDo.out _ _ _ HR.out (by omega) _ _ _ _
      generalize (l[k]'hlk.1) = dd at *
      obtain ⟨kd, ad, nn, tt⟩ := dd
      dsimp only at *
      have i1 : (0 : Int) ≤ (k : Int) := by omega
      have i2 : (k : Int) < (l.length : Int) := by omega
      clear hv HDo
      go_wp2_with fail
      refine HS.out.mono ?_
      rintro e w4 ⟨rfl, T4⟩
      have HC4 : Hid (Calls Try.prog 28 #[.pointer (some ⟨P, 0, none⟩)] w4 fun e w' => e = .returned (.bool true) ∧ PO w 1 P (k + 1) w') := HRt.out _ _ _ T4 (by omega)
      clear T4 HS HRt HR
      go_wp2_with fail
      refine HC4.out.mono ?_
      rintro e w5 ⟨rfl, T5⟩
      have HR5 : Hid (PO w 1 P (k + 1) w5) := T5
      clear T5 HC4
      go_wp2
      go_roundw
      case rel => exact ⟨rfl, k + 1, ⟨by omega, by omega⟩, by simp, HR5⟩
      case measure => simp [intOf]; omega
    · have HB : Hid (Below w.heap.size w wr) := HR.out.to
      have HGo : (¬ (k < l.length)) ∨ (k < l.length ∧ ¬ (k < 100)) := by omega
      rcases HGo with dk | ⟨dk, dk2⟩
      · have dk : decide (k < l.length) = false := by simp; omega
        go_wp2
        go_ret
        exact ⟨rfl, HB.out⟩
      · have dk : decide (k < l.length) = true := by simp; omega
        have dk2 : decide ((k : Int) < 100) = false := by simp; omega
        go_wp2
        go_ret
        exact ⟨rfl, HB.out⟩
end Go.Proofs.Ytiejehaaglpkoaa
