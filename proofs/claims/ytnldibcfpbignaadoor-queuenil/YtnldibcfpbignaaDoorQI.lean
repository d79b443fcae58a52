/- queue's Forget, what it calls: the test, slices.IndexFunc: walks. -/
import Derived.Test.YtnldibcfpbignaaDoorQH
namespace Go.Proofs.YtnldibcfpbignaaDoor
open Go.RowKit Go.ChangeMaps

abbrev fnV (b : Nat) : Value := .func (.func 33) #[] #[.pointer (some ⟨b, 0, none⟩)]
/-- Is it of that subscription? -/
def isS (sub : Int) (x : Gv) : Bool := x.s == sub
theorem test_any (x : Gv) (sub : Int) (b : Nat) (w : World) (hb : w.cell? ⟨b, 0, none⟩ = some (.int .i64 sub)) :
    Calls Tryd.prog 33 #[gV x, .pointer (some ⟨b, 0, none⟩)] w fun e w' => e = .returned (.bool (isS sub x)) ∧ Below w.heap.size w w' := by
  have hlt : b < w.heap.size := by
    rcases Nat.lt_or_ge b w.heap.size with h | h
    · exact h
    · simp [World.cell?, Array.getElem?_eq_none h] at hb
  have HB : Hid (Below w.heap.size w (w.alloc (.cells (gA x) 38))) := al_b w _
  have hb' : (w.alloc (.cells (gA x) 38)).cell? ⟨b, 0, none⟩ = some (.int .i64 sub) := (HB.out.cell (p := ⟨b, 0, none⟩) hlt).trans hb
  obtain ⟨xs, xo, xn, xl, xq, xt, xa, xk, xc⟩ := x
  clear hb
  dsimp only [gA] at *
  go_enter Tryd.func33, Tryd.ntmps33
  go_wp2
  go_ret
  exact ⟨rfl, HB.out⟩
/-- Where the first one is. -/
def idxS (sub : Int) (l : List Gv) : Int := match l.findIdx? (isS sub) with | some k => (k : Int) | none => -1
def IxP (sub : Int) (l : List Gv) (w : World) (e : Ending) (w' : World) : Prop := e = .returned (.int .i64 (idxS sub l)) ∧ Below w.heap.size w w'
theorem idx_at {sub : Int} {l : List Gv} {k : Nat} (hk : k < l.length) (h1 : ∀ (j : Nat) (h : j < l.length), j < k → isS sub l[j] = false) (h2 : isS sub l[k] = true) : l.findIdx? (isS sub) = some k := by
  rw [List.findIdx?_eq_some_iff_getElem]
  exact ⟨hk, h2, fun j hj => by simp [h1 j (by omega) hj]⟩
theorem idx_none {sub : Int} {l : List Gv} (h1 : ∀ (j : Nat) (h : j < l.length), isS sub l[j] = false) : l.findIdx? (isS sub) = none := by
  rw [List.findIdx?_eq_none_iff]
  intro x hx
  obtain ⟨j, hj, rfl⟩ := List.mem_iff_getElem.1 hx
  exact h1 j hj
set_option maxRecDepth 100000 in
set_option maxHeartbeats 2000000 in
theorem indexG_any (sub : Int) (bb : Nat) (v : Value) (l : List Gv) (w : World) (hr : IsRow w 7 v l.length (gCells l)) (hl : l.length ≤ 1000) (hb : w.cell? ⟨bb, 0, none⟩ = some (.int .i64 sub)) :
    Calls Tryd.prog 42 #[v, fnV bb] w fun e w' => IxP sub l w e w' := by
  obtain ⟨a0, cap0, rfl⟩ := hr.form
  have HR : Hid (IsRow w 7 (.slice a0 l.length cap0) l.length (gCells l)) := hr
  have hlt : bb < w.heap.size := by
    rcases Nat.lt_or_ge bb w.heap.size with h | h
    · exact h
    · simp [World.cell?, Array.getElem?_eq_none h] at hb
  have HT : Hid (∀ x w', Below w.heap.size w w' → Calls Tryd.prog 33 #[gV x, .pointer (some ⟨bb, 0, none⟩)] w' fun e w'' => e = .returned (.bool (isS sub x)) ∧ Below w'.heap.size w' w'') := fun x w' h => test_any x sub bb w' ((h.cell (p := ⟨bb, 0, none⟩) hlt).trans hb)
  clear hr hb
  go_enter Tryd.func42, Tryd.ntmps42
  go_wp2_with fail
  go_loopw [4, 5, 8] (fun r _ i wr => r = .int .i64 0 ∧ ∃ k : Nat, k ≤ l.length ∧ i = .int .i64 (k : Int) ∧ Hid (∀ (j : Nat) (h : j < l.length), j < k → isS sub l[j] = false) ∧ Below w.heap.size w wr) (fun _ _ i _ => l.length - (intOf i).toNat)
  case atStart => exact ⟨rfl, 0, Nat.zero_le _, rfl, fun j h hj => absurd hj (Nat.not_lt_zero _), Below.refl _ _⟩
  case round =>
    obtain ⟨rfl, k, hk, rfl, HO, hB⟩ := hrel
    by_cases hlk : k < l.length
    · have dk : decide ((k : Int) < l.length) = true := by simp; omega
      obtain ⟨b, off, rfl, hlt, -, hcap, hc⟩ := g_at (HR.out.below hB) (by omega)
      obtain ⟨y0, y1, y2, y3, y4, y5, y6⟩ := hc k hlk
      have HTk : Hid (Calls Tryd.prog 33 #[gV l[k], .pointer (some ⟨bb, 0, none⟩)] wr fun e w'' => e = .returned (.bool (isS sub l[k])) ∧ Below wr.heap.size wr w'') := HT.out _ wr hB
      have HB : Hid (Below w.heap.size w wr) := hB
      have HF : Hid (isS sub l[k] = true → ∀ w', Below w.heap.size w w' → IxP sub l w (.returned (.int .i64 (k : Int))) w') := fun h w' hb => ⟨by unfold idxS; rw [idx_at hlk HO.out h], hb⟩
      have HO2 : Hid (isS sub l[k] = false → ∀ (j : Nat) (h : j < l.length), j < k + 1 → isS sub l[j] = false) := fun h0 j h hj => by
        by_cases e : j = k
        · subst e; exact h0
        · exact HO.out j h (by omega)
      have i1 : (0 : Int) ≤ (k : Int) := by omega
      have i2 : (k : Int) < (l.length : Int) := by omega
      generalize isS sub l[k] = bo at *
      generalize l[k]'hlk = x at *
      obtain ⟨xs, xo, xn, xl, xq, xt, xa, xk, xc⟩ := x
      dsimp only [gV] at *
      clear hc HO hB HT
      go_wp2_with fail
      refine HTk.out.mono ?_
      rintro e w5 ⟨rfl, hb5⟩
      have HB5 : Hid (Below w.heap.size w w5) := HB.out.trans (hb5.mono HB.out.size)
      clear hb5 HTk HB
      cases bo with
      | true =>
        have HX := HF.out rfl w5 HB5.out
        have HX' : Hid (IxP sub l w (.returned (.int .i64 (k : Int))) w5) := HX
        clear HX HF HO2
        go_wp2
        go_ret
        exact HX'.out
      | false =>
        have HO3 : Hid (∀ (j : Nat) (h : j < l.length), j < k + 1 → isS sub l[j] = false) := HO2.out rfl
        clear HF HO2
        go_wp2
        go_roundw
        case rel => exact ⟨rfl, k + 1, by omega, by simp, HO3.out, HB5.out⟩
        case measure => simp [intOf]; omega
    · obtain rfl : k = l.length := by omega
      have dk : decide ((l.length : Int) < l.length) = false := by simp
      have HX : Hid (IxP sub l w (.returned (.int .i64 (-1))) wr) := ⟨by unfold idxS; rw [idx_none fun j h => HO.out j h h], hB⟩
      clear HO hB
      go_wp2
      go_ret
      exact HX.out
end Go.Proofs.YtnldibcfpbignaaDoor
