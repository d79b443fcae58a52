/- The frame of the queue's laws: a world that meets the condition; bytes that came in. -/
import Derived.Test.YtnldibcfpbignaaDoorQM
import Derived.ProofKit
import Derived.PinnedBridge
import Derived.Lay
import Derived.LaidMore
import Derived.Stop.LaidErr
import Derived.OpenShut
import Derived.ShutString
import Derived.ChangeOld
import Derived.Below
import Derived.Stop.Joined
import Derived.Deep.Slices
import Derived.Deep.Strs
import Derived.SizedLaws
namespace Go.Proofs.YtnldibcfpbignaaDoor
open Go.ChangeShapes Go.WideShapes Go.ChangeAt Go.WideMaps Go.WideElems Go.RowKit Go.Deep

theorem own : ownKnob Tryd.prog.godebug = none := by kernel_rfl
theorem laidOut : laidOutB Tryd.prog = true := by kernel_rfl
def laidN : List (String × DataW Unit) := [("unicode/utf8.acceptRanges", Rows.laid_unicode_utf8_acceptRanges), ("unicode/utf8.first", Rows.laid_unicode_utf8_first)]
theorem all_met (os : Os) (args : Array Value) : laidMetH Tryd.prog laidN ((World.laidAll Tryd.prog os laidN).forCall (fun _ _ => 0) ⟨#[], args, []⟩).memory := by
  rw [MakeChecks.laidMetH_plain _ _ _ (by kernel_rfl)]
  exact laidMet_laidAll _ (by kernel_rfl) (by kernel_rfl)
theorem c_u8 : Tryd.prog.cellsOf 5 = 1 := by kernel_rfl
theorem b_u8 : Tryd.prog.bytesOf 5 = 1 := by kernel_rfl
theorem add_lit (b off j : Nat) : (⟨b, off, none⟩ : Addr).add j = ⟨b, off + j, none⟩ := by unfold Addr.add; split <;> simp_all
theorem row_of_cells {w : World} {a : Addr} {len cap : Nat} {xs : List Value} (hx : xs.length = len) (hl : len ≤ cap) (hm : cap ≤ maxLen) (hc : ∀ i, i < len → w.cell? (a.add i) = xs[i]?) : IsRow w 1 (.slice (some a) len cap) len xs := by
  refine ⟨by omega, ?_⟩
  by_cases h0 : len = 0
  · subst h0
    exact .inl ⟨rfl, _, _, rfl⟩
  · right
    obtain ⟨b, off, spot⟩ := a
    obtain ⟨u0, hu0⟩ : ∃ u, xs[0]? = some u := ⟨xs[0]'(by omega), by simp⟩
    have hspot : spot = none := by
      have := (hc 0 (by omega)).trans hu0
      simpa [Addr.add] using World.cell?_spot this
    subst hspot
    have hcell : ∀ i, i < len → w.cell? ⟨b, off + i, none⟩ = xs[i]? := fun i hi => by rw [← add_lit]; exact hc i hi
    refine ⟨b, off, cap, rfl, block_lt_of_cell ((hcell 0 (by omega)).trans hu0), hl, hm, ?_⟩
    intro j u hu
    have hj : j < len := by have := (List.getElem?_eq_some_iff.1 hu).1; omega
    rw [hcell j hj]; exact hu
theorem open_bytes' {H : Type} {enc : TypeId × Value → H} {w : World} {fuel : Nat} {v : Value} {x : DataW H × List MemPlace} (h : DataW.trod enc Tryd.prog w 0 (fun _ => true) true fuel 61 [v] = some x)
    (hz : ∀ n ∈ x.1.weights Tryd.prog 61, n ≤ reachBytes) :
    ∃ l : List Int, IsRow w 1 v l.length (u8C l) ∧ l.length ≤ 140737488355328 ∧ ∀ y ∈ l, 0 ≤ y ∧ y ≤ 255 := by
  rcases open_slice1 Tryd.underlying61 c_u8 h with ⟨hv, _⟩ | ⟨a, len, cap, m, n, V, D, Pl, hv, hb, hl, hm, hmm, rfl, hx⟩
  · simp at hv
    subst hv
    exact ⟨[], ⟨rfl, .inl ⟨rfl, _, _, rfl⟩⟩, by simp, fun y hy => by cases hy⟩
  simp at hv
  subst hv
  simp at hmm
  subst hmm
  have key : ∀ i, i < len → ∃ y : Int, V i = .int .u8 y ∧ 0 ≤ y ∧ y ≤ 255 := by
    intro i hi
    obtain ⟨y, e, _, hw⟩ := DataW.trod_int Tryd.underlying5 (hx i (by omega)).2
    exact ⟨y, by simpa using e, by simpa [Lit.wf, IntKind.min, IntKind.max, IntKind.signed, IntKind.bits] using hw⟩
  obtain ⟨X, hX⟩ := choose_lt key
  have hlen : len * 1 ≤ reachBytes := by
    have := hz ((len + (m - len)) * 1) (by simp only [DataW.weights, Tryd.underlying61, b_u8]; simp)
    omega
  have r := row_of_cells (w := w) (a := a) (xs := ((List.range len).map X).map (Value.int .u8)) (len := len) (cap := m) (by simp) hl hm (fun i hi => by rw [(hx i (by omega)).1, (hX i hi).1]; simp [hi])
  refine ⟨(List.range len).map X, ?_, ?_, ?_⟩
  · simpa [u8C] using r
  · simp; unfold reachBytes at hlen; omega
  · intro y hy
    obtain ⟨i, hi, rfl⟩ := List.mem_map.1 hy
    exact (hX i (List.mem_range.1 hi)).2
end Go.Proofs.YtnldibcfpbignaaDoor
