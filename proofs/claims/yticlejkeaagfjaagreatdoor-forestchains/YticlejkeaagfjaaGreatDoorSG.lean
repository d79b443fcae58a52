/- Slices of structs that came in, as rows. -/
import Derived.Test.YticlejkeaagfjaaGreatDoorZa
import Derived.Test.YticlejkeaagfjaaGreatDoorChecked
import Derived.ProofKit
import Derived.OpenShut
import Derived.ShutString
import Derived.ChangeOld
import Derived.Below
import Derived.Stop.Joined
import Derived.Deep.Slices
import Derived.Deep.Strs
import Derived.SizedLaws
import Derived.Lib.SmallJoins
namespace Go.Proofs.YticlejkeaagfjaaGreatDoor
open Go.ChangeShapes Go.WideShapes Go.ChangeAt Go.WideMaps Go.WideElems Go.RowKit Go.Deep

theorem flatG_len {α : Type} (en : α → List Value) (sz : Nat) (hen : ∀ y, (en y).length = sz) (l : List α) : (l.flatMap en).length = l.length * sz := by
  induction l with
  | nil => simp
  | cons d D ih => rw [List.flatMap_cons, List.length_append, List.length_cons, ih, hen, Nat.succ_mul, Nat.add_comm]
theorem flatG_get {α : Type} (en : α → List Value) (sz : Nat) (hen : ∀ y, (en y).length = sz) : ∀ (l : List α) (k : Nat) (h : k < l.length) (i : Nat), i < sz → (l.flatMap en)[k * sz + i]? = (en l[k])[i]?
  | [], k, h, _, _ => absurd h (by simp)
  | d :: D, 0, _, i, hi => by
    rw [List.flatMap_cons, Nat.zero_mul, Nat.zero_add, List.getElem?_append_left (by rw [hen]; exact hi)]
    rfl
  | d :: D, k + 1, h, i, hi => by
    rw [List.flatMap_cons, List.getElem?_append_right (by rw [hen, Nat.succ_mul]; omega), hen, show (k + 1) * sz + i - sz = k * sz + i by rw [Nat.succ_mul]; omega, flatG_get en sz hen D k (by simpa using h) i hi]
    rfl
theorem addS_lit (b off j : Nat) : (⟨b, off, none⟩ : Addr).add j = ⟨b, off + j, none⟩ := by unfold Addr.add; split <;> simp_all
/-- A slice of structs of 'sz' cells each: read as a row. -/
theorem open_rows {α : Type} [Inhabited α] {H : Type} {enc : TypeId × Value → H} {w : World} {fuel : Nat} {v : Value} {x : DataW H × List MemPlace} (en : α → List Value) (sz bytes : Nat) {tS tE : TypeId}
    (hS : Tryz.prog.underlying tS = some (.slice tE)) (hC : Tryz.prog.cellsOf tE = sz) (hB : Tryz.prog.bytesOf tE = bytes) (hen : ∀ y, (en y).length = sz) (hsz : 0 < sz) (hby : 8 ≤ bytes)
    (op : ∀ (fuel : Nat) (cs : List Value) (y : DataW H × List MemPlace), DataW.trod enc Tryz.prog w 0 (fun _ => true) true fuel tE cs = some y → ∃ z : α, cs = en z)
    (h : DataW.trod enc Tryz.prog w 0 (fun _ => true) true fuel tS [v] = some x) (hz : ∀ n ∈ x.1.weights Tryz.prog tS, n ≤ reachBytes) :
    ∃ l : List α, IsRow w sz v l.length (l.flatMap en) ∧ l.length ≤ 140737488355328 := by
  rcases open_slice hS h with ⟨hv, _⟩ | ⟨a, len, cap, m, n, D, Pl, hv, hb, hl, hm, hmm, rfl, hx⟩
  · simp at hv
    subst hv
    exact ⟨[], ⟨by simp, .inl ⟨rfl, _, _, rfl⟩⟩, by simp⟩
  simp at hv
  subst hv
  simp at hmm
  subst hmm
  have key : ∀ i, i < len → ∃ y : α, w.cells? 0 (a.add (i * sz)) sz = some (en y) := by
    intro i hi
    obtain ⟨cs, hc, ht⟩ := hx i (by omega)
    rw [hC] at hc
    obtain ⟨y, rfl⟩ := op _ _ _ ht
    exact ⟨y, hc⟩
  obtain ⟨X, hX⟩ := choose_lt key
  have hlen : len * bytes ≤ reachBytes := by
    have := hz ((len + (m - len)) * bytes) (by simp only [DataW.weights, hS, hB]; simp)
    exact Nat.le_trans (Nat.mul_le_mul_right _ (by omega)) this
  have hlen8 : len * 8 ≤ reachBytes := Nat.le_trans (Nat.mul_le_mul_left _ hby) hlen
  refine ⟨(List.range len).map X, ⟨flatG_len en sz hen _, ?_⟩, ?_⟩
  · simp only [List.length_map, List.length_range]
    by_cases h0 : len = 0
    · subst h0
      exact .inl ⟨rfl, _, _, rfl⟩
    · right
      obtain ⟨b, off, spot⟩ := a
      have hspot : spot = none := by
        have := (World.cells?_some (hX 0 (by omega))).2.2 0 (by omega)
        obtain ⟨u, hu⟩ : ∃ u, (en (X 0))[0]? = some u := ⟨_, List.getElem?_eq_getElem (by rw [hen]; exact hsz)⟩
        rw [hu, Nat.zero_mul] at this
        simpa [Addr.add] using World.cell?_spot this
      subst hspot
      have hcell : ∀ i (hi : i < len) r, r < sz → w.cell? ⟨b, off + (i * sz + r), none⟩ = (en (X i))[r]? := by
        intro i hi r hr
        have := (World.cells?_some (hX i hi)).2.2 r hr
        rw [addS_lit, addS_lit] at this
        rw [← Nat.add_assoc]
        exact this
      refine ⟨b, off, m, rfl, ?_, hl, hm, ?_⟩
      · have := hcell 0 (by omega) 0 hsz
        obtain ⟨u, hu⟩ : ∃ u, (en (X 0))[0]? = some u := ⟨_, List.getElem?_eq_getElem (by rw [hen]; exact hsz)⟩
        rw [hu] at this
        exact block_lt_of_cell this
      · intro j u hu
        have hj : j < len * sz := by
          have := (List.getElem?_eq_some_iff.1 hu).1
          rw [flatG_len en sz hen] at this
          simpa using this
        have hq : j / sz < len := (Nat.div_lt_iff_lt_mul hsz).2 hj
        have hr : j % sz < sz := Nat.mod_lt _ hsz
        have hjj : j = j / sz * sz + j % sz := by rw [Nat.mul_comm]; exact (Nat.div_add_mod j sz).symm
        have hat := flatG_get en sz hen ((List.range len).map X) (j / sz) (by simpa using hq) (j % sz) hr
        simp only [List.getElem_map, List.getElem_range] at hat
        rw [← hjj] at hat
        rw [hat] at hu
        have := hcell (j / sz) hq (j % sz) hr
        rw [← hjj] at this
        rw [this]; exact hu
  · simp; unfold reachBytes at hlen8; omega
end Go.Proofs.YticlejkeaagfjaaGreatDoor
