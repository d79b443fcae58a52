/- Packets, plainly; rows of packets that a net owns (they may be shorter than their block), and an append onto one; the net as it lies in memory. -/
import Derived.Test.YthbhgblgacoklaaU3
import Derived.RegionTactic
import Derived.Deep.QuietTactic
import Derived.BigQuiet
import Derived.Deep.RegionHeld3
import Derived.Deep.AppendLies
namespace Go.Proofs.Ythbhgblgacoklaa
open Go.RowKit

/-- A packet. -/
structure Pk where
  f : Int
  t : Int
  fl : Int
  tl : Int
  sq : Int
  ak : Int
  x : ByteArray
def enP (p : Pk) : List Value := [.int .i64 p.f, .int .i64 p.t, .int .i64 p.fl, .int .i64 p.tl, .int .i64 p.sq, .int .i64 p.ak, .string p.x]
abbrev pV (p : Pk) : Value := .agg #[.int .i64 p.f, .int .i64 p.t, .int .i64 p.fl, .int .i64 p.tl, .int .i64 p.sq, .int .i64 p.ak, .string p.x]
abbrev pA (p : Pk) : Array Value := #[.int .i64 p.f, .int .i64 p.t, .int .i64 p.fl, .int .i64 p.tl, .int .i64 p.sq, .int .i64 p.ak, .string p.x]
def zP : Pk := ⟨0, 0, 0, 0, 0, 0, ⟨#[]⟩⟩
def pCells (l : List Pk) : List Value := l.flatMap enP
theorem pCells_len (l : List Pk) : (pCells l).length = l.length * 7 := by
  induction l with
  | nil => rfl
  | cons d D ih => rw [pCells, List.flatMap_cons, List.length_append, List.length_cons]; rw [pCells] at ih; rw [ih]; show 7 + _ = _; omega
theorem pCells_get : ∀ (l : List Pk) (k : Nat) (h : k < l.length) (i : Nat), i < 7 → (pCells l)[k * 7 + i]? = (enP l[k])[i]?
  | [], k, h, _, _ => absurd h (by simp)
  | d :: D, 0, _, i, hi => by
    rw [pCells, List.flatMap_cons, Nat.zero_mul, Nat.zero_add, List.getElem?_append_left (by show i < 7; exact hi)]
    rfl
  | d :: D, k + 1, h, i, hi => by
    have z : (enP d).length = 7 := rfl
    rw [pCells, List.flatMap_cons, List.getElem?_append_right (by omega), show (k + 1) * 7 + i - (enP d).length = k * 7 + i by omega]
    have := pCells_get D k (by simpa using h) i hi
    rw [pCells] at this
    rw [this]
    rfl
theorem pCells_app (a b : List Pk) : pCells (a ++ b) = pCells a ++ pCells b := by simp [pCells]
theorem pCells_one (p : Pk) : pCells [p] = enP p := by simp [pCells]
theorem oneP_cell (p : Pk) : ∀ u ∈ enP p, u.oneCell' = true := by intro u hu; simp [enP] at hu; rcases hu with rfl | rfl | rfl | rfl | rfl | rfl | rfl <;> rfl
theorem oneC_cell (l : List Pk) : ∀ u ∈ pCells l, u.oneCell' = true := by
  intro u hu
  simp only [pCells, List.mem_flatMap] at hu
  obtain ⟨p, _, hp⟩ := hu
  exact oneP_cell p u hp

/-- A row of packets that is owned. -/
def OwnW (w : World) (base : Nat) (v : Value) (l : List Pk) : Prop :=
  (v = .slice none 0 0 ∧ l = []) ∨ ∃ g cap cur, v = .slice (some ⟨g, 0, none⟩) l.length cap ∧ base ≤ g ∧ w.heap[g]? = some (.cells cur 31 (0, 0)) ∧ l.length ≤ cap ∧ cap ≤ maxLen ∧ cap * 7 ≤ cur.size ∧ cur.toList.take (l.length * 7) = pCells l
theorem OwnW.keep {w w' : World} {base : Nat} {v : Value} {l : List Pk} (h : OwnW w base v l) (hk : ∀ k, v.ownBlock = some k → w'.heap[k]? = w.heap[k]?) : OwnW w' base v l := by
  rcases h with h | ⟨g, cap, cur, rfl, hb, hg, r⟩
  · exact .inl h
  · exact .inr ⟨g, cap, cur, rfl, hb, (hk g rfl).trans hg, r⟩
theorem OwnW.lt {w : World} {base : Nat} {v : Value} {l : List Pk} (h : OwnW w base v l) : ∀ k, v.ownBlock = some k → base ≤ k ∧ k < w.heap.size := by
  intro k hk
  rcases h with ⟨rfl, _⟩ | ⟨g, cap, cur, rfl, hb, hg, _⟩
  · simp [Value.ownBlock] at hk
  · simp [Value.ownBlock] at hk
    subst hk
    exact ⟨hb, (Array.getElem?_eq_some_iff.1 hg).1⟩
theorem OwnW.row {w : World} {base : Nat} {v : Value} {l : List Pk} (h : OwnW w base v l) : IsRow w 7 v l.length (pCells l) := by
  refine ⟨pCells_len l, ?_⟩
  rcases h with ⟨rfl, rfl⟩ | ⟨g, cap, cur, rfl, hb, hg, hc, hm, hs, ht⟩
  · exact .inl ⟨rfl, _, _, rfl⟩
  · refine .inr ⟨g, 0, cap, rfl, (Array.getElem?_eq_some_iff.1 hg).1, hc, hm, fun j u hu => ?_⟩
    rw [Nat.zero_add, cell_of_row w g j cur _ (0, 0) hg]
    rw [← ht, List.getElem?_take] at hu
    split at hu
    · simpa using hu
    · cases hu
theorem OwnW.form {w : World} {base : Nat} {v : Value} {l : List Pk} (h : OwnW w base v l) : ∃ a cap, v = .slice a l.length cap := h.row.form
theorem info_pk : (Try.prog.info? 31).map (fun i => (i.zero, i.size, i.bytes)) = some (some (pV zP), 7, 64) := by kernel_rfl

/-- An append of packets that lie somewhere else onto a row that is owned. -/
theorem run_app_w (w : World) (ty : TypeId) (base : Nat) (v : Value) (l : List Pk) (h : OwnW w base v l) (ad : Addr) (m : Nat) (c : Nat) (news : List Pk) (hm : m = news.length) (hne : 0 < m ∨ v ≠ .slice none 0 0)
    (hn : ∀ j u, (pCells news)[j]? = some u → w.cell? (ad.add j) = some u) (hl : l.length + m ≤ 1000000) (hbase : base ≤ w.heap.size) :
    ∃ g cap w', (Builtin.append_ #[43, 43] ty #[v, .slice (some ad) m c]).run Try.prog w = .ok (.slice (some ⟨g, 0, none⟩) (l.length + m) cap) w' ∧
      OwnW w' base (.slice (some ⟨g, 0, none⟩) (l.length + m) cap) (l ++ news) ∧ w.grownBy w' v.ownBlock ∧ (v.ownBlock = some g ∨ g = w.heap.size) := by
  obtain ⟨i, hi, hz0, hz1, hz2⟩ := info_parts info_pk
  have hnl : (pCells news).length = m * i.size := by rw [pCells_len, hz1, hm]
  have hlen : (l ++ news).length = l.length + m := by rw [List.length_append, hm]
  have fresh : ∀ old : Nat, old < l.length + m → ∀ row : Option Nat,
      OwnW (w.drew.alloc (.cells ((pCells l).toArray ++ (pCells news).toArray ++ Builtin.zeroCells (pV zP).cells (grownCap w (l.length + m) old 31 - (l.length + m))) 31)) base
        (.slice (some ⟨w.heap.size, 0, none⟩) (l.length + m) (grownCap w (l.length + m) old 31)) (l ++ news) ∧
      w.grownBy (w.drew.alloc (.cells ((pCells l).toArray ++ (pCells news).toArray ++ Builtin.zeroCells (pV zP).cells (grownCap w (l.length + m) old 31 - (l.length + m))) 31)) row := by
    intro old ho row
    have hge := grownCap_ge w (l.length + m) old 31
    have hle : grownCap w (l.length + m) old 31 ≤ maxLen := grownCap_le_maxLen w (l.length + m) old _ (by unfold maxLen; omega)
    refine ⟨.inr ⟨w.heap.size, _, _, by rw [hlen], hbase, heap_alloc_new w.drew _, by rw [hlen]; exact hge, hle, ?_, ?_⟩, ⟨rfl, rfl, rfl, by simp, fun k hk _ => Below.heap_alloc w.drew _ k hk⟩⟩
    · have z7 : (pV zP).cells.size = 7 := rfl
      simp only [Array.size_append, List.size_toArray, size_zeroCells, z7, pCells_len]
      omega
    · rw [Array.toList_append, Array.toList_append, hlen, pCells_app]
      have e7 : (l.length + m) * 7 = (pCells l ++ pCells news).length := by rw [List.length_append, pCells_len, pCells_len, hm]; omega
      rw [e7]
      exact List.take_left
  rcases h with ⟨rfl, rfl⟩ | ⟨g, cap, cur, rfl, hbg, hg, hnc, hcm, hcs, htake⟩
  · have hne : 0 < m := hne.resolve_right (fun h => h rfl)
    have hr := run_append_nil (P := Try.prog) w 43 ty 31 i _ Try.underlying43 hi hz0 ad m c (pCells news) hnl hn hne (by simp at hl; omega) (by rw [hz2]; simp at hl; omega)
    have hf := fresh 0 (by simp; omega) (Value.ownBlock (.slice none 0 0))
    simp only [List.length_nil, Nat.zero_add, pCells, List.flatMap_nil, List.nil_append, Array.empty_append] at hf hr ⊢
    exact ⟨_, _, _, hr, hf.1, hf.2, .inr rfl⟩
  · by_cases hroom : l.length + m ≤ cap
    · have hfit : l.length * i.size + (pCells news).length ≤ cur.size := by rw [hnl, hz1]; omega
      have hr := run_append_room (P := Try.prog) w 43 ty 31 i Try.underlying43 hi g l.length cap cur hg ad m c (pCells news) hnl hn (oneC_cell news) hroom hfit
      refine ⟨_, _, _, hr, .inr ⟨g, cap, _, by rw [hlen], hbg, setRow_heap w g cur _ _ _ hg, by rw [hlen]; exact hroom, hcm, ?_, ?_⟩, ⟨rfl, rfl, rfl, by simp, fun k _ hk => setRow_other w g k _ (fun e => hk (by simp [Value.ownBlock, e]))⟩, .inl rfl⟩
      · rw [hz1] at hfit ⊢
        simp only [List.size_toArray, List.length_append, List.length_take, List.length_drop, Array.length_toList]
        omega
      · rw [hz1, htake, hlen, pCells_app]
        have e7 : (l.length + m) * 7 = (pCells l ++ pCells news).length := by rw [List.length_append, pCells_len, pCells_len, hm]; omega
        rw [e7]
        exact List.take_left
    · have holds : ∀ j u, (pCells l)[j]? = some u → w.cell? ((⟨g, 0, none⟩ : Addr).add j) = some u := by
        intro j u hu
        have hadd : (⟨g, 0, none⟩ : Addr).add j = ⟨g, j, none⟩ := by unfold Addr.add; split <;> simp_all
        rw [hadd, cell_of_row w g j cur _ (0, 0) hg]
        rw [← htake, List.getElem?_take] at hu
        split at hu
        · simpa using hu
        · cases hu
      have hr := run_append_grow (P := Try.prog) w 43 ty 31 i _ Try.underlying43 hi hz0 ⟨g, 0, none⟩ l.length cap (pCells l) (by rw [pCells_len, hz1]) holds ad m c (pCells news) hnl hn (by omega) (by unfold maxLen at hcm; omega) (growslice_fits (by omega) (by rw [hz2]; omega))
      have hf := fresh cap (by omega) (Value.ownBlock (.slice (some ⟨g, 0, none⟩) l.length cap))
      exact ⟨_, _, _, hr, hf.1, hf.2, .inr rfl⟩
end Go.Proofs.Ythbhgblgacoklaa
