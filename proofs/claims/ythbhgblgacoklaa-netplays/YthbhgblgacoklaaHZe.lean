/- NetOnce, plainly, act by act; rows of acts; arrays of counts. -/
import Derived.Test.YthbhgblgacoklaaHZd
namespace Go.Proofs.Ythbhgblgacoklaa
open Go.RowKit

def acCells (l : List Ac) : List Value := l.flatMap enAc
theorem acCells_get : ∀ (l : List Ac) (k : Nat) (h : k < l.length) (i : Nat), i < 12 → (acCells l)[k * 12 + i]? = (enAc l[k])[i]?
  | [], k, h, _, _ => absurd h (by simp)
  | d :: D, 0, _, i, hi => by
    rw [acCells, List.flatMap_cons, Nat.zero_mul, Nat.zero_add, List.getElem?_append_left (by show i < 12; exact hi)]
    rfl
  | d :: D, k + 1, h, i, hi => by
    have z : (enAc d).length = 12 := rfl
    rw [acCells, List.flatMap_cons, List.getElem?_append_right (by omega), show (k + 1) * 12 + i - (enAc d).length = k * 12 + i by omega]
    have := acCells_get D k (by simpa using h) i hi
    rw [acCells] at this
    rw [this]
    rfl
/-- An act of a row, cell by cell. -/
theorem acs_at {w : World} {a : Option Addr} {n cap : Nat} {l : List Ac} (h : IsRow w 12 (.slice a n cap) l.length (acCells l)) (h0 : 0 < l.length) :
    ∃ b off, a = some ⟨b, off, none⟩ ∧ b < w.heap.size ∧ n = l.length ∧ ∀ (k : Nat) (hk : k < l.length) (j : Nat), j < 12 → w.cell? ⟨b, off + k * 12 + j, none⟩ = (enAc l[k])[j]? := by
  obtain ⟨b, off, cap', hv, hlt, q1, q2, hc⟩ := h.open (by omega)
  simp only [Value.slice.injEq] at hv
  refine ⟨b, off, hv.1, hlt, hv.2.1, fun k hk j hj => ?_⟩
  have e := acCells_get l k hk j hj
  have z : j < (enAc l[k]).length := hj
  have hu := List.getElem?_eq_getElem z
  generalize (enAc l[k])[j] = u at hu
  rw [hu] at e ⊢
  have := hc _ _ e
  rwa [← Nat.add_assoc] at this
def Arr61 (C : Array Value) (f : Nat → Nat) : Prop := C.size = 61 ∧ ∀ t, t < 60 → C[t]? = some (.int .i64 ((f t : Nat) : Int))
theorem Arr61.up {C : Array Value} {f : Nat → Nat} (h : Arr61 C f) {s : Nat} (v : Nat) (hs : s < 60) : Arr61 (C.setIfInBounds s (.int .i64 (v : Int))) (upN f s v) := by
  refine ⟨by simpa using h.1, fun t ht => ?_⟩
  unfold upN
  have := h.1
  by_cases e : t = s
  · subst e
    rw [if_pos rfl, Array.getElem?_setIfInBounds_self_of_lt (by omega)]
  · rw [if_neg e, Array.getElem?_setIfInBounds_ne (by omega)]
    exact h.2 t ht
def z61 : Array Value := Array.replicate 61 (.int .i64 0)
theorem z61_is (w : World) : (zeroValue 50).run Try.prog w = .ok (.agg z61) w := by kernel_rfl
theorem Arr61.zero : Arr61 z61 (fun _ => 0) := by
  refine ⟨by simp [z61], fun t ht => ?_⟩
  have h : t < 61 := by omega
  simp [z61, h]
theorem arr61_cell {W : World} {N : Nat} {C : Array Value} {f : Nat → Nat} (h : Arr61 C f) (hb : W.heap[N]? = some (.cells C 50 (0, 0))) {s : Nat} (hs : s < 60) : W.cell? ⟨N, s, none⟩ = some (.int .i64 ((f s : Nat) : Int)) ∧ ∀ o, W.frozen? ⟨N, o, none⟩ = false :=
  ⟨by rw [cell_of_row W N s C _ (0, 0) hb]; exact h.2 s hs, fun o => by simp [World.frozen?, hb]⟩
/-- The packet that the k-th act sends. -/
abbrev sdP (p : Pk) (k : Nat) : Pk := ⟨p.f, p.t, p.fl, p.tl, (k : Int) + 1, (k : Int), p.x⟩
theorem OI.send {l : List Ac} {k : Nat} {R : Nat → List Pk} {fs ft : Nat → Nat} (h : OI l k R fs ft) (hk : k < l.length) (h60 : k < 60) (hE : sendE R (sdP l[k].p k) = 0) : OI l (k + 1) (sendR R (sdP l[k].p k)) (upN fs k (fs k + 1)) ft := by
  unfold sendE at hE
  split at hE
  · rename_i hc
    split at hE
    · rename_i hn
      have hh := chk_hop hc
      have e : sendR R (sdP l[k].p k) = up R (rix l[k].p.f l[k].p.t) (R (rix l[k].p.f l[k].p.t) ++ [sdP l[k].p k]) := by unfold sendR; rw [if_pos ⟨hc, hn⟩]
      rw [e]
      obtain ⟨-, h2, h3⟩ := rix_lt hh
      refine h.add hh rfl ⟨k, rfl, by omega, h60, rfl, h2.symm, h3.symm, ?_⟩ hn
      simp [List.getD, hk]
    · cases hE
  · cases hE
theorem send_no {R : Nat → List Pk} {p : Pk} (hE : sendE R p ≠ 0) : sendR R p = R := by
  unfold sendE at hE
  unfold sendR
  split at hE
  · rename_i hc
    split at hE
    · exact absurd rfl hE
    · rename_i hn
      rw [if_neg fun h => hn h.2]
  · rename_i hc
    rw [if_neg fun h => hc h.1]
theorem OI.take {l : List Ac} {k : Nat} {R : Nat → List Pk} {A : Nat → Bool} {fs ft : Nat → Nat} (h : OI l k R fs ft) (hk : k ≤ l.length) (h60 : k ≤ 60) {f t i : Int} (hE : takeE R A f t i = 0) :
    ∃ (a : Nat) (fl tl : Int) (hl : a < l.length), a < 60 ∧ takeP R A f t i = ⟨f, t, fl, tl, (a : Int) + 1, (a : Int), l[a].p.x⟩ ∧ OI l k (takeR R A f t i) fs (upN ft a (ft a + 1)) ∧ ft a ≤ 1000 := by
  have hlk : lookI R f t i = 0 := by
    unfold takeE at hE
    split at hE
    · assumption
    · exact absurd hE (by assumption)
  obtain ⟨hh, n, rfl, hn⟩ := look_ok hlk
  obtain ⟨a, h1, h2, h3, h4⟩ := h.cut hh hn
  obtain ⟨a', e1, e2, e3, e4, e5, e6, e7⟩ := h3
  obtain rfl : a' = a := by omega
  obtain ⟨-, r2, r3⟩ := rix_lt hh
  have hal : a' < l.length := by omega
  have eP : takeP R A f t (n : Int) = (R (rix f t))[n] := by unfold takeP; rw [if_pos hE]; simp [hn]
  have eR : takeR R A f t (n : Int) = up R (rix f t) (cutP (R (rix f t)) n) := by unfold takeR; rw [if_pos hE]; simp
  refine ⟨a', (R (rix f t))[n].fl, (R (rix f t))[n].tl, hal, h2, ?_, by rw [eR]; exact h4, ?_⟩
  · rw [eP]
    rw [r2] at e5
    rw [r3] at e6
    have e8 : (l.getD a' zAc).p.x = l[a'].p.x := by simp [List.getD, hal]
    rw [e8] at e7
    generalize (R (rix f t))[n] = q at *
    obtain ⟨q1, q2, q3, q4, q5, q6, q7⟩ := q
    dsimp only at e1 e4 e5 e6 e7
    subst e1 e4 e5 e6 e7
    rfl
  · have := h.ct a' h2
    have := h.fb a'
    omega
theorem takeR_no {R : Nat → List Pk} {A : Nat → Bool} {f t i : Int} (hE : takeE R A f t i ≠ 0) : takeR R A f t i = R := by unfold takeR; rw [if_neg hE]
theorem OI.twice {l : List Ac} {k : Nat} {R : Nat → List Pk} {fs ft : Nat → Nat} (h : OI l k R fs ft) {f t i : Int} (hE : twiceE R f t i = 0) :
    ∃ (n a : Nat), i = (n : Int) ∧ ∃ hn : n < (rowL R f t).length, (rowL R f t)[n].ak = (a : Int) ∧ a < 60 ∧ OI l (k + 1) (twiceR R f t i) (upN fs a (fs a + 1)) ft := by
  have hb := hE
  unfold twiceE at hb
  split at hb
  · rename_i hlk
    split at hb
    · rename_i hcn
      obtain ⟨hh, n, rfl, hn⟩ := look_ok hlk
      have er : rowL R f t = R (rix f t) := by unfold rowL; rw [if_pos hh]
      obtain ⟨hlt, -, -⟩ := rix_lt hh
      have hok := h.el _ hlt _ (List.getElem_mem hn)
      obtain ⟨a, e1, e2⟩ := id hok
      have eR : twiceR R f t (n : Int) = up R (rix f t) (R (rix f t) ++ [(R (rix f t))[n]]) := by unfold twiceR; rw [if_pos hE]; simp [hn]
      refine ⟨n, a, rfl, by rw [er]; exact hn, ?_, e2.2.1, ?_⟩
      · simp only [er]; exact e1
      · rw [eR]
        exact h.add hh e1 (hok.more (by omega)) hcn
    · cases hb
  · rename_i hlk
    exact absurd hb hlk
theorem twice_no {R : Nat → List Pk} {f t i : Int} (hE : twiceE R f t i ≠ 0) : twiceR R f t i = R := by unfold twiceR; rw [if_neg hE]
theorem OI.other {l : List Ac} {k : Nat} {R : Nat → List Pk} {fs ft : Nat → Nat} (h : OI l k R fs ft) (x : Ac) (hcl : cntN (clrR R x.i) 256 ≤ cntN R 256) : OI l k (doR R x) fs ft := by
  unfold doR
  split
  · unfold loseR
    split
    · rename_i hlk
      obtain ⟨hh, n, hx, hn⟩ := look_ok hlk
      obtain ⟨a, h1, h2, h3, h4⟩ := h.cut hh hn
      rw [hx]
      refine (show OI l k _ fs _ from ?_)
      have : ((n : Int)).toNat = n := by simp
      rw [this]
      exact h4.less fun b => by unfold upN; split <;> (try subst_vars) <;> omega
    · exact h
  · split
    · unfold clrR at hcl ⊢
      split
      · rename_i hn
        rw [if_pos hn] at hcl
        exact h.clear _ _ hcl
      · exact h
    · exact h
theorem clr_cnt {R : Nat → List Pk} (i : Int) : ∀ n, cntN (clrR R i) n ≤ cntN R n
  | 0 => Nat.le_refl _
  | n + 1 => by
    have := clr_cnt (R := R) i n
    have h2 : (clrR R i n).length ≤ (R n).length := by
      unfold clrR
      split
      · unfold clrK; split
        · simp
        · exact Nat.le_refl _
      · exact Nat.le_refl _
    show cntN (clrR R i) n + _ ≤ cntN R n + _
    omega
end Go.Proofs.Ythbhgblgacoklaa
