/- The reference's Cut: its walk. -/
import Derived.Test.YthbhgblgacoklaaHY
namespace Go.Proofs.Ythbhgblgacoklaa
open Go.RowKit

def h2V (l : List (Int × Int)) : List Value := l.flatMap fun x => [.int .i64 x.1, .int .i64 x.2]
theorem h2V_get : ∀ (l : List (Int × Int)) (k : Nat) (h : k < l.length) (i : Nat), i < 2 → (h2V l)[k * 2 + i]? = ([Value.int .i64 l[k].1, .int .i64 l[k].2])[i]?
  | [], k, h, _, _ => absurd h (by simp)
  | d :: D, 0, _, i, hi => by
    rw [h2V, List.flatMap_cons, Nat.zero_mul, Nat.zero_add, List.getElem?_append_left (by show i < 2; exact hi)]
    rfl
  | d :: D, k + 1, h, i, hi => by
    have z : ([Value.int .i64 d.1, .int .i64 d.2]).length = 2 := rfl
    rw [h2V, List.flatMap_cons, List.getElem?_append_right (by omega), show (k + 1) * 2 + i - ([Value.int .i64 d.1, .int .i64 d.2]).length = k * 2 + i by omega]
    have := h2V_get D k (by simpa using h) i hi
    rw [h2V] at this
    rw [this]
    rfl
theorem hp_at {w : World} {a : Option Addr} {cap : Nat} {l : List (Int × Int)} (h : IsRow w 2 (.slice a l.length cap) l.length (h2V l)) (h0 : 0 < l.length) :
    ∃ b off, a = some ⟨b, off, none⟩ ∧ b < w.heap.size ∧ l.length ≤ cap ∧ ∀ (k : Nat) (hk : k < l.length), w.cell? ⟨b, off + k * 2, none⟩ = some (.int .i64 l[k].1) ∧ w.cell? ⟨b, off + k * 2 + 1, none⟩ = some (.int .i64 l[k].2) := by
  obtain ⟨b, off, cap', hv, hlt, q1, q2, hc⟩ := h.open (by omega)
  simp only [Value.slice.injEq] at hv
  refine ⟨b, off, hv.1, hlt, by omega, fun k hk => ⟨?_, ?_⟩⟩
  · exact hc (k * 2) (.int .i64 l[k].1) (by have := h2V_get l k hk 0 (by omega); rw [Nat.add_zero] at this; rw [this]; rfl)
  · have := hc (k * 2 + 1) (.int .i64 l[k].2) (by rw [h2V_get l k hk 1 (by omega)]; rfl)
    rwa [← Nat.add_assoc] at this
/-- Is a hop one of those, either way round? -/
def eqH (x : Int × Int) (f t : Int) : Bool := ((x.1 == f) && (x.2 == t)) || ((x.1 == t) && (x.2 == f))
def cutA (A : List (Int × Int)) (f t : Int) : Bool := A.any fun x => eqH x f t
theorem cutA_at {A : List (Int × Int)} {f t : Int} {k : Nat} (hk : k < A.length) : cutA (A.drop k) f t = (eqH A[k] f t || cutA (A.drop (k + 1)) f t) := by
  rw [List.drop_eq_getElem_cons hk]
  rfl
set_option maxRecDepth 100000 in
set_option maxHeartbeats 4000000 in
theorem refCut_any (v u : Value) (A : List (Int × Int)) (f t : Int) (w : World) (hr : IsRow w 2 u A.length (h2V A)) (hl : A.length ≤ 100000) :
    Calls Try.prog 17 #[.agg #[v, u], hV f t] w fun e w' => e = .returned (.bool (cutA A f t)) ∧ Below w.heap.size w w' := by
  obtain ⟨a0, cap0, rfl⟩ := hr.form
  obtain ⟨W0, hW0⟩ : ∃ W0, W0 = (w.alloc (.cells #[v, .slice a0 A.length cap0] 28)).alloc (.cells #[.int .i64 f, .int .i64 t] 40) := ⟨_, rfl⟩
  have b0 : Below w.heap.size w W0 := by rw [hW0]; exact (al_b w _).trans ((al_b _ _).mono (al_b w _).size)
  have hn1 : w.heap.size + 1 < W0.heap.size := by rw [hW0]; simp
  have g0 : W0.cell? ⟨w.heap.size, 1, none⟩ = some (.slice a0 A.length cap0) := by rw [hW0]; simp
  have g1 : W0.cell? ⟨w.heap.size + 1, 0, none⟩ = some (.int .i64 f) := by rw [hW0]; simp
  have g2 : W0.cell? ⟨w.heap.size + 1, 1, none⟩ = some (.int .i64 t) := by rw [hW0]; simp
  have HG : Hid (∀ w', Below W0.heap.size W0 w' → w'.cell? ⟨w.heap.size, 1, none⟩ = some (.slice a0 A.length cap0) ∧ w'.cell? ⟨w.heap.size + 1, 0, none⟩ = some (.int .i64 f) ∧ w'.cell? ⟨w.heap.size + 1, 1, none⟩ = some (.int .i64 t) ∧ IsRow w' 2 (.slice a0 A.length cap0) A.length (h2V A) ∧ Below w.heap.size w w') := fun w' h =>
    ⟨(h.cell (p := ⟨w.heap.size, 1, none⟩) (by show w.heap.size < _; omega)).trans g0, (h.cell (p := ⟨w.heap.size + 1, 0, none⟩) hn1).trans g1, (h.cell (p := ⟨w.heap.size + 1, 1, none⟩) hn1).trans g2, hr.below (b0.trans (h.mono b0.size)), b0.trans (h.mono b0.size)⟩
  have HE : Hid (cutA A f t = cutA (A.drop 0) f t) := rfl
  clear g0 g1 g2 b0 hr
  go_enter Try.func17, Try.ntmps17
  go_wp2_with fail
  rw [← hW0]
  clear hW0
  go_loopw [5] (fun i wr => ∃ k : Nat, k ≤ A.length ∧ i = .int .i64 (k : Int) ∧ Hid (cutA A f t = cutA (A.drop k) f t) ∧ Below W0.heap.size W0 wr) (fun i _ => A.length - (intOf i).toNat)
  case atStart => exact ⟨0, Nat.zero_le _, rfl, rfl, Below.refl _ _⟩
  case round =>
    obtain ⟨k, hk, rfl, HS, hB⟩ := hrel
    obtain ⟨g0, g1, g2, hrow, hbw⟩ := HG.out wr hB
    have HB : Hid (Below W0.heap.size W0 wr) := hB
    have HBw : Hid (Below w.heap.size w wr) := hbw
    by_cases hlk : k < A.length
    · obtain ⟨b, off, rfl, hlt, hcap, hc⟩ := hp_at hrow (by omega)
      obtain ⟨c0, c1⟩ := hc k hlk
      have q1 : (0 : Int) ≤ (k : Int) := by omega
      have q2 : (k : Int) < (A.length : Int) := by omega
      have HK : Hid (cutA A f t = (eqH A[k] f t || cutA (A.drop (k + 1)) f t)) := HS.out.trans (cutA_at hlk)
      generalize A[k]'hlk = x at *
      obtain ⟨y, z⟩ := x
      dsimp only at c0 c1
      have HQ : Hid (eqH (y, z) f t = (((y == f) && (z == t)) || ((y == t) && (z == f)))) := rfl
      clear hB hbw hrow hc HS
      by_cases h1 : y = f
      · subst h1
        by_cases h2 : z = t
        · subst h2
          have HT : Hid (cutA A y z = true) := by show _ = _; rw [HK.out, HQ.out]; simp
          clear HK HQ
          go_wp2_with fail
          go_quiet (fail)
          go_wp2
          go_ret
          exact ⟨by rw [HT.out]; rfl, drewN_b HBw.out _⟩
        · have e2 : (z == t) = false := by rw [beq_eq_false_iff_ne]; exact h2
          by_cases h3 : y = t
          · subst h3
            clear h2
            have HT : Hid (cutA A y y = cutA (A.drop (k + 1)) y y) := by show _ = _; rw [HK.out, HQ.out]; simp [e2]
            clear HK HQ
            go_wp2_with fail
            go_quiet (fail)
            go_wp2
            go_roundw
            case rel => exact ⟨k + 1, by omega, by simp, HT, drewN_b HB.out _⟩
            case measure => simp [intOf]; omega
          · have e3 : (y == t) = false := by rw [beq_eq_false_iff_ne]; exact h3
            clear h2 h3
            have HT : Hid (cutA A y t = cutA (A.drop (k + 1)) y t) := by show _ = _; rw [HK.out, HQ.out]; simp [e2, e3]
            clear HK HQ
            go_wp2_with fail
            go_quiet (fail)
            go_wp2
            go_roundw
            case rel => exact ⟨k + 1, by omega, by simp, HT, drewN_b HB.out _⟩
            case measure => simp [intOf]; omega
      · have e1 : (y == f) = false := by rw [beq_eq_false_iff_ne]; exact h1
        by_cases h3 : y = t
        · subst h3
          by_cases h4 : z = f
          · subst h4
            clear h1
            have HT : Hid (cutA A z y = true) := by show _ = _; rw [HK.out, HQ.out]; simp
            clear HK HQ
            go_wp2_with fail
            go_quiet (fail)
            go_wp2
            go_ret
            exact ⟨by rw [HT.out]; rfl, drewN_b HBw.out _⟩
          · have e4 : (z == f) = false := by rw [beq_eq_false_iff_ne]; exact h4
            clear h1 h4
            have HT : Hid (cutA A f y = cutA (A.drop (k + 1)) f y) := by show _ = _; rw [HK.out, HQ.out]; simp [e1, e4]
            clear HK HQ
            go_wp2_with fail
            go_quiet (fail)
            go_wp2
            go_roundw
            case rel => exact ⟨k + 1, by omega, by simp, HT, drewN_b HB.out _⟩
            case measure => simp [intOf]; omega
        · have e3 : (y == t) = false := by rw [beq_eq_false_iff_ne]; exact h3
          clear h1 h3
          have HT : Hid (cutA A f t = cutA (A.drop (k + 1)) f t) := by show _ = _; rw [HK.out, HQ.out]; simp [e1, e3]
          clear HK HQ
          go_wp2_with fail
          go_quiet (fail)
          go_wp2
          go_roundw
          case rel => exact ⟨k + 1, by omega, by simp, HT, drewN_b HB.out _⟩
          case measure => simp [intOf]; omega
    · have hk' : k = A.length := by omega
      subst hk'
      have HZ : Hid (cutA A f t = false) := by show _ = _; rw [HS.out, List.drop_length]; rfl
      clear hB hbw hrow
      go_wp2
      go_ret
      exact ⟨by rw [HZ.out]; rfl, HBw.out⟩
end Go.Proofs.Ythbhgblgacoklaa
