/- The reference's Is, Places: walks. -/
import Derived.Test.YthbhgblgacoklaaHO
namespace Go.Proofs.Ythbhgblgacoklaa
open Go.RowKit

set_option maxRecDepth 100000 in
theorem refIs_any (f t : Int) (w : World) : Calls Try.prog 14 #[hV f t] w fun e w' => e = .returned (.bool (hopB f t)) ∧ Below w.heap.size w w' := by
  have hA := al_b w (.cells #[.int .i64 f, .int .i64 t] 40)
  have HA : Hid (Below w.heap.size w (w.alloc (.cells #[.int .i64 f, .int .i64 t] 40))) := hA
  clear hA
  by_cases h1 : 1 ≤ f
  rotate_left
  · have e : hopB f t = false := by simp [hopB, nodeB, h1]
    rw [e]
    clear e
    go_enter Try.func14, Try.ntmps14
    go_wp2
    go_ret
    exact ⟨rfl, HA.out⟩
  by_cases h2 : f ≤ 15
  rotate_left
  · have e : hopB f t = false := by simp [hopB, nodeB, h2]
    rw [e]
    clear e
    go_enter Try.func14, Try.ntmps14
    go_wp2
    go_ret
    exact ⟨rfl, HA.out⟩
  by_cases h3 : 1 ≤ t
  rotate_left
  · have e : hopB f t = false := by simp [hopB, nodeB, h3]
    rw [e]
    clear e
    go_enter Try.func14, Try.ntmps14
    go_wp2
    go_ret
    exact ⟨rfl, HA.out⟩
  by_cases h4 : t ≤ 15
  rotate_left
  · have e : hopB f t = false := by simp [hopB, nodeB, h4]
    rw [e]
    clear e
    go_enter Try.func14, Try.ntmps14
    go_wp2
    go_ret
    exact ⟨rfl, HA.out⟩
  have HE : Hid (hopB f t = (f != t)) := by show _ = _; simp [hopB, nodeB, h1, h2, h3, h4, bne]; rw [Bool.eq_iff_iff]; simp
  rw [HE.out]
  go_enter Try.func14, Try.ntmps14
  go_wp2
  go_ret
  exact ⟨rfl, HA.out⟩
/-- Where a hop's packets stand among the first k. -/
def plc (L : List Pk) (f t : Int) : Nat → List Nat
  | 0 => []
  | k + 1 => plc L f t k ++ if (L.getD k zP).f = f ∧ (L.getD k zP).t = t then [k] else []
theorem plc_len (L : List Pk) (f t : Int) : ∀ k, (plc L f t k).length ≤ k
  | 0 => Nat.le_refl _
  | k + 1 => by
    have := plc_len L f t k
    unfold plc
    rw [List.length_append]
    split <;> simp <;> omega
def nCells (l : List Nat) : List Value := l.map fun (i : Nat) => .int .i64 (i : Int)
theorem nCells_snoc (l : List Nat) (i : Nat) : nCells (l ++ [i]) = nCells l ++ [.int .i64 (i : Int)] := by simp [nCells]
theorem plc_yes {L : List Pk} {f t : Int} {k : Nat} (hk : k < L.length) (h1 : L[k].f = f) (h2 : L[k].t = t) : plc L f t (k + 1) = plc L f t k ++ [k] := by
  have e : L.getD k zP = L[k] := by simp [List.getD, hk]
  show plc L f t k ++ (if (L.getD k zP).f = f ∧ (L.getD k zP).t = t then [k] else []) = _
  rw [e, if_pos ⟨h1, h2⟩]
theorem plc_no {L : List Pk} {f t : Int} {k : Nat} (hk : k < L.length) (h : ¬ (L[k].f = f ∧ L[k].t = t)) : plc L f t (k + 1) = plc L f t k := by
  have e : L.getD k zP = L[k] := by simp [List.getD, hk]
  show plc L f t k ++ (if (L.getD k zP).f = f ∧ (L.getD k zP).t = t then [k] else []) = _
  rw [e, if_neg h, List.append_nil]
theorem pk_at {w : World} {a : Option Addr} {cap : Nat} {l : List Pk} (h : IsRow w 7 (.slice a l.length cap) l.length (pCells l)) (h0 : 0 < l.length) :
    ∃ b off, a = some ⟨b, off, none⟩ ∧ b < w.heap.size ∧ l.length ≤ cap ∧ ∀ (k : Nat) (hk : k < l.length), w.cell? ⟨b, off + k * 7, none⟩ = some (.int .i64 l[k].f) ∧ w.cell? ⟨b, off + k * 7 + 1, none⟩ = some (.int .i64 l[k].t) ∧ w.cell? ⟨b, off + k * 7 + 2, none⟩ = some (.int .i64 l[k].fl) ∧ w.cell? ⟨b, off + k * 7 + 3, none⟩ = some (.int .i64 l[k].tl) ∧ w.cell? ⟨b, off + k * 7 + 4, none⟩ = some (.int .i64 l[k].sq) ∧ w.cell? ⟨b, off + k * 7 + 5, none⟩ = some (.int .i64 l[k].ak) ∧ w.cell? ⟨b, off + k * 7 + 6, none⟩ = some (.string l[k].x) := by
  obtain ⟨b, off, cap', hv, hlt, q1, q2, hc⟩ := h.open (by omega)
  simp only [Value.slice.injEq] at hv
  refine ⟨b, off, hv.1, hlt, by omega, fun k hk => ⟨?_, ?_, ?_, ?_, ?_, ?_, ?_⟩⟩
  · have := hc (k * 7) (.int .i64 l[k].f) (by have := pCells_get l k hk 0 (by omega); rw [Nat.add_zero] at this; rw [this]; rfl)
    exact this
  · have := hc (k * 7 + 1) (.int .i64 l[k].t) (by rw [pCells_get l k hk 1 (by omega)]; rfl)
    rwa [← Nat.add_assoc] at this
  · have := hc (k * 7 + 2) (.int .i64 l[k].fl) (by rw [pCells_get l k hk 2 (by omega)]; rfl)
    rwa [← Nat.add_assoc] at this
  · have := hc (k * 7 + 3) (.int .i64 l[k].tl) (by rw [pCells_get l k hk 3 (by omega)]; rfl)
    rwa [← Nat.add_assoc] at this
  · have := hc (k * 7 + 4) (.int .i64 l[k].sq) (by rw [pCells_get l k hk 4 (by omega)]; rfl)
    rwa [← Nat.add_assoc] at this
  · have := hc (k * 7 + 5) (.int .i64 l[k].ak) (by rw [pCells_get l k hk 5 (by omega)]; rfl)
    rwa [← Nat.add_assoc] at this
  · have := hc (k * 7 + 6) (.string l[k].x) (by rw [pCells_get l k hk 6 (by omega)]; rfl)
    rwa [← Nat.add_assoc] at this
theorem info_int : (Try.prog.info? 3).map (fun i => (i.zero, i.size, i.bytes)) = some (some (.int .i64 0), 1, 8) := by kernel_rfl
def PlPost (l : List Nat) (w : World) (e : Ending) (w' : World) : Prop := ∃ v, e = .returned v ∧ IsRow w' 1 v l.length (nCells l) ∧ Below w.heap.size w w'
set_option maxRecDepth 100000 in
set_option maxHeartbeats 4000000 in
theorem places_any (v u : Value) (L : List Pk) (f t : Int) (w : World) (hr : IsRow w 7 v L.length (pCells L)) (hl : L.length ≤ 100000) :
    Calls Try.prog 12 #[.agg #[v, u], hV f t] w fun e w' => PlPost (plc L f t L.length) w e w' := by
  obtain ⟨a0, cap0, rfl⟩ := hr.form
  obtain ⟨i0, hi0, hz0, hz1, hz2⟩ := info_parts info_int
  obtain ⟨W0, hW0⟩ : ∃ W0, W0 = (w.alloc (.cells #[.slice a0 L.length cap0, u] 28)).alloc (.cells #[.int .i64 f, .int .i64 t] 40) := ⟨_, rfl⟩
  have b0 : Below w.heap.size w W0 := by rw [hW0]; exact (al_b w _).trans ((al_b _ _).mono (al_b w _).size)
  have hn1 : w.heap.size + 1 < W0.heap.size := by rw [hW0]; simp
  have g0 : W0.cell? ⟨w.heap.size, 0, none⟩ = some (.slice a0 L.length cap0) := by rw [hW0]; simp
  have g1 : W0.cell? ⟨w.heap.size + 1, 0, none⟩ = some (.int .i64 f) := by rw [hW0]; simp
  have g2 : W0.cell? ⟨w.heap.size + 1, 1, none⟩ = some (.int .i64 t) := by rw [hW0]; simp
  have HG : Hid (∀ w', Below W0.heap.size W0 w' → w'.cell? ⟨w.heap.size, 0, none⟩ = some (.slice a0 L.length cap0) ∧ w'.cell? ⟨w.heap.size + 1, 0, none⟩ = some (.int .i64 f) ∧ w'.cell? ⟨w.heap.size + 1, 1, none⟩ = some (.int .i64 t) ∧ IsRow w' 7 (.slice a0 L.length cap0) L.length (pCells L) ∧ Below w.heap.size w w') := fun w' h =>
    ⟨(h.cell (p := ⟨w.heap.size, 0, none⟩) (by show w.heap.size < _; omega)).trans g0, (h.cell (p := ⟨w.heap.size + 1, 0, none⟩) hn1).trans g1, (h.cell (p := ⟨w.heap.size + 1, 1, none⟩) hn1).trans g2, hr.below (b0.trans (h.mono b0.size)), b0.trans (h.mono b0.size)⟩
  clear g0 g1 g2 b0 hr
  go_enter Try.func12, Try.ntmps12
  go_wp2_with fail
  rw [← hW0]
  clear hW0
  go_loopw [5, 6] (fun o i wr => ∃ k : Nat, k ≤ L.length ∧ i = .int .i64 (k : Int) ∧ wr.ownsRow W0.heap.size 3 1 o (plc L f t k).length (nCells (plc L f t k)) ∧ Below W0.heap.size W0 wr) (fun _ i _ => L.length - (intOf i).toNat)
  case atStart => exact ⟨0, Nat.zero_le _, rfl, World.ownsRow_nil _ _ _ _, Below.refl _ _⟩
  case round =>
    obtain ⟨k, hk, rfl, hown, hB⟩ := hrel
    have hsz := hB.size
    obtain ⟨g0, g1, g2, hrow, hbw⟩ := HG.out wr hB
    by_cases hlk : k < L.length
    · obtain ⟨b, off, rfl, hlt, hcap, hc⟩ := pk_at hrow (by omega)
      obtain ⟨c0, c1, -⟩ := hc k hlk
      have q1 : (0 : Int) ≤ (k : Int) := by omega
      have q2 : (k : Int) < (L.length : Int) := by omega
      have HB : Hid (Below W0.heap.size W0 wr) := hB
      have hpl := plc_len L f t k
      have HPl : Hid ((plc L f t k).length ≤ k) := hpl
      by_cases h1 : L[k].f = f
      · by_cases h2 : L[k].t = t
        · have HT : Hid (nCells (plc L f t (k + 1)) = nCells (plc L f t k) ++ [.int .i64 (k : Int)] ∧ (plc L f t (k + 1)).length = (plc L f t k).length + 1) := by
            show _ ∧ _
            rw [plc_yes hlk h1 h2, nCells_snoc]
            simp
          rw [h1] at c0
          rw [h2] at c1
          have HO : Hid (∀ n, (wr.drewN n).ownsRow W0.heap.size 3 1 u5 (plc L f t k).length (nCells (plc L f t k)) ∧ Below W0.heap.size W0 (wr.drewN n) ∧ (wr.drewN n).heap.size = wr.heap.size) := fun n => ⟨hown.kept (row := none) ⟨rfl, rfl, rfl, Nat.le_refl _, fun _ _ _ => rfl⟩ (by cases hv : u5.ownBlock <;> simp), drewN_b hB n, rfl⟩
          clear h1 h2 hown hB hc hrow hbw hpl
          go_wp2_with fail
          go_quiet (fail)
          obtain ⟨HO2, HB2, hs2⟩ := HO.out nq
          have hO2 : Hid _ := HO2
          have hB2 : Hid _ := HB2
          have hs3 := HB2.size
          clear HO HO2 HB2 g0 g1 g2 c0 c1 HB hs2
          generalize wr.drewN nq = w3 at *
          have hpl := HPl.out
          go_wp2_with (at_builtin; go_loud (refine wpl_app w3 rfl (.tmp 34) (.tmp 36) 41 3 rfl i0 _ 8 Try.underlying41 hi0 hz0 hz1 hz2 rfl W0.heap.size u5 (plc L f t k).length _ rfl hO2.out (.int .i64 (k : Int)) rfl rfl (by omega) (by unfold maxLen; omega) (by omega) ?_; intro v4 w4 hown4 hb4 hne4))
          have HO4 : Hid (w4.ownsRow W0.heap.size 3 1 v4 (plc L f t (k + 1)).length (nCells (plc L f t (k + 1)))) := by show World.ownsRow _ _ _ _ _ _ _; rw [HT.out.1, HT.out.2]; exact hown4
          have HB4 : Hid (Below W0.heap.size W0 w4) := hB2.out.trans hb4
          clear hown4 hb4 HT hO2 hB2
          go_wp2
          go_roundw
          case rel => exact ⟨k + 1, by omega, by simp, HO4.out, HB4.out⟩
          case measure => simp [intOf]; omega
        · have HT : Hid (plc L f t (k + 1) = plc L f t k) := plc_no hlk fun h => h2 h.2
          have e2 : (L[k].t == t) = false := by rw [beq_eq_false_iff_ne]; exact h2
          rw [h1] at c0
          have HO : Hid (wr.ownsRow W0.heap.size 3 1 u5 (plc L f t k).length (nCells (plc L f t k))) := hown
          generalize L[k].t = y at *
          clear h1 h2 hown hB hc hrow hbw hpl
          go_wp2_with fail
          go_quiet (fail)
          go_wp2
          go_roundw
          case rel => exact ⟨k + 1, by omega, by simp, by rw [HT.out]; exact HO.out.kept (row := none) ⟨rfl, rfl, rfl, Nat.le_refl _, fun _ _ _ => rfl⟩ (by cases hv : u5.ownBlock <;> simp), drewN_b HB.out _⟩
          case measure => simp [intOf]; omega
      · have HT : Hid (plc L f t (k + 1) = plc L f t k) := plc_no hlk fun h => h1 h.1
        have e1 : (L[k].f == f) = false := by rw [beq_eq_false_iff_ne]; exact h1
        have HO : Hid (wr.ownsRow W0.heap.size 3 1 u5 (plc L f t k).length (nCells (plc L f t k))) := hown
        generalize L[k].f = y at *
        clear h1 hown hB hc hrow hbw hpl c1
        go_wp2_with fail
        go_quiet (fail)
        go_wp2
        go_roundw
        case rel => exact ⟨k + 1, by omega, by simp, by rw [HT.out]; exact HO.out.kept (row := none) ⟨rfl, rfl, rfl, Nat.le_refl _, fun _ _ _ => rfl⟩ (by cases hv : u5.ownBlock <;> simp), drewN_b HB.out _⟩
        case measure => simp [intOf]; omega
    · have hk' : k = L.length := by omega
      subst hk'
      have HX : Hid (IsRow wr 1 u5 (plc L f t L.length).length (nCells (plc L f t L.length)) ∧ Below w.heap.size w wr) := ⟨IsRow.own hown, hbw⟩
      clear hown hB hrow hbw
      go_wp2
      go_ret
      exact ⟨_, rfl, HX.out.1, HX.out.2⟩
end Go.Proofs.Ythbhgblgacoklaa
