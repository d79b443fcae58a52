/- NetRows: its walk. -/
import Derived.Test.YthbhgblgacoklaaHZm
import Derived.Deep.CutBlock
import Derived.Deep.DeepCutAuto
namespace Go.Proofs.Ythbhgblgacoklaa
open Go.RowKit

theorem rowS_nil (sz : Nat) : RowS [] sz (.slice none 0 0) 0 [] := fun W _ => IsRow.nil W sz
theorem RS.to {w W : World} {g : Nat} {K : List (Nat × Obj)} {R : Nat → List Pk} {A : Nat → Bool} {v u : Value} {L : List Pk} {B : List (Int × Int)} (h : RS w g K W R A v u L B) : Below w.heap.size w W := by
  obtain ⟨KL, KA, h, -, -⟩ := h
  exact h.to
theorem RS.below {w W W' : World} {g : Nat} {K : List (Nat × Obj)} {R : Nat → List Pk} {A : Nat → Bool} {v u : Value} {L : List Pk} {B : List (Int × Int)} (h : RS w g K W R A v u L B) (hb : Below W.heap.size W W') : RS w g K W' R A v u L B := by
  obtain ⟨KL, KA, h, h1, h2⟩ := h
  exact ⟨KL, KA, h.below hb, h1, h2⟩
theorem RS.blk {w W : World} {g : Nat} {K : List (Nat × Obj)} {R : Nat → List Pk} {A : Nat → Bool} {v u : Value} {L : List Pk} {B : List (Int × Int)} (h : RS w g K W R A v u L B) : ∀ p ∈ K, W.heap[p.1]? = some p.2 := by
  obtain ⟨KL, KA, h, -, -⟩ := h
  exact fun p hp => h.blk p (by simp [hp])
theorem RS.rows {w W : World} {g : Nat} {K : List (Nat × Obj)} {R : Nat → List Pk} {A : Nat → Bool} {v u : Value} {L : List Pk} {B : List (Int × Int)} (h : RS w g K W R A v u L B) : IsRow W 7 v L.length (pCells L) ∧ IsRow W 2 u B.length (h2V B) := by
  obtain ⟨KL, KA, h, h1, h2⟩ := h
  exact ⟨h1 W fun p hp => h.blk p (by simp [hp]), h2 W fun p hp => h.blk p (by simp [hp])⟩
theorem RS.net {w W : World} {g : Nat} {K : List (Nat × Obj)} {R : Nat → List Pk} {A : Nat → Bool} {v u : Value} {L : List Pk} {B : List (Int × Int)} (h : RS w g K W R A v u L B) : ∃ V, NetV w.heap.size W g V R A := by
  obtain ⟨KL, KA, ⟨V, h, -⟩, -, -⟩ := h
  exact ⟨V, h⟩
theorem RS.store {w W : World} {g b : Nat} {R : Nat → List Pk} {A : Nat → Bool} {v u v0 u0 : Value} {L : List Pk} {B : List (Int × Int)} (h : RS w g [(b, nB v0 u0)] W R A v u L B) : RS w g [(b, nB v u)] ((W.setCell ⟨b, 0, none⟩ v).setCell ⟨b, 1, none⟩ u) R A v u L B := by
  obtain ⟨KL, KA, h, h1, h2⟩ := h
  have p1 : ∀ o : Nat × Obj, (o :: (KL ++ KA)).Perm (KL ++ (KA ++ [o])) := fun o => by
    rw [← List.append_assoc]
    exact (List.perm_append_comm (l₁ := [o]) (l₂ := KL ++ KA))
  have q1 := h.perm (p1 (b, nB v0 u0))
  have q2 := (q1.set 0 v).set 1 u
  have q3 : NQ w R A g ((b, nB v u) :: (KL ++ KA)) ((W.setCell ⟨b, 0, none⟩ v).setCell ⟨b, 1, none⟩ u) := by simpa using q2
  exact ⟨KL, KA, q3.perm (p1 (b, nB v u)).symm, h1, h2⟩
theorem RS.alloc {w W : World} {g : Nat} {K : List (Nat × Obj)} {R : Nat → List Pk} {A : Nat → Bool} {v u : Value} {L : List Pk} {B : List (Int × Int)} (h : RS w g K W R A v u L B) (o : Obj) : RS w g (K ++ [(W.heap.size, o)]) (W.alloc o) R A v u L B := by
  obtain ⟨KL, KA, h, h1, h2⟩ := h
  refine ⟨KL, KA, (h.alloc o).perm ?_, h1, h2⟩
  rw [← List.append_assoc, ← List.append_assoc, ← List.append_assoc]
  exact List.perm_append_comm (l₁ := KL ++ KA ++ K) (l₂ := [(W.heap.size, o)])
theorem RS.sub {w W : World} {g : Nat} {K K' : List (Nat × Obj)} {R : Nat → List Pk} {A : Nat → Bool} {v u : Value} {L : List Pk} {B : List (Int × Int)} (h : RS w g K W R A v u L B) (hs : K'.Sublist K) : RS w g K' W R A v u L B := by
  obtain ⟨KL, KA, h, h1, h2⟩ := h
  exact ⟨KL, KA, h.sub (List.Sublist.append (List.Sublist.refl _) (List.Sublist.append (List.Sublist.refl _) hs)), h1, h2⟩
theorem RS.set2 {w W : World} {g b b8 : Nat} {o : Obj} {R : Nat → List Pk} {A : Nat → Bool} {v u : Value} {L : List Pk} {B : List (Int × Int)} (h : RS w g [(b, o), (b8, nlB)] W R A v u L B) (x y : Value) : RS w g [(b, o), (b8, nB x y)] ((W.setCell ⟨b8, 0, none⟩ x).setCell ⟨b8, 1, none⟩ y) R A v u L B := by
  obtain ⟨KL, KA, h, h1, h2⟩ := h
  have p1 : ∀ q : Nat × Obj, (q :: (KL ++ (KA ++ [(b, o)]))).Perm (KL ++ (KA ++ [(b, o), q])) := fun q => by
    have e : KL ++ (KA ++ [(b, o), q]) = (KL ++ (KA ++ [(b, o)])) ++ [q] := by simp
    rw [e]
    exact (List.perm_append_comm (l₁ := [q]) (l₂ := KL ++ (KA ++ [(b, o)])))
  have q1 := h.perm (p1 (b8, nlB))
  have q3 := NQ.res q1 x y
  exact ⟨KL, KA, q3.perm (p1 (b8, nB x y)).symm, h1, h2⟩
/-- How all stands behind k acts. -/
def NS (w : World) (g b k : Nat) (W : World) : Prop := ∃ R A v u L B, RS w g [(b, nB v u)] W R A v u L B ∧ Rel R A L B ∧ L.length ≤ 400 ∧ B.length ≤ k
theorem NS.below {w W W' : World} {g b k : Nat} (h : NS w g b k W) (hb : Below W.heap.size W W') : NS w g b k W' := by
  obtain ⟨R, A, v, u, L, B, h1, h2⟩ := h
  exact ⟨R, A, v, u, L, B, h1.below hb, h2⟩
theorem NS.more {w W : World} {g b k : Nat} (h : NS w g b k W) : NS w g b (k + 1) W := by
  obtain ⟨R, A, v, u, L, B, h1, h2, h3, h4⟩ := h
  exact ⟨R, A, v, u, L, B, h1, h2, h3, by omega⟩
def SB (b : Nat) (v u : Value) (w W : World) : Prop := W.heap[b]? = some (nB v u) ∧ Below w.heap.size w W
theorem SB.al {b : Nat} {v u : Value} {w W : World} (h : SB b v u w W) (o : Obj) : SB b v u w (W.alloc o) :=
  ⟨((al_b W o).block _ (Array.getElem?_eq_some_iff.1 h.1).1).trans h.1, h.2.trans ((al_b W o).mono h.2.size)⟩
theorem SB.drew {b : Nat} {v u : Value} {w W : World} (h : SB b v u w W) : SB b v u w W.drew := ⟨h.1, h.2.trans ((below_drw W).mono h.2.size)⟩
theorem Rel.nth {R : Nat → List Pk} {A : Nat → Bool} {L : List Pk} {B : List (Int × Int)} (h : Rel R A L B) {f t : Int} (hh : hopB f t = true) : (plc L f t L.length).length = (rowL R f t).length ∧ ∀ i (hi : i < (rowL R f t).length), ∃ (a : Nat) (ha : a < L.length), (plc L f t L.length)[i]? = some a ∧ (rowL R f t)[i] = L[a] := by
  have e : rowL R f t = R (rix f t) := by unfold rowL; rw [if_pos hh]
  rw [e]
  refine ⟨?_, fun i hi => ?_⟩
  · rw [(plc_bag hh h.ck L.length (Nat.le_refl _)).1, List.take_length, ← h.rw _ (rix_lt hh).1]
  · have hlk : lookI R f t (i : Int) = 0 := by unfold lookI; rw [if_pos hh, if_neg (by omega)]
    obtain ⟨c1, c2, c3, -⟩ := h.cut hlk
    refine ⟨atI L f t i, c1, by simpa using c2, ?_⟩
    have e2 : (i : Int).toNat = i := by omega
    rw [e2, List.getElem?_eq_getElem hi, List.getD_eq_getElem?_getD, List.getElem?_eq_getElem c1] at c3
    simpa using c3
abbrev SX (b3 b6 b10 : Nat) (f t : Int) (v u : Value) (W1 w : World) : Prop := w.cell? ⟨b3, 0, none⟩ = some (.int .i64 f) ∧ w.cell? ⟨b3, 1, none⟩ = some (.int .i64 t) ∧ w.cell? ⟨b6, 0, none⟩ = some v ∧ w.cell? ⟨b6, 1, none⟩ = some u ∧ w.cell? ⟨b10, 0, none⟩ = some (.int .i64 f) ∧ w.cell? ⟨b10, 1, none⟩ = some (.int .i64 t) ∧ Below W1.heap.size W1 w
theorem SX_b {b3 b6 b10 : Nat} {f t : Int} {v u : Value} {W1 w : World} (s : SX b3 b6 b10 f t v u W1 w) : Below W1.heap.size W1 w := s.2.2.2.2.2.2
theorem SX_drew {b3 b6 b10 : Nat} {f t : Int} {v u : Value} {W1 w : World} (s : SX b3 b6 b10 f t v u W1 w) : SX b3 b6 b10 f t v u W1 w.drew := ⟨s.1, s.2.1, s.2.2.1, s.2.2.2.1, s.2.2.2.2.1, s.2.2.2.2.2.1, s.2.2.2.2.2.2.trans ((below_drw w).mono s.2.2.2.2.2.2.size)⟩
theorem SX_call {b3 b6 b10 : Nat} {f t : Int} {v u : Value} {W1 w w' : World} (H : Hid (∀ W, Below W1.heap.size W1 W → SX b3 b6 b10 f t v u W1 W)) (h : Below w.heap.size w w') (s : SX b3 b6 b10 f t v u W1 w) : SX b3 b6 b10 f t v u W1 w' := H.out _ ((SX_b s).trans (h.mono (SX_b s).size))
theorem cast40 (n : Nat) (h : n ≤ 100000) : IntKind.i64.wrap ((n : Int) + 1) = (n : Int) + 1 := by
  simp only [IntKind.wrap, IntKind.signed, IntKind.bits]
  simp
  omega
theorem acs_all {w W' : World} {l : List Ac} {b off : Nat} (hlt : b < w.heap.size) (hcA : ∀ (a : Nat) (ha : a < l.length) (j : Nat), j < 12 → w.cell? ⟨b, off + a * 12 + j, none⟩ = (enAc l[a])[j]?) (h : Below w.heap.size w W') (a : Nat) (ha : a < l.length) : W'.cell? ⟨b, off + a * 12, none⟩ = some (.int .i64 l[a].k) ∧ W'.cell? ⟨b, off + a * 12 + 1, none⟩ = some (.int .i64 l[a].p.f) ∧ W'.cell? ⟨b, off + a * 12 + 2, none⟩ = some (.int .i64 l[a].p.t) ∧ W'.cell? ⟨b, off + a * 12 + 3, none⟩ = some (.int .i64 l[a].p.fl) ∧ W'.cell? ⟨b, off + a * 12 + 4, none⟩ = some (.int .i64 l[a].p.tl) ∧ W'.cell? ⟨b, off + a * 12 + 5, none⟩ = some (.int .i64 l[a].p.sq) ∧ W'.cell? ⟨b, off + a * 12 + 6, none⟩ = some (.int .i64 l[a].p.ak) ∧ W'.cell? ⟨b, off + a * 12 + 7, none⟩ = some (.string l[a].p.x) ∧ W'.cell? ⟨b, off + a * 12 + 8, none⟩ = some (.int .i64 l[a].f) ∧ W'.cell? ⟨b, off + a * 12 + 9, none⟩ = some (.int .i64 l[a].t) ∧ W'.cell? ⟨b, off + a * 12 + 10, none⟩ = some (.int .i64 l[a].i) ∧ W'.cell? ⟨b, off + a * 12 + 11, none⟩ = some (.bool l[a].on) := by
  have y := fun j (hj : j < 12) => (h.cell (p := ⟨b, off + a * 12 + j, none⟩) hlt).trans (hcA a ha j hj)
  exact ⟨y 0 (by omega), y 1 (by omega), y 2 (by omega), y 3 (by omega), y 4 (by omega), y 5 (by omega), y 6 (by omega), y 7 (by omega), y 8 (by omega), y 9 (by omega), y 10 (by omega), y 11 (by omega)⟩
set_option maxRecDepth 100000 in
set_option maxHeartbeats 4000000 in
theorem netRows_walk (v : Value) (l : List Ac) (f t : Int) (w : World) (hr : IsRow w 12 v l.length (acCells l)) (hl : l.length ≤ 140737488355328) :
    Calls Try.prog 4 #[v, hV f t] w fun e w' => e = .returned (.bool true) ∧ Below w.heap.size w w' := by
  obtain ⟨a0, cap0, rfl⟩ := hr.form
  have HR : Hid (IsRow w 12 (.slice a0 l.length cap0) l.length (acCells l)) := hr
  obtain ⟨w0, hw0⟩ : ∃ w0, w0 = w.alloc (.cells #[.int .i64 f, .int .i64 t] 33) := ⟨_, rfl⟩
  have hB0 : Below w.heap.size w w0 := by rw [hw0]; exact al_b w _
  have HB0 : Hid (Below w.heap.size w w0) := hB0
  have HH : Hid (w0.heap[w.heap.size]? = some (.cells #[.int .i64 f, .int .i64 t] 33)) := by
    show w0.heap[w.heap.size]? = _
    rw [hw0]
    show (w.heap.push _)[w.heap.size]? = _
    rw [Array.getElem?_push, if_pos rfl]
  have HN : Hid (Calls Try.prog 8 #[] w0 fun e w' => e = .returned (nP w0.heap.size) ∧ w' = w0.alloc (.cells zNet 69)) := new_any w0
  have HA : Hid (∀ w, Calls Try.prog 9 #[] w fun e w' => e = .returned (.bool true) ∧ Below w.heap.size w w') := awake12_any
  have HM0 : Hid (NQ w0 noR noA w0.heap.size [] (w0.alloc (.cells zNet 69))) := NQ.new w0
  clear hr hB0
  go_enter Try.func4, Try.ntmps4
  go_wp2_with fail
  rw [← hw0]
  clear hw0
  refine HN.out.mono ?_
  rintro e W0 ⟨rfl, h0⟩
  rw [← h0] at HM0
  clear h0 HN
  generalize w0.heap.size = g at HM0 ⊢
  go_wp2_with fail
  refine (HA.out _).mono ?_
  rintro e W1 ⟨rfl, hb1⟩
  have HM4 : Hid (NS w0 g W0.heap.size 0 W1) := ⟨noR, noA, .slice none 0 0, .slice none 0 0, [], [], ⟨[], [], (HM0.out.alloc nlB).below hb1, rowS_nil 7, rowS_nil 2⟩, Rel.new, by simp, by simp⟩
  clear hb1 HM0 HA
  generalize W0.heap.size = b6 at *
  go_upto_block 0 with fail
  go_cut [7] (fun i wx => ∃ k : Nat, i = i ∧ k ≤ 40 ∧ NS w0 g b6 k wx)
  case first =>
    go_wp2_with fail
    go_loopw [7] (fun i wr => ∃ k : Nat, i = .int .i64 (k : Int) ∧ k ≤ 40 ∧ k ≤ l.length ∧ NS w0 g b6 k wr) (fun i _ => 40 - (intOf i).toNat)
    case atStart => exact ⟨0, rfl, by omega, by omega, HM4.out⟩
    case round =>
      obtain ⟨k, rfl, hk60, hkl, M⟩ := hrel
      clear HM4
      by_cases hlk : k < l.length
      · have dk : decide ((k : Int) < l.length) = true := by simp; omega
        have dk' : decide (k < l.length) = true := by simp; omega
        by_cases h60 : k < 40
        · have d6 : decide ((k : Int) < 40) = true := by simp; omega
          have i1 : (0 : Int) ≤ (k : Int) := by omega
          have i2 : (k : Int) < (l.length : Int) := by omega
          have wk := cast40 k (by omega)
          have HM5 : Hid (NS w0 g b6 (k + 1) wr) := M.more
          obtain ⟨b, off, rfl, hlt, -, hcA⟩ := acs_at HR.out (by omega)
          have HIn : Hid (∀ W', Below w.heap.size w W' → W'.cell? ⟨b, off + k * 12, none⟩ = some (.int .i64 (l[k]'hlk).k) ∧ W'.cell? ⟨b, off + k * 12 + 1, none⟩ = some (.int .i64 (l[k]'hlk).p.f) ∧ W'.cell? ⟨b, off + k * 12 + 2, none⟩ = some (.int .i64 (l[k]'hlk).p.t) ∧ W'.cell? ⟨b, off + k * 12 + 3, none⟩ = some (.int .i64 (l[k]'hlk).p.fl) ∧ W'.cell? ⟨b, off + k * 12 + 4, none⟩ = some (.int .i64 (l[k]'hlk).p.tl) ∧ W'.cell? ⟨b, off + k * 12 + 5, none⟩ = some (.int .i64 (l[k]'hlk).p.sq) ∧ W'.cell? ⟨b, off + k * 12 + 6, none⟩ = some (.int .i64 (l[k]'hlk).p.ak) ∧ W'.cell? ⟨b, off + k * 12 + 7, none⟩ = some (.string (l[k]'hlk).p.x) ∧ W'.cell? ⟨b, off + k * 12 + 8, none⟩ = some (.int .i64 (l[k]'hlk).f) ∧ W'.cell? ⟨b, off + k * 12 + 9, none⟩ = some (.int .i64 (l[k]'hlk).t) ∧ W'.cell? ⟨b, off + k * 12 + 10, none⟩ = some (.int .i64 (l[k]'hlk).i) ∧ W'.cell? ⟨b, off + k * 12 + 11, none⟩ = some (.bool (l[k]'hlk).on)) := fun W' h => acs_all hlt hcA h k hlk
          clear hcA
          generalize l[k]'hlk = x at *
          obtain ⟨xk, ⟨q0, q1, q2, q3, q4, q5, q6⟩, xf, xt, xi, xon⟩ := x
          dsimp only at HIn
          obtain ⟨R, A, v, u, L, B, hRS, hrel, hL4, hBk⟩ := M
          have hwr : Below w.heap.size w wr := HB0.out.trans (hRS.to.mono HB0.out.size)
          obtain ⟨y0, y1, y2, y3, y4, y5, y6, y7, y8, y9, y10, y11⟩ := HIn.out wr hwr
          by_cases hs : 2000 < q6.size
          · have ds : decide ((2000 : Int) < (q6.size : Int)) = true := by simp; omega
            have ds2 : decide (2000 < q6.size) = true := by simp; omega
            clear hRS hrel hwr HIn
            go_wp2
            go_roundw
            case rel => exact ⟨k + 1, by simp, by omega, by omega, HM5.out⟩
            case measure => simp [intOf]; omega
          · have ds : decide ((2000 : Int) < (q6.size : Int)) = false := by simp; omega
            have ds2 : decide (2000 < q6.size) = false := by simp; omega
            obtain ⟨va, vc, rfl⟩ := hRS.rows.1.form
            obtain ⟨ua, uc, rfl⟩ := hRS.rows.2.form
            have HDo : Hid (Calls Try.prog 10 #[nP g, .agg #[(.slice va L.length vc), (.slice ua B.length uc)], acV ⟨xk, ⟨q0, q1, q2, q3, q4, q5, q6⟩, xf, xt, xi, xon⟩] wr.drew fun e w' => DoQ w0 g [(b6, nB (.slice va L.length vc) (.slice ua B.length uc))] B.length e w') := dg_any (hRS.below (below_drw wr)) hrel hL4 (by omega) _ (by show q6.size ≤ _; omega)
            have HDb : Hid (Calls Try.prog 10 #[nP g, .agg #[(.slice va L.length vc), (.slice ua B.length uc)], acV ⟨xk, ⟨q0, q1, q2, q3, q4, q5, q6⟩, xf, xt, xi, xon⟩] (wr.drew.alloc nlB) fun e w' => DoQ w0 g [(b6, nB (.slice va L.length vc) (.slice ua B.length uc)), (wr.heap.size, nlB)] B.length e w') := dg_any ((hRS.below (below_drw wr)).alloc nlB) hrel hL4 (by omega) _ (by show q6.size ≤ _; omega)
            have hSB : SB b6 (.slice va L.length vc) (.slice ua B.length uc) w wr := ⟨hRS.blk (b6, nB (.slice va L.length vc) (.slice ua B.length uc)) (by simp), hwr⟩
            clear hRS hrel hwr HM5
            dsimp only [acV, acA] at HDo HDb
            go_wp2_with fail
            clear y0 y1 y2 y3 y4 y5 y6 y7 y8 y9 y10 y11
            refine wp_region_held_drew (S := fun w' => SB b6 (.slice va L.length vc) (.slice ua B.length uc) w w') (by kernel_rfl) hSB.drew (fun hHeld => ?_)
            refine wpAnyH_take (i := 0) (v := ?_) rfl (by kernel_rfl) (by kernel_rfl) (by kernel_rfl) (fun _ _ _ h => h) (Or.inl ⟨by rfl, ?_⟩) hHeld ?_
            rotate_left 1
            · intro w9 hSw; obtain ⟨hb6, hbl⟩ := hSw; obtain ⟨s0, s1, -, -⟩ := two_at hb6; obtain ⟨t0, t1, t2, t3, t4, t5, t6, t7, t8, t9, t10, t11⟩ := HIn.out w9 hbl; go_simp; try with_reducible rfl
            change wpAnyH _ _ _ _ _ _ _ (Act.put _ (some 41) _) _
            simp only [Act.put, List.setIfInBounds_toArray, List.set_cons_zero, List.set_cons_succ]
            refine wpAnyH_take (i := 1) (v := ?_) rfl (by kernel_rfl) (by kernel_rfl) (by kernel_rfl) (fun _ _ _ h => h) (Or.inl ⟨by rfl, ?_⟩) hHeld ?_
            rotate_left 1
            · intro w9 hSw; obtain ⟨hb6, hbl⟩ := hSw; obtain ⟨s0, s1, -, -⟩ := two_at hb6; obtain ⟨t0, t1, t2, t3, t4, t5, t6, t7, t8, t9, t10, t11⟩ := HIn.out w9 hbl; go_simp; try with_reducible rfl
            change wpAnyH _ _ _ _ _ _ _ (Act.put _ (some 42) _) _
            simp only [Act.put, List.setIfInBounds_toArray, List.set_cons_zero, List.set_cons_succ]
            refine wpAnyH_take (i := 2) (v := ?_) rfl (by kernel_rfl) (by kernel_rfl) (by kernel_rfl) (fun _ _ _ h => h) (Or.inl ⟨by rfl, ?_⟩) hHeld ?_
            rotate_left 1
            · intro w9 hSw; obtain ⟨hb6, hbl⟩ := hSw; obtain ⟨s0, s1, -, -⟩ := two_at hb6; obtain ⟨t0, t1, t2, t3, t4, t5, t6, t7, t8, t9, t10, t11⟩ := HIn.out w9 hbl; go_simp; try with_reducible rfl
            change wpAnyH _ _ _ _ _ _ _ (Act.put _ (some 43) _) _
            simp only [Act.put, List.setIfInBounds_toArray, List.set_cons_zero, List.set_cons_succ]
            refine wpAnyH_take (i := 3) (v := ?_) rfl (by kernel_rfl) (by kernel_rfl) (by kernel_rfl) (fun _ _ _ h => h) (Or.inl ⟨by rfl, ?_⟩) hHeld ?_
            rotate_left 1
            · intro w9 hSw; obtain ⟨hb6, hbl⟩ := hSw; obtain ⟨s0, s1, -, -⟩ := two_at hb6; obtain ⟨t0, t1, t2, t3, t4, t5, t6, t7, t8, t9, t10, t11⟩ := HIn.out w9 hbl; go_simp; try with_reducible rfl
            change wpAnyH _ _ _ _ _ _ _ (Act.put _ (some 44) _) _
            simp only [Act.put, List.setIfInBounds_toArray, List.set_cons_zero, List.set_cons_succ]
            refine wpAnyH_take (i := 4) (v := ?_) rfl (by kernel_rfl) (by kernel_rfl) (by kernel_rfl) (fun _ _ _ h => h) (Or.inl ⟨by rfl, ?_⟩) hHeld ?_
            rotate_left 1
            · intro w9 hSw; obtain ⟨hb6, hbl⟩ := hSw; obtain ⟨s0, s1, -, -⟩ := two_at hb6; obtain ⟨t0, t1, t2, t3, t4, t5, t6, t7, t8, t9, t10, t11⟩ := HIn.out w9 hbl; go_simp; try with_reducible rfl
            change wpAnyH _ _ _ _ _ _ _ (Act.put _ (some 45) _) _
            simp only [Act.put, List.setIfInBounds_toArray, List.set_cons_zero, List.set_cons_succ]
            refine wpAnyH_take (i := 5) (v := ?_) rfl (by kernel_rfl) (by kernel_rfl) (by kernel_rfl) (fun _ _ _ h => h) (Or.inl ⟨by rfl, ?_⟩) hHeld ?_
            rotate_left 1
            · intro w9 hSw; obtain ⟨hb6, hbl⟩ := hSw; obtain ⟨s0, s1, -, -⟩ := two_at hb6; obtain ⟨t0, t1, t2, t3, t4, t5, t6, t7, t8, t9, t10, t11⟩ := HIn.out w9 hbl; go_simp; try with_reducible rfl
            change wpAnyH _ _ _ _ _ _ _ (Act.put _ (some 46) _) _
            simp only [Act.put, List.setIfInBounds_toArray, List.set_cons_zero, List.set_cons_succ]
            refine wpAnyH_ready (rs := [6, 10]) (by kernel_rfl) (by simp) ?_
            refine AllReadyH.cons rfl (fun K hK => ?_) (AllReadyH.cons rfl (fun K hK => ?_) AllReadyH.nil)
            · clear HDb
              go_simp
              refine HDo.out.mono ?_
              rintro e w5 ⟨R2, A2, v2, u2, L2, B2, rfl, hRS2, hrel2, hl2, hbl2⟩
              obtain ⟨va2, vc2, rfl⟩ := hRS2.rows.1.form
              obtain ⟨ua2, uc2, rfl⟩ := hRS2.rows.2.form
              have hw5 : SB b6 (.slice va L.length vc) (.slice ua B.length uc) w w5 := ⟨hRS2.blk (b6, nB (.slice va L.length vc) (.slice ua B.length uc)) (by simp), HB0.out.trans (hRS2.to.mono HB0.out.size)⟩
              have hRS5 := hRS2.alloc (nB (.slice va2 L2.length vc2) (.slice ua2 B2.length uc2))
              obtain ⟨m0, m1, m2, m3⟩ := two_at (hRS5.blk (b6, nB (.slice va L.length vc) (.slice ua B.length uc)) (by simp))
              obtain ⟨n0, n1, -, -⟩ := two_at (hRS5.blk (w5.heap.size, nB (.slice va2 L2.length vc2) (.slice ua2 B2.length uc2)) (by simp))
              have HS5 : Hid (NS w0 g b6 (k + 1) (((w5.alloc (nB (.slice va2 L2.length vc2) (.slice ua2 B2.length uc2))).setCell ⟨b6, 0, none⟩ (.slice va2 L2.length vc2)).setCell ⟨b6, 1, none⟩ (.slice ua2 B2.length uc2))) := ⟨R2, A2, _, _, L2, B2, (hRS2.below (al_b _ _)).store, hrel2, hl2, by omega⟩
              clear hRS2 hRS5 hrel2 hl2 hbl2 HDo
              go_simp
              refine hK.out _ _ hw5 (fun hHeld => ?_)
              clear hK K
              refine wpAnyH_take (i := 7) (v := ?_) rfl (by kernel_rfl) (by kernel_rfl) (by kernel_rfl) (fun _ _ _ h => h) (Or.inl ⟨by rfl, ?_⟩) hHeld ?_
              rotate_left 1
              · intro w9 hSw; obtain ⟨hb6, hbl⟩ := hSw; go_simp; try with_reducible rfl
              change wpAnyH _ _ _ _ _ _ _ (Act.put _ (some 40) _) _
              simp only [Act.put, List.setIfInBounds_toArray, List.set_cons_zero, List.set_cons_succ]
              refine wpAnyH_take (i := 8) (v := ?_) rfl (by kernel_rfl) (by kernel_rfl) (by kernel_rfl) (fun _ _ _ h => h) (Or.inl ⟨by rfl, ?_⟩) hHeld ?_
              rotate_left 1
              · intro w9 hSw; obtain ⟨hb6, hbl⟩ := hSw; go_simp; try with_reducible rfl
              change wpAnyH _ _ _ _ _ _ _ (Act.put _ (some 48) _) _
              simp only [Act.put, List.setIfInBounds_toArray, List.set_cons_zero, List.set_cons_succ]
              refine wpAnyH_take (i := 9) (v := ?_) rfl (by kernel_rfl) (by kernel_rfl) (by kernel_rfl) (fun _ _ _ h => h) (Or.inl ⟨by rfl, ?_⟩) hHeld ?_
              rotate_left 1
              · intro w9 hSw; obtain ⟨hb6, hbl⟩ := hSw; go_simp; try with_reducible rfl
              change wpAnyH _ _ _ _ _ _ _ (Act.put _ (some 49) _) _
              simp only [Act.put, List.setIfInBounds_toArray, List.set_cons_zero, List.set_cons_succ]
              refine wpAnyH_ready (rs := [10]) (by kernel_rfl) (by simp) ?_
              refine AllReadyH.cons rfl (fun K hK => ?_) AllReadyH.nil
              go_simp
              refine hK.out _ _ (hHeld.al _) (fun hHeld => ?_)
              clear hK K
              refine wpAnyH_ready (rs := [11]) (by kernel_rfl) (by simp) ?_
              refine AllReadyH.cons rfl (fun K hK => ?_) AllReadyH.nil
              go_simp
              refine hK.out _ _ (hw5.al _) (fun hHeld => ?_)
              clear hK K
              refine wpAnyH_ready (rs := [12]) (by kernel_rfl) (by simp) ?_
              refine AllReadyH.cons rfl (fun K hK => ?_) AllReadyH.nil
              go_simp
              refine hK.out _ _ (hHeld) (fun hHeld => ?_)
              clear hK K
              clear hw5 HIn
              refine wpAnyH_done (by kernel_rfl) ?_ _
              clear hHeld
              go_wp2
              go_roundw
              case rel => exact ⟨k + 1, by simp, by omega, by omega, HS5.out⟩
              case measure => simp [intOf]; omega
            · clear HDo
              go_simp
              refine hK.out _ _ (hSB.drew.al _) (fun hHeld => ?_)
              clear hK K
              refine wpAnyH_ready (rs := [6]) (by kernel_rfl) (by simp) ?_
              refine AllReadyH.cons rfl (fun K hK => ?_) AllReadyH.nil
              go_simp
              refine HDb.out.mono ?_
              rintro e w5 ⟨R2, A2, v2, u2, L2, B2, rfl, hRS2, hrel2, hl2, hbl2⟩
              obtain ⟨va2, vc2, rfl⟩ := hRS2.rows.1.form
              obtain ⟨ua2, uc2, rfl⟩ := hRS2.rows.2.form
              have hw5 : SB b6 (.slice va L.length vc) (.slice ua B.length uc) w w5 := ⟨hRS2.blk (b6, nB (.slice va L.length vc) (.slice ua B.length uc)) (by simp), HB0.out.trans (hRS2.to.mono HB0.out.size)⟩
              obtain ⟨z0, z1, z2, z3⟩ := two_at (hRS2.blk (wr.heap.size, nlB) (by simp))
              have hRS5 := hRS2.set2 (.slice va2 L2.length vc2) (.slice ua2 B2.length uc2)
              have hw6 : SB b6 (.slice va L.length vc) (.slice ua B.length uc) w ((w5.setCell ⟨wr.heap.size, 0, none⟩ (.slice va2 L2.length vc2)).setCell ⟨wr.heap.size, 1, none⟩ (.slice ua2 B2.length uc2)) := ⟨hRS5.blk (b6, nB (.slice va L.length vc) (.slice ua B.length uc)) (by simp), HB0.out.trans (hRS5.to.mono HB0.out.size)⟩
              obtain ⟨m0, m1, m2, m3⟩ := two_at hw6.1
              obtain ⟨n0, n1, -, -⟩ := two_at (hRS5.blk (wr.heap.size, nB (.slice va2 L2.length vc2) (.slice ua2 B2.length uc2)) (by simp))
              have HS5 : Hid (NS w0 g b6 (k + 1) ((((w5.setCell ⟨wr.heap.size, 0, none⟩ (.slice va2 L2.length vc2)).setCell ⟨wr.heap.size, 1, none⟩ (.slice ua2 B2.length uc2)).setCell ⟨b6, 0, none⟩ (.slice va2 L2.length vc2)).setCell ⟨b6, 1, none⟩ (.slice ua2 B2.length uc2))) := ⟨R2, A2, _, _, L2, B2, (hRS5.sub (K' := [(b6, nB (.slice va L.length vc) (.slice ua B.length uc))]) (by simp)).store, hrel2, hl2, by omega⟩
              clear hRS2 hRS5 hrel2 hl2 hbl2 HDb
              go_simp
              refine hK.out _ _ hw5 (fun hHeld => ?_)
              clear hK K
              refine wpAnyH_take (i := 7) (v := ?_) rfl (by kernel_rfl) (by kernel_rfl) (by kernel_rfl) (fun _ _ _ h => h) (Or.inl ⟨by rfl, ?_⟩) hHeld ?_
              rotate_left 1
              · intro w9 hSw; obtain ⟨hb6, hbl⟩ := hSw; go_simp; try with_reducible rfl
              change wpAnyH _ _ _ _ _ _ _ (Act.put _ (some 40) _) _
              simp only [Act.put, List.setIfInBounds_toArray, List.set_cons_zero, List.set_cons_succ]
              refine wpAnyH_take (i := 8) (v := ?_) rfl (by kernel_rfl) (by kernel_rfl) (by kernel_rfl) (fun _ _ _ h => h) (Or.inl ⟨by rfl, ?_⟩) hHeld ?_
              rotate_left 1
              · intro w9 hSw; obtain ⟨hb6, hbl⟩ := hSw; go_simp; try with_reducible rfl
              change wpAnyH _ _ _ _ _ _ _ (Act.put _ (some 48) _) _
              simp only [Act.put, List.setIfInBounds_toArray, List.set_cons_zero, List.set_cons_succ]
              refine wpAnyH_take (i := 9) (v := ?_) rfl (by kernel_rfl) (by kernel_rfl) (by kernel_rfl) (fun _ _ _ h => h) (Or.inl ⟨by rfl, ?_⟩) hHeld ?_
              rotate_left 1
              · intro w9 hSw; obtain ⟨hb6, hbl⟩ := hSw; go_simp; try with_reducible rfl
              change wpAnyH _ _ _ _ _ _ _ (Act.put _ (some 49) _) _
              simp only [Act.put, List.setIfInBounds_toArray, List.set_cons_zero, List.set_cons_succ]
              refine wpAnyH_ready (rs := [11]) (by kernel_rfl) (by simp) ?_
              refine AllReadyH.cons rfl (fun K hK => ?_) AllReadyH.nil
              go_simp
              refine hK.out _ _ (hw6) (fun hHeld => ?_)
              clear hK K
              refine wpAnyH_ready (rs := [12]) (by kernel_rfl) (by simp) ?_
              refine AllReadyH.cons rfl (fun K hK => ?_) AllReadyH.nil
              go_simp
              refine hK.out _ _ (hHeld) (fun hHeld => ?_)
              clear hK K
              clear hw5 hw6 HIn
              generalize (w5.setCell ⟨wr.heap.size, 0, none⟩ (.slice va2 L2.length vc2)).setCell ⟨wr.heap.size, 1, none⟩ (.slice ua2 B2.length uc2) = Z at *
              refine wpAnyH_done (by kernel_rfl) ?_ _
              clear hHeld
              go_wp2
              go_roundw
              case rel => exact ⟨k + 1, by simp, by omega, by omega, HS5.out⟩
              case measure => simp [intOf]; omega
        · have d6 : decide ((k : Int) < 40) = false := by simp; omega
          have HM : Hid (NS w0 g b6 k wr) := M
          clear M
          go_wp2
          go_meet
          exact ⟨k, trivial, by omega, HM.out⟩
      · obtain rfl : k = l.length := by omega
        have dk : decide ((l.length : Int) < l.length) = false := by simp
        have HM : Hid (NS w0 g b6 l.length wr) := M
        clear M
        go_wp2
        go_meet
        exact ⟨l.length, trivial, by omega, HM.out⟩
  case rest =>
  obtain ⟨k, -, hk, R, A, v, u, L, B, hRS, hrel, hL4, hBk⟩ := hcut
  obtain ⟨va, vc, rfl⟩ := hRS.rows.1.form
  obtain ⟨ua, uc, rfl⟩ := hRS.rows.2.form
  have hcn : cntN R 256 ≤ 1000 := by rw [hrel.cnt]; omega
  have hbw : Below w0.heap.size w0 wc := hRS.to
  have hhp := (hbw.block _ (Array.getElem?_eq_some_iff.1 HH.out).1).trans HH.out
  obtain ⟨s0, s1, -, -⟩ := two_at hhp
  obtain ⟨m0, m1, -, -⟩ := two_at (hRS.blk (b6, nB (.slice va L.length vc) (.slice ua B.length uc)) (by simp))
  have hRS1 := hRS.alloc (hB f t)
  have HG : Hid (∀ W, Below (wc.alloc (hB f t)).heap.size (wc.alloc (hB f t)) W → (W.cell? ⟨w.heap.size, 0, none⟩ = some (.int .i64 f) ∧ W.cell? ⟨w.heap.size, 1, none⟩ = some (.int .i64 t)) ∧ (W.cell? ⟨b6, 0, none⟩ = some (.slice va L.length vc) ∧ W.cell? ⟨b6, 1, none⟩ = some (.slice ua B.length uc)) ∧ (W.cell? ⟨wc.heap.size, 0, none⟩ = some (.int .i64 f) ∧ W.cell? ⟨wc.heap.size, 1, none⟩ = some (.int .i64 t))) := fun W h => by
    have hb := (hRS1.below h)
    have hbw2 : Below w0.heap.size w0 W := hb.to
    obtain ⟨x0, x1, -, -⟩ := two_at ((hbw2.block _ (Array.getElem?_eq_some_iff.1 HH.out).1).trans HH.out)
    obtain ⟨x2, x3, -, -⟩ := two_at (hb.blk (b6, nB (.slice va L.length vc) (.slice ua B.length uc)) (by simp))
    obtain ⟨x4, x5, -, -⟩ := two_at (hb.blk (wc.heap.size, hB f t) (by simp))
    exact ⟨⟨x0, x1⟩, ⟨x2, x3⟩, x4, x5⟩
  have HW : Hid (∀ W, Below (wc.alloc (hB f t)).heap.size (wc.alloc (hB f t)) W → Below w.heap.size w W) := fun W h => HB0.out.trans ((hRS1.below h).to.mono HB0.out.size)
  have HLr : Hid (∀ W, Below (wc.alloc (hB f t)).heap.size (wc.alloc (hB f t)) W → IsRow W 7 (.slice va L.length vc) L.length (pCells L)) := fun W h => (hRS1.below h).rows.1
  have HPl : Hid (Calls Try.prog 12 #[.agg #[(.slice va L.length vc), (.slice ua B.length uc)], hV f t] (wc.alloc (hB f t)) fun e w' => PlPost (plc L f t L.length) (wc.alloc (hB f t)) e w') := places_any _ _ L f t _ hRS1.rows.1 (by omega)
  have HRo : Hid (∀ W, Below (wc.alloc (hB f t)).heap.size (wc.alloc (hB f t)) W → Calls Try.prog 13 #[nP g, hV f t] W fun e w' => ClK (rowL R f t) W e w') := fun W h => by
    obtain ⟨V, hv⟩ := (hRS1.below h).net
    exact row_any f t hv hcn
  have HLe : Hid (∀ W, Below (wc.alloc (hB f t)).heap.size (wc.alloc (hB f t)) W → Calls Try.prog 15 #[nP g, hV f t] W fun e w' => e = .returned (.int .i64 (lenI R f t)) ∧ Below W.heap.size W w') := fun W h => by
    obtain ⟨V, hv⟩ := (hRS1.below h).net
    exact len_any f t hv
  have HCu : Hid (∀ W, Below (wc.alloc (hB f t)).heap.size (wc.alloc (hB f t)) W → Calls Try.prog 16 #[nP g, .int .i64 f, .int .i64 t] W fun e w' => e = .returned (.bool (hopB f t && A (rix f t))) ∧ Below W.heap.size W w') := fun W h => by
    obtain ⟨V, hv⟩ := (hRS1.below h).net
    exact cut_any f t hv
  have HCr : Hid (∀ W, Below (wc.alloc (hB f t)).heap.size (wc.alloc (hB f t)) W → Calls Try.prog 17 #[.agg #[(.slice va L.length vc), (.slice ua B.length uc)], hV f t] W fun e w' => e = .returned (.bool (cutA B f t)) ∧ Below W.heap.size W w') := fun W h => refCut_any _ _ B f t W (hRS1.below h).rows.2 (by omega)
  have HIs : Hid (∀ W, Calls Try.prog 14 #[hV f t] W fun e w' => e = .returned (.bool (hopB f t)) ∧ Below W.heap.size W w') := fun W => refIs_any f t W
  obtain ⟨-, ⟨m2, m3⟩, -, -⟩ := HG.out _ (Below.refl _ _)
  clear hRS hRS1 hbw hhp HM4 HR HB0 HH m0 m1
  go_wp2_with fail
  refine HPl.out.mono ?_
  rintro e w2 ⟨r, rfl, hr2, hb2⟩
  obtain ⟨ra, rc, rfl⟩ := hr2.form
  obtain ⟨⟨t0, t1⟩, -, t4, t5⟩ := HG.out w2 hb2
  have HB2 : Hid (Below (wc.alloc (hB f t)).heap.size (wc.alloc (hB f t)) w2) := hb2
  have HR2 : Hid (IsRow w2 1 (.slice ra (plc L f t L.length).length rc) (plc L f t L.length).length (nCells (plc L f t L.length))) := hr2
  clear hb2 hr2 HPl s0 s1 m2 m3
  go_wp2_with fail
  refine (HRo.out _ HB2.out).mono ?_
  rintro e w3 ⟨rv, rfl, hr3, hb3⟩
  have hr3' := IsRow.own hr3
  obtain ⟨qa, qc, rfl⟩ := hr3'.form
  have HB3 : Hid (Below (wc.alloc (hB f t)).heap.size (wc.alloc (hB f t)) w3) := HB2.out.trans (hb3.mono HB2.out.size)
  have HR3 : Hid (IsRow w3 1 (.slice ra (plc L f t L.length).length rc) (plc L f t L.length).length (nCells (plc L f t L.length))) := HR2.out.below hb3
  have HQ3 : Hid (IsRow w3 7 (.slice qa (rowL R f t).length qc) (rowL R f t).length (pCells (rowL R f t))) := hr3'
  clear hb3 hr3 hr3' HB2 HR2 HRo t0 t1 t4 t5
  obtain ⟨-, -, t4, t5⟩ := HG.out w3 HB3.out
  go_wp2_with fail
  refine (HIs.out _).mono ?_
  rintro e w4 ⟨rfl, hb4⟩
  have HB4 : Hid (Below (wc.alloc (hB f t)).heap.size (wc.alloc (hB f t)) w4) := HB3.out.trans (hb4.mono HB3.out.size)
  have HR4 : Hid (IsRow w4 1 (.slice ra (plc L f t L.length).length rc) (plc L f t L.length).length (nCells (plc L f t L.length))) := HR3.out.below hb4
  have HQ4 : Hid (IsRow w4 7 (.slice qa (rowL R f t).length qc) (rowL R f t).length (pCells (rowL R f t))) := HQ3.out.below hb4
  clear hb4 HB3 HR3 HQ3 t4 t5 HIs
  cases hh : hopB f t with
  | false =>
    have e1 : rowL R f t = [] := by unfold rowL; rw [hh]; rfl
    have e2 : lenI R f t = 0 := by unfold lenI; rw [hh]; rfl
    rw [e2] at HLe
    rw [hh] at HCu
    rw [e1]
    clear HR4 HQ4 HCr e1 e2 hh hrel
    obtain ⟨⟨t0, t1⟩, -, -, -⟩ := HG.out w4 HB4.out
    go_wp2_with fail
    refine (HLe.out _ HB4.out).mono ?_
    rintro e w5 ⟨rfl, hb5⟩
    have HB5 : Hid (Below (wc.alloc (hB f t)).heap.size (wc.alloc (hB f t)) w5) := HB4.out.trans (hb5.mono HB4.out.size)
    clear hb5 HLe t0 t1 HB4
    obtain ⟨⟨t0, t1⟩, -, -, -⟩ := HG.out w5 HB5.out
    go_wp2_with fail
    refine (HCu.out _ HB5.out).mono ?_
    rintro e w6 ⟨rfl, hb6⟩
    have HB6 : Hid (Below w.heap.size w w6) := HW.out w6 (HB5.out.trans (hb6.mono HB5.out.size))
    clear hb6 HCu t0 t1 HB5 HG HW HLr
    go_wp2
    go_ret
    exact ⟨rfl, HB6.out⟩
  | true =>
    obtain ⟨hn1, hn2⟩ := hrel.nth hh
    have hle : lenI R f t = (rowL R f t).length := by unfold lenI rowL; rw [if_pos hh, if_pos hh]
    rw [hle, ← hn1] at HLe
    have hcu : (hopB f t && A (rix f t)) = cutA B f t := by rw [hh, hrel.ap f t hh]; rfl
    rw [hcu] at HCu
    have HNt : Hid (∀ i (hi : i < (rowL R f t).length), ∃ (a : Nat) (ha : a < L.length), (plc L f t L.length)[i]? = some a ∧ (rowL R f t)[i] = L[a]) := hn2
    clear hn2 hle hcu hh hrel
    have hq4 : (rowL R f t).length ≤ 400 := by rw [← hn1]; exact Nat.le_trans (plc_len L f t _) hL4
    generalize rowL R f t = Q at *
    generalize plc L f t L.length = PL at *
    generalize cutA B f t = cb at *
    have hne : ((Q.length : Int) != (PL.length : Int)) = false := by simp [hn1]
    have hne2 : ((PL.length : Int) != (PL.length : Int)) = false := by simp
    have hne3 : (cb != cb) = false := by simp
    have HX : Hid (∀ W, Below (wc.alloc (hB f t)).heap.size (wc.alloc (hB f t)) W → SX w.heap.size b6 wc.heap.size f t (.slice va L.length vc) (.slice ua B.length uc) (wc.alloc (hB f t)) W) := fun W h => by
      obtain ⟨⟨x0, x1⟩, ⟨x2, x3⟩, x4, x5⟩ := HG.out W h
      exact ⟨x0, x1, x2, x3, x4, x5, h⟩
    have hS := HX.out w4 HB4.out
    have HB44 : Hid (∀ W, Below w4.heap.size w4 W → IsRow W 1 (.slice ra PL.length rc) PL.length (nCells PL) ∧ IsRow W 7 (.slice qa Q.length qc) Q.length (pCells Q)) := fun W h => ⟨HR4.out.below h, HQ4.out.below h⟩
    clear HG HB4 HR4 HQ4
    go_wp2_with fail
    generalize wc.alloc (hB f t) = W1 at *
    generalize wc.heap.size = b10 at *
    go_region_held3 (fun w' => SX w.heap.size b6 b10 f t (.slice va L.length vc) (.slice ua B.length uc) W1 w')
      (first | with_reducible assumption | with_reducible exact SX_drew (by with_reducible assumption) | with_reducible exact SX_call HX (by with_reducible assumption) (by with_reducible assumption) | with_reducible exact SX_call HX (by with_reducible assumption) (SX_drew (by with_reducible assumption)))
      (first
        | (go_at_call 15; refine (HLe.out _ (SX_b (b3 := w.heap.size) (b6 := b6) (b10 := b10) (f := f) (t := t) (v := (.slice va L.length vc)) (u := (.slice ua B.length uc)) (by first | with_reducible assumption | with_reducible exact SX_drew (by with_reducible assumption)))).mono ?_; rintro e w5 ⟨rfl, hb5⟩)
        | (go_at_call 16; refine (HCu.out _ (SX_b (b3 := w.heap.size) (b6 := b6) (b10 := b10) (f := f) (t := t) (v := (.slice va L.length vc)) (u := (.slice ua B.length uc)) (by first | with_reducible assumption | with_reducible exact SX_drew (by with_reducible assumption)))).mono ?_; rintro e w6 ⟨rfl, hb6⟩)
        | (go_at_call 17; refine (HCr.out _ (SX_b (b3 := w.heap.size) (b6 := b6) (b10 := b10) (f := f) (t := t) (v := (.slice va L.length vc)) (u := (.slice ua B.length uc)) (by first | with_reducible assumption | with_reducible exact SX_drew (by with_reducible assumption)))).mono ?_; rintro e w7 ⟨rfl, hb7⟩))
    have h1 := (below_drw w4).trans (hb5.mono (below_drw w4).size)
    have h2 := h1.trans (hb6.mono h1.size)
    have h3 := h2.trans (hb7.mono h2.size)
    obtain ⟨hr7, hq7⟩ := HB44.out w7 h3
    rename_i hH9
    have hW7 := SX_b hH9
    rw [hn1] at hr7
    have HR7 : Hid (IsRow w7 1 (.slice ra Q.length rc) Q.length (nCells PL)) := hr7
    have HQ7 : Hid (IsRow w7 7 (.slice qa Q.length qc) Q.length (pCells Q)) := hq7
    have HL7 : Hid (IsRow w7 7 (.slice va L.length vc) L.length (pCells L)) := HLr.out w7 hW7
    have HX7 : Hid (∀ W, Below w7.heap.size w7 W → W.cell? ⟨b6, 0, none⟩ = some (.slice va L.length vc) ∧ Below w.heap.size w W) := fun W h => ⟨(HX.out W (hW7.trans (h.mono hW7.size))).2.2.1, HW.out W (hW7.trans (h.mono hW7.size))⟩
    clear h1 h2 h3 hr7 hq7 hH9 hW7 hb5 hb6 hb7 HB44 HX HW HLr HLe HCu HCr hS hne hne2 hne3
    go_wp2_with fail
    go_loopw [13] (fun a wr => ∃ s : Nat, s ≤ Q.length ∧ a = .int .i64 (s : Int) ∧ Below w7.heap.size w7 wr) (fun a _ => Q.length - (intOf a).toNat)
    case atStart => exact ⟨0, by omega, rfl, Below.refl _ _⟩
    case round =>
      obtain ⟨s, hs5, rfl, hB⟩ := hrel
      have HBr : Hid (∀ n, Below w7.heap.size w7 (wr.drewN n)) := fun n => ⟨hB.os, hB.tape, hB.output, hB.size, hB.block⟩
      by_cases hs : s < Q.length
      · have d4 : decide ((s : Int) < (Q.length : Int)) = true := by simp; omega
        have d5 : decide (s < Q.length) = true := by simp; omega
        obtain ⟨a, ha, hpa, hqa⟩ := HNt.out s hs
        have hrw := HR7.out.below hB
        rw [← hn1] at hrw
        obtain ⟨rb, ro, rfl, hrc⟩ := nat_at hrw hpa
        obtain ⟨qb, qo, rfl, -, -, hqc⟩ := pk_at (HQ7.out.below hB) (by omega)
        obtain ⟨lb, lo, rfl, -, -, hlc⟩ := pk_at (HL7.out.below hB) (by omega)
        obtain ⟨d0, d1, d2, d3, d4', d5', d6⟩ := hqc s hs
        obtain ⟨e0, e1, e2, e3, e4, e5, e6⟩ := hlc a ha
        rw [hqa] at d0 d1 d2 d3 d4' d5' d6
        obtain ⟨m0, -⟩ := HX7.out wr hB
        clear hqc hlc hqa hrw hpa HNt HR7 HQ7 HL7 HX7 hB
        generalize L[a] = P at *
        obtain ⟨P0, P1, P2, P3, P4, P5, P6⟩ := P
        dsimp only at d0 d1 d2 d3 d4' d5' d6 e0 e1 e2 e3 e4 e5 e6
        have i1 : (0 : Int) ≤ (s : Int) := by omega
        have i2 : (s : Int) < (Q.length : Int) := by omega
        have i3 : (0 : Int) ≤ (a : Int) := by omega
        have i4 : (a : Int) < (L.length : Int) := by omega
        have wk : IntKind.i64.wrap ((s : Int) + 1) = (s : Int) + 1 := cast40 s (by omega)
        go_wp2_with fail
        go_quiet (fail)
        go_wp2
        go_roundw
        case rel => exact ⟨s + 1, by omega, by simp, HBr.out _⟩
        case measure => simp [intOf]; omega
      · obtain rfl : s = Q.length := by omega
        have d4 : decide ((Q.length : Int) < (Q.length : Int)) = false := by simp
        have HF : Hid (Below w.heap.size w wr) := (HX7.out wr hB).2
        clear hB HNt HR7 HQ7 HL7 HX7
        go_wp2
        go_ret
        exact ⟨rfl, HF.out⟩
end Go.Proofs.Ythbhgblgacoklaa
