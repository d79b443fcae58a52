/- NetOnce: its walk. -/
import Derived.Test.YthbhgblgacoklaaHZe
import Derived.Deep.CutBlock
import Derived.Deep.DeepCutAuto
namespace Go.Proofs.Ythbhgblgacoklaa
open Go.RowKit

abbrev sB (N : Nat) (C : Array Value) : Nat × Obj := (N, .cells C 50 (0, 0))
/-- Blocks that hold a row of packets, whatever else is. -/
def RowP (K : List (Nat × Obj)) (r : Value) (l : List Pk) : Prop := ∀ W : World, (∀ p ∈ K, W.heap[p.1]? = some p.2) → IsRow W 7 r l.length (pCells l)
theorem NQ.row {w W : World} {R : Nat → List Pk} {A : Nat → Bool} {g : Nat} {K : List (Nat × Obj)} (h : NQ w R A g K W) (hc : cntN R 256 ≤ 1000) (f t : Int) :
    Calls Try.prog 13 #[nP g, hV f t] W fun e w' => ∃ r K1, e = .returned r ∧ NQ w R A g (K1 ++ K) w' ∧ RowP K1 r (rowL R f t) := by
  have h0 := h
  obtain ⟨V, h1, h2, h3, h4⟩ := h
  refine (row_any f t h1 hc).mono ?_
  rintro e w' ⟨r, rfl, hr, hb⟩
  obtain ⟨V', k1, k2, k3, k4⟩ := h0.below hb
  have hlt : ∀ p ∈ K, p.1 < W.heap.size := fun p hp => (Array.getElem?_eq_some_iff.1 (h3 p hp).1).1
  rcases hr.2 with ⟨e1, e2⟩ | ⟨b, cap, cur, e1, hbb, hg, r0⟩
  · refine ⟨r, [], rfl, ⟨V', k1, k2, k3, k4⟩, fun W' _ => ?_⟩
    have : rowL R f t = [] := List.eq_nil_of_length_eq_zero e2
    rw [this]
    exact ⟨rfl, .inl ⟨rfl, _, _, e1⟩⟩
  · refine ⟨r, [(b, .cells cur 31 (0, 0))], rfl, ⟨V, h1.below hb, k2, fun p hp => ?_, ?_⟩, fun W' hk => ?_⟩
    · rcases List.mem_append.1 hp with hp | hp
      · obtain rfl := List.mem_singleton.1 hp
        exact ⟨hg, fun hf => by have := (h1.lt hf).2; have hbb' : W.heap.size ≤ b := hbb; dsimp only at this; omega, by have := h2.size; have hbb' : W.heap.size ≤ b := hbb; show w.heap.size ≤ b; omega⟩
      · obtain ⟨a1, a2, a3⟩ := h3 p hp
        exact ⟨(hb.block p.1 (hlt p hp)).trans a1, a2, a3⟩
    · rw [List.map_append, List.nodup_append]
      refine ⟨by simp, h4, fun a ha c hc' => ?_⟩
      obtain ⟨q, hq, rfl⟩ := List.mem_map.1 hc'
      have := hlt q hq
      have hbb' : W.heap.size ≤ b := hbb
      obtain rfl : a = b := by simpa using ha
      omega
    · have := hk _ (List.mem_singleton.2 rfl)
      exact IsRow.own (base := W.heap.size) (e := 31) ⟨hr.1, .inr ⟨b, cap, cur, e1, hbb, this, r0⟩⟩
/-- How all stands behind k acts. -/
def OS (w : World) (l : List Ac) (g Ns Nt k : Nat) (W : World) : Prop := ∃ R A fs ft Cs Ct, OI l k R fs ft ∧ Arr61 Cs fs ∧ Arr61 Ct ft ∧ NQ w R A g [sB Ns Cs, sB Nt Ct] W
theorem OS.mk {w W : World} {l : List Ac} {g Ns Nt k : Nat} {R : Nat → List Pk} {A : Nat → Bool} {fs ft : Nat → Nat} {Cs Ct : Array Value} {K : List (Nat × Obj)} (h1 : OI l k R fs ft) (h2 : Arr61 Cs fs) (h3 : Arr61 Ct ft) (h4 : NQ w R A g (K ++ [sB Ns Cs, sB Nt Ct]) W) : OS w l g Ns Nt k W := ⟨R, A, fs, ft, Cs, Ct, h1, h2, h3, h4.sub (List.sublist_append_right _ _)⟩
theorem Arr61.inc {C : Array Value} {f : Nat → Nat} (h : Arr61 C f) {s : Nat} (hs : s < 60) : Arr61 (C.setIfInBounds s (.int .i64 ((f s : Int) + 1))) (upN f s (f s + 1)) := by
  have := h.up (f s + 1) hs
  have e : ((f s + 1 : Nat) : Int) = (f s : Int) + 1 := by omega
  rw [e] at this
  exact this
theorem cast1 (n : Nat) (h : n ≤ 100000) : IntKind.i64.wrap ((n : Int) + 1) = (n : Int) + 1 := by
  simp only [IntKind.wrap, IntKind.signed, IntKind.bits]
  simp
  omega
set_option maxRecDepth 100000 in
set_option maxHeartbeats 4000000 in
theorem netOnce_walk (v : Value) (l : List Ac) (w : World) (hr : IsRow w 12 v l.length (acCells l)) (hl : l.length ≤ 140737488355328) :
    Calls Try.prog 5 #[v] w fun e w' => e = .returned (.bool true) ∧ Below w.heap.size w w' := by
  obtain ⟨a0, cap0, rfl⟩ := hr.form
  have HR : Hid (IsRow w 12 (.slice a0 l.length cap0) l.length (acCells l)) := hr
  have HN : Hid (Calls Try.prog 8 #[] w fun e w' => e = .returned (nP w.heap.size) ∧ w' = w.alloc (.cells zNet 69)) := new_any w
  have HA : Hid (∀ w, Calls Try.prog 9 #[] w fun e w' => e = .returned (.bool true) ∧ Below w.heap.size w w') := awake12_any
  have hz61 := z61_is
  have HM0 : Hid (NQ w noR noA w.heap.size [] (w.alloc (.cells zNet 69))) := NQ.new w
  clear hr
  go_enter Try.func5, Try.ntmps5
  go_wp2_with fail
  refine HN.out.mono ?_
  rintro e W0 ⟨rfl, h0⟩
  rw [← h0] at HM0
  clear h0 HN
  go_wp2_with fail
  refine (HA.out _).mono ?_
  rintro e W1 ⟨rfl, hb1⟩
  have HM4 : Hid (OS w l w.heap.size W1.heap.size (W1.heap.size + 1) 0 ((W1.alloc (.cells z61 50)).alloc (.cells z61 50))) := by
    have h2 := (((HM0.out.below hb1).alloc (.cells z61 50)).alloc (.cells z61 50)).perm (List.Perm.swap _ _ _)
    refine ⟨noR, noA, _, _, _, _, OI.new l, Arr61.zero, Arr61.zero, ?_⟩
    simpa using h2
  generalize w.heap.size = g at HM4 ⊢
  clear hb1 HM0 HA
  go_upto_block 0 with fail
  generalize (W1.alloc (.cells z61 50)).alloc (.cells z61 50) = W2 at *
  generalize hNs : W1.heap.size = Ns at *
  generalize hNt : Ns + 1 = Nt at *
  clear hNs hNt
  go_cut [6] (fun i wx => ∃ k : Nat, i = i ∧ k ≤ 60 ∧ OS w l g Ns Nt k wx)
  case first =>
    go_wp2_with fail
    go_loopw [6] (fun i wr => ∃ k : Nat, i = .int .i64 (k : Int) ∧ k ≤ 60 ∧ k ≤ l.length ∧ OS w l g Ns Nt k wr) (fun i _ => 60 - (intOf i).toNat)
    case atStart => exact ⟨0, rfl, by omega, by omega, HM4.out⟩
    case round =>
      obtain ⟨k, rfl, hk60, hkl, M⟩ := hrel
      clear HM4
      by_cases hlk : k < l.length
      · have dk : decide ((k : Int) < l.length) = true := by simp; omega
        have dk' : decide (k < l.length) = true := by simp; omega
        by_cases h60 : k < 60
        · have d6 : decide ((k : Int) < 60) = true := by simp; omega
          obtain ⟨R, A, fs, ft, Cs, Ct, hOI, hAs, hAt, hQS⟩ := M
          obtain ⟨b, off, rfl, hlt, -, hcA⟩ := acs_at HR.out (by omega)
          have HIn : Hid (∀ W', Below w.heap.size w W' → ∀ (a : Nat) (ha : a < l.length) (j : Nat), j < 12 → W'.cell? ⟨b, off + a * 12 + j, none⟩ = (enAc l[a])[j]?) := fun W' h a ha j hj => (h.cell (p := ⟨b, off + a * 12 + j, none⟩) hlt).trans (hcA a ha j hj)
          have y := HIn.out wr hQS.to k hlk
          have y0 : wr.cell? ⟨b, off + k * 12, none⟩ = some (.int .i64 l[k].k) := y 0 (by omega)
          have y1 : wr.cell? ⟨b, off + k * 12 + 1, none⟩ = some (.int .i64 l[k].p.f) := y 1 (by omega)
          have y2 : wr.cell? ⟨b, off + k * 12 + 2, none⟩ = some (.int .i64 l[k].p.t) := y 2 (by omega)
          have y3 : wr.cell? ⟨b, off + k * 12 + 3, none⟩ = some (.int .i64 l[k].p.fl) := y 3 (by omega)
          have y4 : wr.cell? ⟨b, off + k * 12 + 4, none⟩ = some (.int .i64 l[k].p.tl) := y 4 (by omega)
          have y5 : wr.cell? ⟨b, off + k * 12 + 5, none⟩ = some (.int .i64 l[k].p.sq) := y 5 (by omega)
          have y6 : wr.cell? ⟨b, off + k * 12 + 6, none⟩ = some (.int .i64 l[k].p.ak) := y 6 (by omega)
          have y7 : wr.cell? ⟨b, off + k * 12 + 7, none⟩ = some (.string l[k].p.x) := y 7 (by omega)
          have y8 : wr.cell? ⟨b, off + k * 12 + 8, none⟩ = some (.int .i64 l[k].f) := y 8 (by omega)
          have y9 : wr.cell? ⟨b, off + k * 12 + 9, none⟩ = some (.int .i64 l[k].t) := y 9 (by omega)
          have y10 : wr.cell? ⟨b, off + k * 12 + 10, none⟩ = some (.int .i64 l[k].i) := y 10 (by omega)
          have y11 : wr.cell? ⟨b, off + k * 12 + 11, none⟩ = some (.bool l[k].on) := y 11 (by omega)
          have i1 : (0 : Int) ≤ (k : Int) := by omega
          have i2 : (k : Int) < (l.length : Int) := by omega
          have wk : IntKind.i64.wrap ((k : Int) + 1) = (k : Int) + 1 := by
            simp only [IntKind.wrap, IntKind.signed, IntKind.bits]; simp; omega
          have HOI : Hid (OI l k R fs ft) := hOI
          have HAs : Hid (Arr61 Cs fs) := hAs
          have HAt : Hid (Arr61 Ct ft) := hAt
          have HQS : Hid (NQ w R A g [sB Ns Cs, sB Nt Ct] wr) := hQS
          have hcn : cntN R 256 ≤ 1000 := by have := hOI.cn; omega
          have HSe : Hid (sendE R (sdP l[k].p k) = 0 → OI l (k + 1) (sendR R (sdP l[k].p k)) (upN fs k (fs k + 1)) ft) := hOI.send hlk h60
          clear y hcA hOI hAs hAt hQS
          generalize l[k]'hlk = x at *
          obtain ⟨xk, ⟨q0, q1, q2, q3, q4, q5, q6⟩, xf, xt, xi, xon⟩ := x
          dsimp only [sdP] at *
          by_cases hk0 : xk = 0
          · subst hk0
            as_aux_lemma =>
            have HM7 : Hid (NQ w R A g ([(wr.heap.size, acB ⟨0, ⟨q0, q1, q2, q3, (k : Int) + 1, (k : Int), q6⟩, xf, xt, xi, xon⟩)] ++ [sB Ns Cs, sB Nt Ct]) (wr.alloc (acB ⟨0, ⟨q0, q1, q2, q3, (k : Int) + 1, (k : Int), q6⟩, xf, xt, xi, xon⟩))) := HQS.out.alloc _
            have HSn : Hid (q6.size ≤ 2000 → Calls Try.prog 18 #[nP g, pV ⟨q0, q1, q2, q3, (k : Int) + 1, (k : Int), q6⟩] (wr.alloc (acB ⟨0, ⟨q0, q1, q2, q3, (k : Int) + 1, (k : Int), q6⟩, xf, xt, xi, xon⟩)) fun e w' => e = .returned (.int .i64 (sendE R ⟨q0, q1, q2, q3, (k : Int) + 1, (k : Int), q6⟩)) ∧ NQ w (sendR R ⟨q0, q1, q2, q3, (k : Int) + 1, (k : Int), q6⟩) A g ([(wr.heap.size, acB ⟨0, ⟨q0, q1, q2, q3, (k : Int) + 1, (k : Int), q6⟩, xf, xt, xi, xon⟩)] ++ [sB Ns Cs, sB Nt Ct]) w') := fun hs => HM7.out.call fun V hv => send_any _ (by show q6.size ≤ _; omega) hv hcn
            have HSo : Hid (sendE R ⟨q0, q1, q2, q3, (k : Int) + 1, (k : Int), q6⟩ ≠ 0 → OI l (k + 1) (sendR R ⟨q0, q1, q2, q3, (k : Int) + 1, (k : Int), q6⟩) fs ft) := fun h => by rw [send_no h]; exact HOI.out.more
            have HE0 : Hid (∀ W', NQ w R A g ([(wr.heap.size, acB ⟨0, ⟨q0, q1, q2, q3, (k : Int) + 1, (k : Int), q6⟩, xf, xt, xi, xon⟩)] ++ [sB Ns Cs, sB Nt Ct]) W' → OS w l g Ns Nt (k + 1) W') := fun W' h => OS.mk HOI.out.more HAs.out HAt.out h
            have hfk := HOI.out.fb k
            have wf := cast1 (fs k) (by omega)
            dsimp only [acB, acA, pV] at HM7 HSn HE0
            by_cases hs : q6.size ≤ 2000
            · have ds : decide ((q6.size : Int) ≤ 2000) = true := by simp; omega
              have HS3 : Hid (Calls Try.prog 18 #[nP g, pV ⟨q0, q1, q2, q3, (k : Int) + 1, (k : Int), q6⟩] (wr.alloc (acB ⟨0, ⟨q0, q1, q2, q3, (k : Int) + 1, (k : Int), q6⟩, xf, xt, xi, xon⟩)) fun e w' => e = .returned (.int .i64 (sendE R ⟨q0, q1, q2, q3, (k : Int) + 1, (k : Int), q6⟩)) ∧ NQ w (sendR R ⟨q0, q1, q2, q3, (k : Int) + 1, (k : Int), q6⟩) A g ([(wr.heap.size, acB ⟨0, ⟨q0, q1, q2, q3, (k : Int) + 1, (k : Int), q6⟩, xf, xt, xi, xon⟩)] ++ [sB Ns Cs, sB Nt Ct]) w') := HSn.out hs
              dsimp only [acB, acA, pV] at HS3
              clear HSn HE0
              generalize sendE R ⟨q0, q1, q2, q3, (k : Int) + 1, (k : Int), q6⟩ = se at *
              generalize sendR R ⟨q0, q1, q2, q3, (k : Int) + 1, (k : Int), q6⟩ = R2 at *
              go_wp2_with fail
              refine HS3.out.mono ?_
              rintro e w5 ⟨rfl, M5⟩
              clear HS3 HM7
              by_cases hE : se = 0
              · subst hE
                obtain ⟨c0, fz⟩ := arr61_cell HAs.out (M5.blk (sB Ns Cs) (by simp)) h60
                have HE : Hid (OS w l g Ns Nt (k + 1) (w5.setCell ⟨Ns, k, none⟩ (.int .i64 ((fs k : Int) + 1)))) := OS.mk (K := []) (HSe.out rfl) (HAs.out.inc h60) HAt.out ((M5.sub (List.sublist_append_right _ _)).set k _)
                clear M5
                generalize fs k = n0 at *
                have i3 : (k : Int) < 61 := by omega
                go_wp2
                go_roundw
                case rel => exact ⟨k + 1, by simp, by omega, by omega, HE.out⟩
                case measure => simp [intOf]; omega
              · have ne : (se == 0) = false := by simpa using hE
                have HE : Hid (OS w l g Ns Nt (k + 1) w5) := OS.mk (HSo.out hE) HAs.out HAt.out M5
                clear M5 hE
                go_wp2
                go_roundw
                case rel => exact ⟨k + 1, by simp, by omega, by omega, HE.out⟩
                case measure => simp [intOf]; omega
            · have ds : decide ((q6.size : Int) ≤ 2000) = false := by simp; omega
              have HE : Hid (OS w l g Ns Nt (k + 1) _) := HE0.out _ HM7.out
              clear HSn HE0
              go_wp2
              go_roundw
              case rel => exact ⟨k + 1, by simp, by omega, by omega, HE.out⟩
              case measure => simp [intOf]; omega
          by_cases hk1 : xk = 1
          · subst hk1
            as_aux_lemma =>
            have HM7 : Hid (NQ w R A g ([(wr.heap.size, acB ⟨1, ⟨q0, q1, q2, q3, q4, q5, q6⟩, xf, xt, xi, xon⟩)] ++ [sB Ns Cs, sB Nt Ct]) (wr.alloc (acB ⟨1, ⟨q0, q1, q2, q3, q4, q5, q6⟩, xf, xt, xi, xon⟩))) := HQS.out.alloc _
            have HTk : Hid (Calls Try.prog 19 #[nP g, hV xf xt, .int .i64 xi] (wr.alloc (acB ⟨1, ⟨q0, q1, q2, q3, q4, q5, q6⟩, xf, xt, xi, xon⟩)) fun e w' => e = .returned (.tuple #[pV (takeP R A xf xt xi), .int .i64 (takeE R A xf xt xi)]) ∧ NQ w (takeR R A xf xt xi) A g ([(wr.heap.size, acB ⟨1, ⟨q0, q1, q2, q3, q4, q5, q6⟩, xf, xt, xi, xon⟩)] ++ [sB Ns Cs, sB Nt Ct]) w') := HM7.out.call fun V hv => take_any xf xt xi hv hcn
            have HT0 : Hid (takeE R A xf xt xi = 0 → ∃ (a : Nat) (fl tl : Int) (hl : a < l.length), a < 60 ∧ takeP R A xf xt xi = ⟨xf, xt, fl, tl, (a : Int) + 1, (a : Int), l[a].p.x⟩ ∧ OI l k (takeR R A xf xt xi) fs (upN ft a (ft a + 1)) ∧ ft a ≤ 1000) := HOI.out.take hkl hk60
            have HT1 : Hid (takeE R A xf xt xi ≠ 0 → OI l (k + 1) (takeR R A xf xt xi) fs ft) := fun h => by rw [takeR_no h]; exact HOI.out.more
            clear HM7 HSe
            generalize takeE R A xf xt xi = E at *
            generalize takeP R A xf xt xi = P at *
            generalize takeR R A xf xt xi = R2 at *
            dsimp only [acB, acA] at HTk
            by_cases hE : E = 0
            · subst hE
              obtain ⟨a, fl, tl, hal, ha60, rfl, hO, hfa⟩ := HT0.out rfl
              have HO : Hid (OI l (k + 1) R2 fs (upN ft a (ft a + 1))) := hO.more
              clear HT0 HT1 hO
              dsimp only [pV] at HTk
              go_wp2_with fail
              refine HTk.out.mono ?_
              rintro e w5 ⟨rfl, M5⟩
              have M8 := M5.alloc (.cells (pA ⟨xf, xt, fl, tl, (a : Int) + 1, (a : Int), l[a].p.x⟩) 31)
              obtain ⟨-, -, -, -, -, -, -, -, t8, t9, t10, -, -⟩ := ac_at (M8.blk (wr.heap.size, acB ⟨1, ⟨q0, q1, q2, q3, q4, q5, q6⟩, xf, xt, xi, xon⟩) (by simp))
              obtain ⟨r0, r1, r2, r3, r4, r5, r6⟩ := seven_at (M8.blk (w5.heap.size, .cells (pA ⟨xf, xt, fl, tl, (a : Int) + 1, (a : Int), l[a].p.x⟩) 31) (List.mem_cons_self ..))
              have rx : (w5.alloc (.cells (pA ⟨xf, xt, fl, tl, (a : Int) + 1, (a : Int), l[a].p.x⟩) 31)).cell? ⟨b, off + a * 12 + 7, none⟩ = some (.string l[a].p.x) := HIn.out _ M8.to a hal 7 (by omega)
              obtain ⟨c0, fz⟩ := arr61_cell HAt.out (M8.blk (sB Nt Ct) (by simp)) ha60
              have HE : Hid (∀ n, OS w l g Ns Nt (k + 1) (((w5.alloc (.cells (pA ⟨xf, xt, fl, tl, (a : Int) + 1, (a : Int), l[a].p.x⟩) 31)).drewN n).setCell ⟨Nt, a, none⟩ (.int .i64 ((ft a : Int) + 1)))) := fun n => by
                have M9 := (M8.sub (K' := [sB Ns Cs, sB Nt Ct]) (by simp)).below (drewN_b (Below.refl _ _) n)
                exact OS.mk (K := []) HO.out HAs.out (HAt.out.inc ha60) (M9.set2 a _)
              dsimp only [pA] at r0 r1 r2 r3 r4 r5 r6 t8 t9 t10 rx c0 fz HE
              clear M5 M8 HTk HO HIn
              have j1 : (0 : Int) ≤ (a : Int) := by omega
              have j2 : (a : Int) < (l.length : Int) := by omega
              have d1 : decide ((a : Int) < 0) = false := by simp
              have d2 : decide ((59 : Int) < (a : Int)) = false := by simp; omega
              have wa := cast1 a (by omega)
              have wf := cast1 (ft a) (by omega)
              have j3 : (a : Int) < 61 := by omega
              generalize l[a].p.x = tx at *
              generalize ft a = n0 at *
              go_wp2_with fail
              generalize w5.alloc (.cells #[.int .i64 xf, .int .i64 xt, .int .i64 fl, .int .i64 tl, .int .i64 ((a : Int) + 1), .int .i64 (a : Int), .string tx] 31) = W8 at *
              generalize w5.heap.size = b8 at *
              go_quiet (fail)
              have r5' : (W8.drewN nq).cell? ⟨b8, 5, none⟩ = some (.int .i64 (a : Int)) := r5
              have c0' : (W8.drewN nq).cell? ⟨Nt, a, none⟩ = some (.int .i64 (n0 : Int)) := c0
              have fz' : ∀ o, (W8.drewN nq).frozen? ⟨Nt, o, none⟩ = false := fz
              have HE1 : Hid (OS w l g Ns Nt (k + 1) ((W8.drewN nq).setCell ⟨Nt, a, none⟩ (.int .i64 ((n0 : Int) + 1)))) := HE.out nq
              clear r0 r1 r2 r3 r4 r5 r6 rx c0 fz t8 t9 t10 HE
              generalize W8.drewN nq = W9 at *
              go_wp2
              go_roundw
              case rel => exact ⟨k + 1, by simp, by omega, by omega, HE1.out⟩
              case measure => simp [intOf]; omega
            · have ne : (E == 0) = false := by simpa using hE
              have HO : Hid (OI l (k + 1) R2 fs ft) := HT1.out hE
              obtain ⟨P0, P1, P2, P3, P4, P5, P6⟩ := P
              clear HT0 HT1 hE
              dsimp only [pV] at HTk
              go_wp2_with fail
              refine HTk.out.mono ?_
              rintro e w5 ⟨rfl, M5⟩
              have HE : Hid (OS w l g Ns Nt (k + 1) (w5.alloc (.cells #[.int .i64 P0, .int .i64 P1, .int .i64 P2, .int .i64 P3, .int .i64 P4, .int .i64 P5, .string P6] 31))) := OS.mk HO.out HAs.out HAt.out (M5.below (al_b _ _))
              clear M5 HTk HO
              go_wp2
              go_roundw
              case rel => exact ⟨k + 1, by simp, by omega, by omega, HE.out⟩
              case measure => simp [intOf]; omega
          by_cases hk3 : xk = 3
          · subst hk3
            as_aux_lemma =>
            have HM7 : Hid (NQ w R A g ([(wr.heap.size, acB ⟨3, ⟨q0, q1, q2, q3, q4, q5, q6⟩, xf, xt, xi, xon⟩)] ++ [sB Ns Cs, sB Nt Ct]) (wr.alloc (acB ⟨3, ⟨q0, q1, q2, q3, q4, q5, q6⟩, xf, xt, xi, xon⟩))) := HQS.out.alloc _
            have HRw : Hid (Calls Try.prog 13 #[nP g, hV xf xt] (wr.alloc (acB ⟨3, ⟨q0, q1, q2, q3, q4, q5, q6⟩, xf, xt, xi, xon⟩)) fun e w' => ∃ r K1, e = .returned r ∧ NQ w R A g (K1 ++ ([(wr.heap.size, acB ⟨3, ⟨q0, q1, q2, q3, q4, q5, q6⟩, xf, xt, xi, xon⟩)] ++ [sB Ns Cs, sB Nt Ct])) w' ∧ RowP K1 r (rowL R xf xt)) := HM7.out.row hcn xf xt
            have HTw : Hid (∀ K' W', NQ w R A g K' W' → Calls Try.prog 20 #[nP g, hV xf xt, .int .i64 xi] W' fun e w' => e = .returned (.int .i64 (twiceE R xf xt xi)) ∧ NQ w (twiceR R xf xt xi) A g K' w') := fun K' W' h => h.call fun V hv => twice_any xf xt xi hv hcn
            have HT0 : Hid (twiceE R xf xt xi = 0 → ∃ (n a : Nat), xi = (n : Int) ∧ ∃ hn : n < (rowL R xf xt).length, (rowL R xf xt)[n].ak = (a : Int) ∧ a < 60 ∧ OI l (k + 1) (twiceR R xf xt xi) (upN fs a (fs a + 1)) ft) := HOI.out.twice
            have HT1 : Hid (twiceE R xf xt xi ≠ 0 → OI l (k + 1) (twiceR R xf xt xi) fs ft) := fun h => by rw [twice_no h]; exact HOI.out.more
            have HFb : Hid (∀ a, fs a ≤ k) := HOI.out.fb
            clear HM7 HSe HOI
            generalize twiceE R xf xt xi = E at *
            generalize twiceR R xf xt xi = R2 at *
            generalize rowL R xf xt = RL at *
            dsimp only [acB, acA] at HRw
            go_wp2_with fail
            refine HRw.out.mono ?_
            rintro e w5 ⟨rr, K1, rfl, M5, hrow⟩
            obtain ⟨ra, rc, rfl⟩ := (hrow w5 (fun p hp => M5.blk p (List.mem_append_left _ hp))).form
            obtain ⟨-, -, -, -, -, -, -, -, t8, t9, t10, -, -⟩ := ac_at (M5.blk (wr.heap.size, acB ⟨3, ⟨q0, q1, q2, q3, q4, q5, q6⟩, xf, xt, xi, xon⟩) (by simp))
            have HTd : Hid (Calls Try.prog 20 #[nP g, hV xf xt, .int .i64 xi] w5 fun e w' => e = .returned (.int .i64 E) ∧ NQ w R2 A g (K1 ++ ([(wr.heap.size, acB ⟨3, ⟨q0, q1, q2, q3, q4, q5, q6⟩, xf, xt, xi, xon⟩)] ++ [sB Ns Cs, sB Nt Ct])) w') := HTw.out _ _ M5
            have HRo : Hid (RowP K1 (.slice ra RL.length rc) RL) := hrow
            clear HTw HRw M5 hrow
            dsimp only at t8 t9 t10
            go_wp2_with fail
            refine HTd.out.mono ?_
            rintro e w6 ⟨rfl, M6⟩
            clear t8 t9 t10 HTd
            by_cases hE : E = 0
            · subst hE
              obtain ⟨n, a, rfl, hn, hak, ha60, hO⟩ := HT0.out rfl
              obtain ⟨b3, off3, rfl, hb3, hcap3, hc3⟩ := pk_at (HRo.out w6 (fun p hp => M6.blk p (List.mem_append_left _ hp))) (by omega)
              obtain ⟨-, -, -, -, -, z5, -⟩ := hc3 n hn
              rw [hak] at z5
              obtain ⟨-, -, -, -, -, -, -, -, -, -, t10, -, -⟩ := ac_at (M6.blk (wr.heap.size, acB ⟨3, ⟨q0, q1, q2, q3, q4, q5, q6⟩, xf, xt, (n : Int), xon⟩) (by simp))
              obtain ⟨c0, fz⟩ := arr61_cell HAs.out (M6.blk (sB Ns Cs) (by simp)) ha60
              have hfa := HFb.out a
              have wf := cast1 (fs a) (by omega)
              have HE : Hid (OS w l g Ns Nt (k + 1) (w6.setCell ⟨Ns, a, none⟩ (.int .i64 ((fs a : Int) + 1)))) := OS.mk (K := []) hO (HAs.out.inc ha60) HAt.out ((M6.sub (K' := [sB Ns Cs, sB Nt Ct]) ((List.sublist_append_right _ _).trans (List.sublist_append_right _ _))).set a _)
              dsimp only at t10
              clear M6 hO HT0 HT1 hc3 hak HRo
              have j1 : (0 : Int) ≤ (n : Int) := by omega
              have j2 : (n : Int) < (RL.length : Int) := by omega
              have d0 : decide ((n : Int) < 0) = false := by simp
              have d00 : decide ((RL.length : Int) ≤ (n : Int)) = false := by simp; omega
              have d01 : decide (RL.length ≤ n) = false := by simp; omega
              have d1 : decide ((a : Int) < 0) = false := by simp
              have d2 : decide ((59 : Int) < (a : Int)) = false := by simp; omega
              have j3 : (a : Int) < 61 := by omega
              have j4 : (0 : Int) ≤ (a : Int) := by omega
              generalize fs a = n0 at *
              go_wp2
              go_roundw
              case rel => exact ⟨k + 1, by simp, by omega, by omega, HE.out⟩
              case measure => simp [intOf]; omega
            · have ne : (E == 0) = false := by simpa using hE
              have HE : Hid (OS w l g Ns Nt (k + 1) w6) := OS.mk (K := K1 ++ [(wr.heap.size, acB ⟨3, ⟨q0, q1, q2, q3, q4, q5, q6⟩, xf, xt, xi, xon⟩)]) (HT1.out hE) HAs.out HAt.out (by rw [List.append_assoc]; exact M6)
              clear M6 hE HT0 HT1
              go_wp2
              go_roundw
              case rel => exact ⟨k + 1, by simp, by omega, by omega, HE.out⟩
              case measure => simp [intOf]; omega
          · as_aux_lemma =>
            have e0 : (xk == 0) = false := by simpa using hk0
            have e1 : (xk == 1) = false := by simpa using hk1
            have e3 : (xk == 3) = false := by simpa using hk3
            have HM7 : Hid (NQ w R A g ([(wr.heap.size, acB ⟨xk, ⟨q0, q1, q2, q3, q4, q5, q6⟩, xf, xt, xi, xon⟩)] ++ [sB Ns Cs, sB Nt Ct]) (wr.alloc (acB ⟨xk, ⟨q0, q1, q2, q3, q4, q5, q6⟩, xf, xt, xi, xon⟩))) := HQS.out.alloc _
            have HDo : Hid (Calls Try.prog 10 #[nP g, nlV, acV ⟨xk, ⟨q0, q1, q2, q3, q4, q5, q6⟩, xf, xt, xi, xon⟩] (wr.alloc (acB ⟨xk, ⟨q0, q1, q2, q3, q4, q5, q6⟩, xf, xt, xi, xon⟩)) fun e w' => DoP w g ([(wr.heap.size, acB ⟨xk, ⟨q0, q1, q2, q3, q4, q5, q6⟩, xf, xt, xi, xon⟩)] ++ [sB Ns Cs, sB Nt Ct]) (doR R ⟨xk, ⟨q0, q1, q2, q3, q4, q5, q6⟩, xf, xt, xi, xon⟩) (doA A ⟨xk, ⟨q0, q1, q2, q3, q4, q5, q6⟩, xf, xt, xi, xon⟩) e w') := do_other HM7.out hcn HOI.out.wf _ ⟨hk0, hk1, hk3⟩
            have HO2 : Hid (OI l (k + 1) (doR R ⟨xk, ⟨q0, q1, q2, q3, q4, q5, q6⟩, xf, xt, xi, xon⟩) fs ft) := (HOI.out.other _ (clr_cnt _ _)).more
            clear hk0 hk1 hk3 HSe HM7
            dsimp only [acB, acA, acV] at *
            go_wp2_with fail
            refine HDo.out.mono ?_
            rintro e w5 ⟨rr, rfl, M5⟩
            have HE : Hid (OS w l g Ns Nt (k + 1) w5) := OS.mk HO2.out HAs.out HAt.out M5
            clear M5 HDo HO2
            go_wp2
            go_roundw
            case rel => exact ⟨k + 1, by simp, by omega, by omega, HE.out⟩
            case measure => simp [intOf]; omega
        · have d6 : decide ((k : Int) < 60) = false := by simp; omega
          have HM : Hid (OS w l g Ns Nt k wr) := M
          clear M
          go_wp2
          go_meet
          exact ⟨k, trivial, by omega, HM.out⟩
      · obtain rfl : k = l.length := by omega
        have dk : decide ((l.length : Int) < l.length) = false := by simp
        have HM : Hid (OS w l g Ns Nt l.length wr) := M
        clear M
        go_wp2
        go_meet
        exact ⟨l.length, trivial, by omega, HM.out⟩
  case rest =>
  obtain ⟨k, -, hk, R, A, fs, ft, Cs, Ct, hOI, hAs, hAt, hQS⟩ := hcut
  have HAs : Hid (Arr61 Cs fs) := hAs
  have HAt : Hid (Arr61 Ct ft) := hAt
  have HQS : Hid (NQ w R A g [sB Ns Cs, sB Nt Ct] wc) := hQS
  have HLe : Hid (∀ a, a < 60 → ft a ≤ fs a) := fun a ha => by have := hOI.ct a ha; omega
  clear hOI hAs hAt hQS HM4 HR
  go_upto_block 3 with fail
  go_cut [11] (fun a wx => a = a ∧ Below wc.heap.size wc wx)
  case first =>
    as_aux_lemma =>
    go_wp2_with fail
    go_loopw [11] (fun a wr => ∃ s : Nat, s ≤ 60 ∧ a = .int .i64 (s : Int) ∧ Below wc.heap.size wc wr) (fun a _ => 60 - (intOf a).toNat)
    case atStart => exact ⟨0, by omega, rfl, Below.refl _ _⟩
    case round =>
      obtain ⟨s, hs5, rfl, hB⟩ := hrel
      have HB : Hid (∀ n, Below wc.heap.size wc (wr.drewN n)) := fun n => ⟨hB.os, hB.tape, hB.output, hB.size, hB.block⟩
      have M := HQS.out.below hB
      clear hB
      by_cases h4 : s < 60
      · have d4 : decide ((s : Int) < 60) = true := by simp; omega
        have i1 : (0 : Int) ≤ (s : Int) := by omega
        have i2 : (s : Int) < 61 := by omega
        have wk := cast1 s (by omega)
        obtain ⟨c0, -⟩ := arr61_cell HAs.out (M.blk (sB Ns Cs) (by simp)) h4
        obtain ⟨c1, -⟩ := arr61_cell HAt.out (M.blk (sB Nt Ct) (by simp)) h4
        have hle := HLe.out s h4
        have dl : decide ((fs s : Int) < (ft s : Int)) = false := by simp; omega
        have dl1 : decide (fs s < ft s) = false := by simp; omega
        clear M hle
        generalize fs s = x0 at *
        generalize ft s = x1 at *
        go_wp2_with fail
        go_quiet (fail)
        go_wp2
        go_roundw
        case rel => exact ⟨s + 1, by omega, by simp, HB.out _⟩
        case measure => simp [intOf]; omega
      · have d4 : decide ((s : Int) < 60) = false := by simp; omega
        clear M
        go_wp2
        go_meet
        exact ⟨trivial, HB.out 0⟩
  case rest =>
  obtain ⟨-, hB7⟩ := hcut
  have HF : Hid (Below w.heap.size w wc) := (HQS.out.below hB7).to
  clear hB7 HQS
  go_wp2
  go_ret
  exact ⟨rfl, HF.out⟩
end Go.Proofs.Ythbhgblgacoklaa
