/- StoreFull: its walk. -/
import Derived.Test.YthdbnlpbidkojaaDoorZk21
import Derived.Test.YthdbnlpbidkojaaDoorZk17
namespace Go.Proofs.YthdbnlpbidkojaaDoor
open Go.RowKit Go.ChangeMaps

/-- What Put leaves of the k-th type. -/
def FpP (base : Nat) (w : World) (s m k : Nat) (T0 : Ty) (e : Ending) (w' : World) : Prop :=
  (∃ E X, FuI base w' s m (min (k + 1) 200) E X) ∧ Below base w w' ∧
  ((k < 200 ∧ ∃ a c b d f h, e = .returned (.tuple #[tyV T0 (.slice a T0.own.length c) (.slice b T0.all.length d) (.slice f T0.ch.length h), .int .i64 0])) ∨
   (200 ≤ k ∧ e = .returned (.tuple #[tyV zT (.slice none 0 0) (.slice none 0 0) (.slice none 0 0), .int .i64 6])))
theorem putF_any {base : Nat} {w : World} {s m k : Nat} {E : List (ByteArray × Nat)} {X : Nat → Kp} (h : FuI base w s m (min k 200) E X) (hk : k < 204) (hb0 : base ≤ w.heap.size) (vo va vc : Value) (hr : IsTy w (tyF k 2 1 ((k : Int) + 1)) vo va vc) (hT : UT w) (hM : ML w) :
    Calls Tryd.prog 8 #[stP s, tyV (tyF k 2 1 ((k : Int) + 1)) vo va vc] w fun e w' => FpP base w s m k (tyF k 2 1 ((k : Int) + 1)) e w' := by
  have hid : idB 2 1 ((k : Int) + 1) = true := by simp [idB, cntI]; omega
  by_cases h2 : k < 200
  · rw [Nat.min_eq_left (by omega)] at h
    have hno := h.none (Nat.le_refl k) hk
    refine (put_new h.st hb0 _ _ _ _ hr (by simp [tyF]) (by simp [tyF]) (by simp [tyF]) (nmF_nm _ _ _ _) hT hM (nmF_ok hk hid) (fun _ => by rw [h.len]; exact h2) (fun g0 hh => by
      have hno' : lkS E (fldB (tyF k 2 1 ((k : Int) + 1)).n) = none := hno
      rw [hno'] at hh
      cases hh)).mono ?_
    rintro e w' ⟨g, v1, v2, v3, rfl, hS, hg, hs, ho⟩
    obtain ⟨x1, y1, rfl⟩ := (IsRow.own ho.1).form
    obtain ⟨x2, y2, rfl⟩ := (IsRow.own ho.2.1).form
    obtain ⟨x3, y3, rfl⟩ := (IsRow.own ho.2.2).form
    have hq := h.next h2 hS hg
    rw [show k + 1 = min (k + 1) 200 by omega] at hq
    exact ⟨⟨_, _, hq⟩, hs.below hb0 (fun j hj => by rw [hj]; exact h.st.lm), .inl ⟨h2, x1, y1, x2, y2, x3, y3, rfl⟩⟩
  · have hm : min k 200 = 200 := by omega
    rw [hm] at h
    refine (put_full h.st _ _ _ _ hr (nmF_nm _ _ _ _) hT hM (nmF_ok hk hid) (h.none (by omega) hk) (by rw [h.len]; omega)).mono ?_
    rintro e w' ⟨rfl, hb⟩
    refine ⟨⟨E, X, ?_⟩, hb.mono hb0, .inr ⟨by omega, rfl⟩⟩
    rw [show min (k + 1) 200 = 200 by omega]
    exact h.below hb
/-- What the last Put leaves. -/
def FlP (base : Nat) (w : World) (s m n : Nat) (e : Ending) (w' : World) : Prop :=
  ∃ v1 v2 v3 E X, e = .returned (.tuple #[tyV (tyF 0 1 1 1) v1 v2 v3, .int .i64 0]) ∧ StV base w' s m E X ∧ E.length = n ∧ SmE E X ∧ CKp w w' ∧ Below base w w' ∧ OwnTy w.heap.size w' (tyF 0 1 1 1) v1 v2 v3
theorem putL_any {base : Nat} {w : World} {s m n : Nat} {E : List (ByteArray × Nat)} {X : Nat → Kp} (h : FuI base w s m n E X) (hn : 0 < n) (hb0 : base ≤ w.heap.size) (vo va vc : Value) (hr : IsTy w (tyF 0 1 1 1) vo va vc) (hT : UT w) (hM : ML w) :
    Calls Tryd.prog 8 #[stP s, tyV (tyF 0 1 1 1) vo va vc] w fun e w' => FlP base w s m n e w' := by
  obtain ⟨g0, hg0, hx0⟩ := h.ty 0 hn
  have hk0 : fldB (tyF 0 1 1 1).n = nmF 0 := (nmF_chk ⟨0, by decide⟩).2
  refine (put_new h.st hb0 _ _ _ _ hr (by simp [tyF]) (by simp [tyF]) (by simp [tyF]) (nmF_nm _ _ _ _) hT hM (nmF_ok (by decide) (by kernel_rfl)) (fun hh => by rw [hk0, hg0] at hh; cases hh) (fun g1 hh => by
    rw [hk0, hg0] at hh
    obtain rfl := Option.some.inj hh
    rw [hx0]
    show or3 (ordI 1 2) (ordI 1 1) (ordI 1 _) < 0
    have e : ordI 1 2 = -1 := by kernel_rfl
    rw [e]
    unfold or3
    simp)).mono ?_
  rintro e w' ⟨g, v1, v2, v3, rfl, hS, hg, hs, ho⟩
  have hne : lkS E (fldB (tyF 0 1 1 1).n) ≠ none := by rw [hk0, hg0]; simp
  have hks := stS_keys E (fldB (tyF 0 1 1 1).n) g hne
  have hlen : (stS E (fldB (tyF 0 1 1 1).n) g).length = E.length := by
    have := congrArg List.length hks
    simpa using this
  refine ⟨v1, v2, v3, _, _, rfl, hS, hlen.trans h.len, ⟨fun p hp => ?_, by rw [hlen]; exact h.sm.2⟩, CKp.stp h.st hs, hs.below hb0 (fun j hj => by rw [hj]; exact h.st.lm), ho⟩
  have hp1 : p.1.size ≤ 1000000 := by
    have hm : p.1 ∈ E.map (·.1) := by rw [← hks]; exact List.mem_map.2 ⟨p, hp, rfl⟩
    obtain ⟨q, hq, e⟩ := List.mem_map.1 hm
    rw [← e]
    exact (h.sm.1 q hq).1
  refine ⟨hp1, ?_⟩
  unfold upX
  by_cases e : p.2 = g
  · rw [if_pos e]
    exact ⟨by simp [tyF], by simp [tyF], by simp [tyF]⟩
  · rw [if_neg e]
    exact (h.sm.1 p ((stS_mem hp).resolve_left e)).2
set_option maxRecDepth 100000 in
set_option maxHeartbeats 8000000 in
theorem storeFull_walk (x : Int) (w : World) (hT : UT w) (hM : ML w) : Calls Tryd.prog 4 #[.int .i64 x] w fun e w' => e = .returned (.bool true) ∧ Below w.heap.size w w' := by
  obtain ⟨N, hN1, hN2, hN, m1, m2⟩ := many_natS x
  have HT : Hid (∀ W, Below w.heap.size w W → UT W ∧ ML W) := fun W hb => ⟨Utf8Tabs_below hT hb, ML_below hM hb⟩
  have HAw : Hid (∀ W, Below w.heap.size w W → Calls Tryd.prog 7 #[] W fun e w' => e = .returned (.bool true) ∧ Below W.heap.size W w') := fun W hb => awake17_any W (HT.out W hb).1 (HT.out W hb).2
  have HRo : Hid (∀ k : Nat, k < 204 → ∀ W, Below w.heap.size w W → Calls Tryd.prog 5 #[.string (nmF k), .slice none 0 0, idV 2 1 ((k : Int) + 1)] W fun e w' => MkP (tyF k 2 1 ((k : Int) + 1), 0) W e w') := fun k hk W hb => nmF_root (a := 2) (b := 1) (c := (k : Int) + 1) hk (by simp [idB, cntI]; omega) ▸ root_any (nmF k) (.slice none 0 0) [] 2 1 ((k : Int) + 1) W (by show 3 ≤ 1000000; decide) (IsRow.nil _ _) (by decide) (fun x hx => by simp at hx) (HT.out W hb).1 (HT.out W hb).2
  have HRl : Hid (∀ W, Below w.heap.size w W → Calls Tryd.prog 5 #[.string ⟨#[116, 97, 97]⟩, .slice none 0 0, idV 1 1 1] W fun e w' => MkP (tyF 0 1 1 1, 0) W e w') := fun W hb => nmF_root (j := 0) (a := 1) (b := 1) (c := 1) (by decide) (by kernel_rfl) ▸ root_any ⟨#[116, 97, 97]⟩ (.slice none 0 0) [] 1 1 1 W (by decide) (IsRow.nil _ _) (by decide) (fun x hx => by simp at hx) (HT.out W hb).1 (HT.out W hb).2
  have b1 : IntKind.i64.wrap (x.tmod 10 + 10) = x.tmod 10 + 10 := by rw [IntKind.wrap_i64]; omega
  clear hT hM
  go_enter Tryd.func4, Tryd.ntmps4
  go_wp2_with fail
  refine (storeNew_any w (fun _ => ⟨zT, false, zW⟩)).mono ?_
  rintro e w1 ⟨s, m, rfl, hS, hb⟩
  have B1 : Hid (Below w.heap.size w w1) := hb
  have HS1 : Hid (StV w.heap.size w1 s m [] (fun _ => ⟨zT, false, zW⟩)) := hS
  clear hb hS
  go_wp2_with fail
  refine (HAw.out _ B1.out).mono ?_
  rintro e w2 ⟨rfl, hb⟩
  have B2 : Hid (Below w.heap.size w w2) := B1.out.trans (hb.mono B1.out.size)
  have HS2 : Hid (∃ E X, FuI w.heap.size w2 s m (min 0 200) E X) := ⟨[], _, HS1.out.below hb, by decide, by simp, fun j hj => by simp at hj⟩
  clear hb HS1 HAw B1
  go_wp2_with fail
  go_loopw [4] (fun i wr => ∃ k : Nat, k ≤ N ∧ i = .int .i64 (k : Int) ∧ Hid (∃ E X, FuI w.heap.size wr s m (min k 200) E X) ∧ Hid (Below w.heap.size w wr)) (fun i _ => N - (intOf i).toNat)
  case atStart => exact ⟨0, Nat.zero_le _, rfl, HS2, B2⟩
  case round =>
    clear HS2 B2
    obtain ⟨k, hk, rfl, HF, HB⟩ := hrel
    by_cases hlk : k < N
    · have dk : decide ((k : Int) < (N : Int)) = true := by simp; omega
      obtain ⟨A, hA⟩ : ∃ A : Nat, A = k / 26 := ⟨_, rfl⟩
      obtain ⟨C, hC⟩ : ∃ C : Nat, C = k % 26 := ⟨_, rfl⟩
      have a1 : (k : Int).tdiv 26 = (A : Int) := by rw [Int.tdiv_eq_ediv_of_nonneg (by omega)]; omega
      have a2 : (k : Int) / 26 = (A : Int) := by omega
      have a3 : (k : Int) % 26 = (C : Int) := by omega
      have a4 : (k : Int).tmod 26 = (C : Int) := by rw [Int.tmod_eq_emod_of_nonneg (by omega)]; omega
      have a5 : IntKind.u8.wrap (97 + (A : Int)) = 97 + (A : Int) := by simp [IntKind.wrap, IntKind.bits, IntKind.signed]; omega
      have a6 : IntKind.u8.wrap (97 + (C : Int)) = 97 + (C : Int) := by simp [IntKind.wrap, IntKind.bits, IntKind.signed]; omega
      have a7 : IntKind.i64.wrap (97 + (A : Int)) = 97 + (A : Int) := by rw [IntKind.wrap_i64]; omega
      have a8 : IntKind.i64.wrap (97 + (C : Int)) = 97 + (C : Int) := by rw [IntKind.wrap_i64]; omega
      have a9 : IntKind.i64.wrap (A : Int) = (A : Int) := by rw [IntKind.wrap_i64]; omega
      have a10 : IntKind.i64.wrap ((k : Int) + 1) = (k : Int) + 1 := by rw [IntKind.wrap_i64]; omega
      have hcv := conv2 wr (97 + (A : Int)) (97 + (C : Int))
      have hnm : (⟨#[116]⟩ : ByteArray) ++ strOfNums [97 + (A : Int), 97 + (C : Int)] = nmF k := by rw [hA, hC]; exact nmF_str (by omega)
      have hz : (nmF k).size = 3 := rfl
      clear hA hC
      obtain ⟨wb, hwb⟩ : ∃ wb, wb = wr.alloc (.cells #[.int .u8 (97 + (A : Int)), .int .u8 (97 + (C : Int))] 5) := ⟨_, rfl⟩
      have Bb : Hid (Below wr.heap.size wr wb) := by show Below _ _ _; rw [hwb]; exact al_b _ _
      have HRk := HRo.out k (by omega)
      have HRk' : Hid (∀ W, Below w.heap.size w W → Calls Tryd.prog 5 #[.string (nmF k), .slice none 0 0, idV 2 1 ((k : Int) + 1)] W fun e w' => MkP (tyF k 2 1 ((k : Int) + 1), 0) W e w') := HRk
      have HPk : Hid (∀ W, Below wr.heap.size wr W → ∀ vo va vc, IsTy W (tyF k 2 1 ((k : Int) + 1)) vo va vc → Calls Tryd.prog 8 #[stP s, tyV (tyF k 2 1 ((k : Int) + 1)) vo va vc] W fun e w' => FpP w.heap.size W s m k (tyF k 2 1 ((k : Int) + 1)) e w') := fun W hb vo va vc hr => by
        obtain ⟨E, X, h⟩ := HF.out
        have hbw := HB.out.trans (hb.mono HB.out.size)
        exact putF_any (h.below hb) (by omega) hbw.size vo va vc hr (HT.out W hbw).1 (HT.out W hbw).2
      obtain ⟨T0, hT0⟩ : ∃ T0, T0 = tyF k 2 1 ((k : Int) + 1) := ⟨_, rfl⟩
      rw [← hT0] at HRk' HPk
      clear HRk hT0 HF
      go_wp2_with fail
      rw [← hwb]
      clear hwb
      refine (HRk'.out _ (HB.out.trans (Bb.out.mono HB.out.size))).mono ?_
      rintro e wc ⟨⟨t, ao, co, aa, ca, ac, cc⟩, rfl, ht, hty, -, hb⟩
      dsimp only at ht hty
      have Bc : Hid (Below wb.heap.size wb wc) := hb
      have HTy : Hid (IsTy wc t (.slice ao t.own.length co) (.slice aa t.all.length ca) (.slice ac t.ch.length cc)) := hty
      subst ht
      clear hb hty HRk' a1 a2 a3 a4 a5 a6 a7 a8 a9 hcv hnm hz
      obtain ⟨w11, hw11⟩ : ∃ w11, w11 = wc.alloc (.cells (tyA t (.slice ao t.own.length co) (.slice aa t.all.length ca) (.slice ac t.ch.length cc)) 29) := ⟨_, rfl⟩
      have B11 : Hid (Below wc.heap.size wc w11) := by show Below _ _ _; rw [hw11]; exact al_b _ _
      have hn11 : w11.heap[wc.heap.size]? = some (.cells (tyA t (.slice ao t.own.length co) (.slice aa t.all.length ca) (.slice ac t.ch.length cc)) 29 (0, 0)) := by rw [hw11]; exact new_at _ _
      have C11 : Hid (∀ W, Below w11.heap.size w11 W → W.heap[wc.heap.size]? = some (.cells (tyA t (.slice ao t.own.length co) (.slice aa t.all.length ca) (.slice ac t.ch.length cc)) 29 (0, 0))) := fun W h => (h.block _ (Array.getElem?_eq_some_iff.1 hn11).1).trans hn11
      clear hn11
      go_upto_region 10 with fail
      rw [← hw11]
      clear hw11
      have hk := C11.out w11 (Below.refl _ _)
      have c11_0 : w11.cell? ⟨wc.heap.size, 0, none⟩ = some (.string t.n) := by rw [Lib.cell_of_heap hk]; rfl
      have c11_1 : w11.cell? ⟨wc.heap.size, 1, none⟩ = some (.string t.p) := by rw [Lib.cell_of_heap hk]; rfl
      have c11_2 : w11.cell? ⟨wc.heap.size, 2, none⟩ = some (.slice ao t.own.length co) := by rw [Lib.cell_of_heap hk]; rfl
      have c11_3 : w11.cell? ⟨wc.heap.size, 3, none⟩ = some (.slice aa t.all.length ca) := by rw [Lib.cell_of_heap hk]; rfl
      have c11_4 : w11.cell? ⟨wc.heap.size, 4, none⟩ = some (.slice ac t.ch.length cc) := by rw [Lib.cell_of_heap hk]; rfl
      have c11_5 : w11.cell? ⟨wc.heap.size, 5, none⟩ = some (.int .i64 t.nd) := by rw [Lib.cell_of_heap hk]; rfl
      have c11_6 : w11.cell? ⟨wc.heap.size, 6, none⟩ = some (.int .i64 t.lf) := by rw [Lib.cell_of_heap hk]; rfl
      have c11_7 : w11.cell? ⟨wc.heap.size, 7, none⟩ = some (.int .i64 t.sq) := by rw [Lib.cell_of_heap hk]; rfl
      clear hk
      go_wp2_with fail
      clear c11_0 c11_1 c11_2 c11_3 c11_4 c11_5 c11_6 c11_7
      have HBd : Hid (Below w.heap.size w w11) := HB.out.trans (Below.mono (bTS (bTS Bb.out Bc.out) B11.out) HB.out.size)
      refine (HPk.out w11 (bTS (bTS Bb.out Bc.out) B11.out) _ _ _ (HTy.out.below B11.out)).mono ?_
      rintro e we ⟨hFI, hbe, hcase⟩
      have HBe : Hid (Below w.heap.size w we) := HBd.out.trans hbe
      have HFe : Hid (∃ E X, FuI w.heap.size we s m (min (k + 1) 200) E X) := hFI
      clear hFI hbe HPk HBd HTy HB
      rcases hcase with ⟨h2, a1, c1, a2, c2, a3, c3, rfl⟩ | ⟨h2, rfl⟩
      · have d2 : decide ((k : Int) < 200) = true := by simp; omega
        clear h2
        obtain ⟨w31, hw31⟩ : ∃ w31, w31 = we.alloc (.cells (tyA t (.slice a1 t.own.length c1) (.slice a2 t.all.length c2) (.slice a3 t.ch.length c3)) 29) := ⟨_, rfl⟩
        have B31 : Hid (Below we.heap.size we w31) := by show Below _ _ _; rw [hw31]; exact al_b _ _
        have hn31 : w31.heap[we.heap.size]? = some (.cells (tyA t (.slice a1 t.own.length c1) (.slice a2 t.all.length c2) (.slice a3 t.ch.length c3)) 29 (0, 0)) := by rw [hw31]; exact new_at _ _
        have C31 : Hid (∀ W, Below w31.heap.size w31 W → W.heap[we.heap.size]? = some (.cells (tyA t (.slice a1 t.own.length c1) (.slice a2 t.all.length c2) (.slice a3 t.ch.length c3)) 29 (0, 0))) := fun W h => (h.block _ (Array.getElem?_eq_some_iff.1 hn31).1).trans hn31
        clear hn31
        have HFz : Hid (∃ E X, FuI w.heap.size w31 s m (min (k + 1) 200) E X) := by
          obtain ⟨E, X, h⟩ := HFe.out
          exact ⟨E, X, h.below B31.out⟩
        have HBz : Hid (Below w.heap.size w w31) := HBe.out.trans (B31.out.mono HBe.out.size)
        go_upto_region 11 with fail
        rw [← hw31]
        clear hw31 HFe HBe
        go_wp2
        go_roundw
        case rel => exact ⟨k + 1, by omega, by simp, HFz, HBz⟩
        case measure => simp [intOf]; omega
      · have d2 : decide ((k : Int) < 200) = false := by simp; omega
        clear h2
        obtain ⟨w31, hw31⟩ : ∃ w31, w31 = we.alloc (.cells #[.string zT.n, .string zT.p, .slice none 0 0, .slice none 0 0, .slice none 0 0, .int .i64 zT.nd, .int .i64 zT.lf, .int .i64 zT.sq] 29) := ⟨_, rfl⟩
        have B31 : Hid (Below we.heap.size we w31) := by show Below _ _ _; rw [hw31]; exact al_b _ _
        have hn31 : w31.heap[we.heap.size]? = some (.cells #[.string zT.n, .string zT.p, .slice none 0 0, .slice none 0 0, .slice none 0 0, .int .i64 zT.nd, .int .i64 zT.lf, .int .i64 zT.sq] 29 (0, 0)) := by rw [hw31]; exact new_at _ _
        have C31 : Hid (∀ W, Below w31.heap.size w31 W → W.heap[we.heap.size]? = some (.cells #[.string zT.n, .string zT.p, .slice none 0 0, .slice none 0 0, .slice none 0 0, .int .i64 zT.nd, .int .i64 zT.lf, .int .i64 zT.sq] 29 (0, 0))) := fun W h => (h.block _ (Array.getElem?_eq_some_iff.1 hn31).1).trans hn31
        clear hn31
        have HFz : Hid (∃ E X, FuI w.heap.size w31 s m (min (k + 1) 200) E X) := by
          obtain ⟨E, X, h⟩ := HFe.out
          exact ⟨E, X, h.below B31.out⟩
        have HBz : Hid (Below w.heap.size w w31) := HBe.out.trans (B31.out.mono HBe.out.size)
        go_upto_region 11 with fail
        rw [← hw31]
        clear hw31 HFe HBe
        go_wp2
        go_roundw
        case rel => exact ⟨k + 1, by omega, by simp, HFz, HBz⟩
        case measure => simp [intOf]; omega
    · have hk' : k = N := by omega
      subst hk'
      have dk : decide ((k : Int) < (k : Int)) = false := by simp
      have HLs : Hid (∀ W, Below wr.heap.size wr W → ∀ vo va vc, IsTy W (tyF 0 1 1 1) vo va vc → Calls Tryd.prog 8 #[stP s, tyV (tyF 0 1 1 1) vo va vc] W fun e w' => FlP w.heap.size W s m (min k 200) e w') := fun W hb vo va vc hr => by
        obtain ⟨E, X, h⟩ := HF.out
        have hbw := HB.out.trans (hb.mono HB.out.size)
        exact putL_any (h.below hb) (by omega) hbw.size vo va vc hr (HT.out W hbw).1 (HT.out W hbw).2
      obtain ⟨T1, hT1⟩ : ∃ T1, T1 = tyF 0 1 1 1 := ⟨_, rfl⟩
      have HSz : Hid (T1.own.length ≤ 1000000 ∧ T1.all.length ≤ 1000000 ∧ T1.ch.length ≤ 1000000) := by show _ ∧ _; rw [hT1]; exact ⟨by simp [tyF], by simp [tyF], by simp [tyF]⟩
      unfold FlP at HLs
      rw [← hT1] at HRl HLs
      clear hT1 HF HRo
      go_wp2_with fail
      refine (HRl.out _ HB.out).mono ?_
      rintro e wc ⟨⟨t, ao, co, aa, ca, ac, cc⟩, rfl, ht, hty, -, hb⟩
      dsimp only at ht hty
      have Bc : Hid (Below wr.heap.size wr wc) := hb
      have HTy : Hid (IsTy wc t (.slice ao t.own.length co) (.slice aa t.all.length ca) (.slice ac t.ch.length cc)) := hty
      subst ht
      clear hb hty HRl
      obtain ⟨w51, hw51⟩ : ∃ w51, w51 = wc.alloc (.cells (tyA t (.slice ao t.own.length co) (.slice aa t.all.length ca) (.slice ac t.ch.length cc)) 29) := ⟨_, rfl⟩
      have B51 : Hid (Below wc.heap.size wc w51) := by show Below _ _ _; rw [hw51]; exact al_b _ _
      have hn51 : w51.heap[wc.heap.size]? = some (.cells (tyA t (.slice ao t.own.length co) (.slice aa t.all.length ca) (.slice ac t.ch.length cc)) 29 (0, 0)) := by rw [hw51]; exact new_at _ _
      have C51 : Hid (∀ W, Below w51.heap.size w51 W → W.heap[wc.heap.size]? = some (.cells (tyA t (.slice ao t.own.length co) (.slice aa t.all.length ca) (.slice ac t.ch.length cc)) 29 (0, 0))) := fun W h => (h.block _ (Array.getElem?_eq_some_iff.1 hn51).1).trans hn51
      clear hn51
      go_upto_region 14 with fail
      rw [← hw51]
      clear hw51
      have hk := C51.out w51 (Below.refl _ _)
      have c51_0 : w51.cell? ⟨wc.heap.size, 0, none⟩ = some (.string t.n) := by rw [Lib.cell_of_heap hk]; rfl
      have c51_1 : w51.cell? ⟨wc.heap.size, 1, none⟩ = some (.string t.p) := by rw [Lib.cell_of_heap hk]; rfl
      have c51_2 : w51.cell? ⟨wc.heap.size, 2, none⟩ = some (.slice ao t.own.length co) := by rw [Lib.cell_of_heap hk]; rfl
      have c51_3 : w51.cell? ⟨wc.heap.size, 3, none⟩ = some (.slice aa t.all.length ca) := by rw [Lib.cell_of_heap hk]; rfl
      have c51_4 : w51.cell? ⟨wc.heap.size, 4, none⟩ = some (.slice ac t.ch.length cc) := by rw [Lib.cell_of_heap hk]; rfl
      have c51_5 : w51.cell? ⟨wc.heap.size, 5, none⟩ = some (.int .i64 t.nd) := by rw [Lib.cell_of_heap hk]; rfl
      have c51_6 : w51.cell? ⟨wc.heap.size, 6, none⟩ = some (.int .i64 t.lf) := by rw [Lib.cell_of_heap hk]; rfl
      have c51_7 : w51.cell? ⟨wc.heap.size, 7, none⟩ = some (.int .i64 t.sq) := by rw [Lib.cell_of_heap hk]; rfl
      clear hk
      go_wp2_with fail
      clear c51_0 c51_1 c51_2 c51_3 c51_4 c51_5 c51_6 c51_7
      refine (HLs.out w51 (bTS Bc.out B51.out) _ _ _ (HTy.out.below B51.out)).mono ?_
      rintro e we ⟨v1, v2, v3, E, X, rfl, hS, hlen, hsm, hck, hbe, ho⟩
      obtain ⟨x1, y1, rfl⟩ := (IsRow.own ho.1).form
      obtain ⟨x2, y2, rfl⟩ := (IsRow.own ho.2.1).form
      obtain ⟨x3, y3, rfl⟩ := (IsRow.own ho.2.2).form
      have HBe : Hid (Below w.heap.size w we) := (HB.out.trans (Below.mono (bTS Bc.out B51.out) HB.out.size)).trans hbe
      have HS : Hid (StV w.heap.size we s m E X ∧ SmE E X) := ⟨hS, hsm⟩
      have HLe : Hid (E.length = min k 200) := hlen
      have HBx : Hid (we.heap[wc.heap.size]? = some (.cells (tyA t (.slice ao t.own.length co) (.slice aa t.all.length ca) (.slice ac t.ch.length cc)) 29 (0, 0))) := (hck.2 _ _ _ _ (C51.out _ (Below.refl _ _))).trans (C51.out _ (Below.refl _ _))
      have HTe : Hid (IsTy we t (.slice ao t.own.length co) (.slice aa t.all.length ca) (.slice ac t.ch.length cc)) := hck.ty (HTy.out.below B51.out)
      have HTu : Hid (IsTy we t (.slice x1 t.own.length y1) (.slice x2 t.all.length y2) (.slice x3 t.ch.length y3)) := ho.is
      clear hS hlen hsm hck hbe ho HLs HTy
      obtain ⟨w71, hw71⟩ : ∃ w71, w71 = we.alloc (.cells (tyA t (.slice x1 t.own.length y1) (.slice x2 t.all.length y2) (.slice x3 t.ch.length y3)) 29) := ⟨_, rfl⟩
      have B71 : Hid (Below we.heap.size we w71) := by show Below _ _ _; rw [hw71]; exact al_b _ _
      have hn71 : w71.heap[we.heap.size]? = some (.cells (tyA t (.slice x1 t.own.length y1) (.slice x2 t.all.length y2) (.slice x3 t.ch.length y3)) 29 (0, 0)) := by rw [hw71]; exact new_at _ _
      have C71 : Hid (∀ W, Below w71.heap.size w71 W → W.heap[we.heap.size]? = some (.cells (tyA t (.slice x1 t.own.length y1) (.slice x2 t.all.length y2) (.slice x3 t.ch.length y3)) 29 (0, 0))) := fun W h => (h.block _ (Array.getElem?_eq_some_iff.1 hn71).1).trans hn71
      clear hn71
      go_upto_region 15 with fail
      rw [← hw71]
      clear hw71
      have hAl := allS_any (HS.out.1.below B71.out) HS.out.2 (HT.out _ (HBe.out.trans (B71.out.mono HBe.out.size))).1
      clear HS
      go_wp2_with fail
      refine hAl.mono ?_
      rintro e wl ⟨la, lc, D, M, rfl, hD, hM, -, hb⟩
      have Bl : Hid (Below w71.heap.size w71 wl) := hb
      have hml : M.length = min k 200 := by
        have h1 := congrArg List.length hM
        rw [List.length_map] at h1
        have h2 := hD.1.length_eq
        rw [List.length_map] at h2
        have h3 : (tys M).length = M.length := tys_len M
        rw [← h3, h1, h2, HLe.out]
      have hmin : ((M.length : Int) == min (k : Int) 200) = true := by rw [hml]; simp; omega
      clear hb hD hM hAl hml HLe
      obtain ⟨⟨e0, e1, e2, e3⟩, e4, e5, e6, e7⟩ := BxT.of ((Below.block (bTS B71.out Bl.out) _ (Array.getElem?_eq_some_iff.1 HBx.out).1).trans HBx.out)
      obtain ⟨⟨g0, g1, g2, g3⟩, g4, g5, g6, g7⟩ := BxT.of (C71.out _ Bl.out)
      have hSm := sameT_any ⟨t, ao, co, aa, ca, ac, cc⟩ ⟨t, x1, y1, x2, y2, x3, y3⟩ wl (HTe.out.below (bTS B71.out Bl.out)) (HTu.out.below (bTS B71.out Bl.out)) HSz.out HSz.out
      rw [show sameT (LT.t ⟨t, ao, co, aa, ca, ac, cc⟩) (LT.t ⟨t, x1, y1, x2, y2, x3, y3⟩) = true from (sameT_iff _ _).2 rfl] at hSm
      have HBl : Hid (Below w.heap.size w wl) := HBe.out.trans (Below.mono (bTS B71.out Bl.out) HBe.out.size)
      go_wp2_with fail
      clear e0 e1 e2 e3 e4 e5 e6 e7 g0 g1 g2 g3 g4 g5 g6 g7
      refine hSm.mono ?_
      rintro e wz ⟨rfl, hb⟩
      have HBz : Hid (Below w.heap.size w wz) := HBl.out.trans (hb.mono HBl.out.size)
      clear hb
      go_wp2
      go_ret
      exact ⟨rfl, HBz.out⟩
end Go.Proofs.YthdbnlpbidkojaaDoor
