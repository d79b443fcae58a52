/- link's Take: its walk. -/
import Derived.Test.YtiejehaaglpkoaaLnI
namespace Go.Proofs.Ytiejehaaglpkoaa
open Go.RowKit Go.ChangeMaps

/-- The link behind a packet's acknowledgement; behind its text. -/
abbrev tkA (L : Lk) (p : Pk) : Lk := ackL L p.ak
abbrev tkR (L : Lk) (p : Pk) : Lk := arrL (tkA L p) p.sq p.x
abbrev tkB (L : Lk) (p : Pk) : Lk := hndL (tkR L p)
/-- What Take leaves, hands on, sends. -/
def tkL (L : Lk) (p : Pk) : Lk := if lookE L p = 0 then (if p.sq = 0 then goL (tkA L p) else goL (tkB L p)) else L
def tkT (L : Lk) (p : Pk) : List ByteArray := if lookE L p = 0 then (if p.sq = 0 then [] else hndT (tkR L p)) else []
def tkO (L : Lk) (p : Pk) : List Pk := if lookE L p = 0 then (if p.sq = 0 then pks (tkA L p) (tkA L p).o (goK (tkA L p)) else if goK (tkB L p) = 0 then [pkL (tkB L p) 0 ⟨#[]⟩] else pks (tkB L p) (tkB L p).o (goK (tkB L p))) else []
/-- What a call leaves that turns a link, hands on texts and hands out packets. -/
def TkQ (base : Nat) (w : World) (g m : Nat) (vq : Value) (L' : Lk) (T : List ByteArray) (O : List Pk) (tr r : Value) (w' : World) : Prop :=
  ∃ vq', w'.ownsRow w.heap.size 9 1 tr T.length (T.map .string) ∧ OwnW w' w.heap.size r O ∧ LinkV base w' g m vq' L' ∧ Stp w (LF g m vq) (LF g m vq') w' ∧ (∀ k, tr.ownBlock = some k → ¬ LF g m vq' k) ∧ (∀ k, r.ownBlock = some k → ¬ LF g m vq' k) ∧ ∀ k, tr.ownBlock = some k → r.ownBlock ≠ some k
def TkP (base : Nat) (w : World) (g m : Nat) (vq : Value) (L : Lk) (p : Pk) (e : Ending) (w' : World) : Prop := ∃ tr r, e = .returned (.tuple #[tr, r, .int .i64 (lookE L p)]) ∧ TkQ base w g m vq (tkL L p) (tkT L p) (tkO L p) tr r w'
theorem OwnW.mono {w : World} {base base' : Nat} {v : Value} {l : List Pk} (h : OwnW w base v l) (hb : base' ≤ base) : OwnW w base' v l := by
  rcases h with h | ⟨g1, cap, cur, e1, h1, r1⟩
  · exact .inl h
  · exact .inr ⟨g1, cap, cur, e1, Nat.le_trans hb h1, r1⟩
theorem row_mono {w : World} {base base' : Nat} {e : TypeId} {v : Value} {n : Nat} {xs : List Value} (h : w.ownsRow base e 1 v n xs) (hb : base' ≤ base) : w.ownsRow base' e 1 v n xs := by
  refine ⟨h.1, ?_⟩
  rcases h.2 with h | ⟨g1, cap, cur, e1, h1, r1⟩
  · exact .inl h
  · exact .inr ⟨g1, cap, cur, e1, Nat.le_trans hb h1, r1⟩
theorem arr_elen (L : Lk) (sq : Int) (s : ByteArray) : (arrL L sq s).e.length ≤ L.e.length + 1 := by
  unfold arrL
  split
  · simp [setE]
  · omega
theorem ack_e (L : Lk) (a : Int) : (ackL L a).e = L.e := by unfold ackL; split <;> rfl
theorem wpl_app_w (w : World) {ops : Array Oper} {rest : List Oper} {o : Oper} {a : Act} {Q : Exit → Act → World → Prop} (hgd : o.guard = none) (s x : Operand)
    (ho : o.op = .call { callee := .builtin .append, args := #[s, x], argTypes := #[40, 40] })
    (base : Nat) (v : Value) (l : List Pk) (hs : a.eval s = v) (h : OwnW w base v l) (ad : Addr) (m c : Nat) (news : List Pk) (hm : m = news.length) (hne : 0 < m ∨ v ≠ .slice none 0 0) (hx : a.eval x = .slice (some ad) m c)
    (hn : ∀ j u, (pCells news)[j]? = some u → w.cell? (ad.add j) = some u) (hl : l.length + m ≤ 1000000) (hbase : base ≤ w.heap.size)
    (hk : ∀ g cap w', OwnW w' base (.slice (some ⟨g, 0, none⟩) (l.length + m) cap) (l ++ news) → w.grownBy w' v.ownBlock → (v.ownBlock = some g ∨ g = w.heap.size) → wpList Try.prog ops Q rest (a.put o.dst (.slice (some ⟨g, 0, none⟩) (l.length + m) cap)) w') : wpList Try.prog ops Q (o :: rest) a w :=
  wpList_plain hgd fun _ hK => wp_app_w w s x ho base v l hs h ad m c news hm hne hx hn hl hbase fun g cap w' h1 h2 h3 => hK _ _ (hk g cap w' h1 h2 h3)
set_option maxRecDepth 100000 in
set_option maxHeartbeats 4000000 in
theorem takeL_any {base : Nat} {w : World} {g m : Nat} {vq : Value} {L : Lk} (h : LinkV base w g m vq L) (hok : LkOk L) (hel : L.e.length ≤ 900) (p : Pk) (hx : p.x.size ≤ 140737488355328) :
    Calls Try.prog 17 #[lP g, pV p] w fun e w' => TkP base w g m vq L p e w' := by
  have hgs := h.size
  have hB0 := al_b w (.cells (pA p) 37)
  have HV0 : Hid (LinkV base (w.alloc (.cells (pA p) 37)) g m vq L) := h.below hB0
  have HLk : Hid (∀ w', LinkV base w' g m vq L → Calls Try.prog 37 #[lP g, pV p] w' fun e w'' => e = .returned (.int .i64 (lookE L p)) ∧ Below w'.heap.size w' w'') := fun w' hv => lookL_any hv p hx
  have HBX : Hid ((w.alloc (.cells (pA p) 37)).heap[w.heap.size]? = some (.cells (pA p) 37 (0, 0)) ∧ ¬ LF g m vq w.heap.size) := ⟨heap_alloc_new w _, fun hf => by have := (h.lt hf).2; omega⟩
  have HS0 : Hid (Stp w (LF g m vq) (LF g m vq) (w.alloc (.cells (pA p) 37))) := Stp.of _ hB0
  have HOK : Hid (LkOk L) := hok
  have hpx : Hid (∃ n : Nat, n = w.heap.size) := ⟨_, rfl⟩
  rcases Decidable.em (¬ lookE L p = 0) with hE | hE
  · have HE : Hid (∀ w1, Below w.heap.size w w1 → TkP base w g m vq L p (.returned (.tuple #[.slice none 0 0, .slice none 0 0, .int .i64 (lookE L p)])) w1) := fun w1 hb => by
      refine ⟨_, _, rfl, ?_⟩
      unfold tkL tkT tkO
      rw [if_neg hE, if_neg hE, if_neg hE]
      exact ⟨vq, World.ownsRow_nil _ _ _ _, .inl ⟨rfl, rfl⟩, h.below hb, Stp.of _ hb, fun k hk => by simp [Value.ownBlock] at hk, fun k hk => by simp [Value.ownBlock] at hk, fun k hk => by simp [Value.ownBlock] at hk⟩
    have HB0 : Hid (Below w.heap.size w (w.alloc (.cells (pA p) 37))) := hB0
    have n0 : (lookE L p != 0) = true := ne_f hE
    clear h hok hB0 hE hgs HBX HS0
    generalize lookE L p = ee at *
    obtain ⟨pf, pt, pfl, ptl, psq, pak, px⟩ := p
    dsimp only [pV, pA] at *
    go_enter Try.func17, Try.ntmps17
    go_wp2_with fail
    refine (HLk.out _ HV0.out).mono ?_
    rintro e w1 ⟨rfl, hb⟩
    have HF := HE.out w1 (HB0.out.trans (hb.mono HB0.out.size))
    have HF1 : Hid (TkP base w g m vq L ⟨pf, pt, pfl, ptl, psq, pak, px⟩ (.returned (.tuple #[.slice none 0 0, .slice none 0 0, .int .i64 ee])) w1) := HF
    clear hb HF HE
    go_wp2
    go_ret3
    exact HF1.out
  replace hE : lookE L p = 0 := Decidable.not_not.1 hE
  have HAk : Hid (∀ w', LinkV base w' g m vq L → Calls Try.prog 38 #[lP g, .int .i64 p.ak] w' fun e w'' => e = .returned (.tuple #[]) ∧ ∃ vq', LinkV base w'' g m vq' (tkA L p) ∧ Stp w' (LF g m vq) (LF g m vq') w'') := fun w' hv => ackL_any hv HOK.out p.ak
  by_cases hq : p.sq = 0
  · have HGo : Hid (∀ w' v', LinkV base w' g m v' (tkA L p) → Calls Try.prog 35 #[lP g] w' fun e w'' => GoP base w' g m v' (tkA L p) e w'') := fun w' v' hv => goOut_any hv (HOK.out.ack p.ak)
    have HF : Hid (∀ r w1, TkQ base w g m vq (goL (tkA L p)) [] (pks (tkA L p) (tkA L p).o (goK (tkA L p))) (.slice none 0 0) r w1 → TkP base w g m vq L p (.returned (.tuple #[.slice none 0 0, r, .int .i64 0])) w1) := fun r w1 hp => by
      refine ⟨_, r, by rw [hE], ?_⟩
      unfold tkL tkT tkO
      rw [if_pos hE, if_pos hE, if_pos hE, if_pos hq, if_pos hq, if_pos hq]
      exact hp
    rw [hE] at HLk
    clear h hok hB0 hE
    obtain ⟨pf, pt, pfl, ptl, psq, pak, px⟩ := p
    dsimp only [pV, pA] at *
    have hq0 : psq = 0 := hq
    subst hq0
    clear hq
    generalize hLA : tkA L ⟨pf, pt, pfl, ptl, 0, pak, px⟩ = LA at *
    go_enter Try.func17, Try.ntmps17
    go_wp2_with fail
    refine (HLk.out _ HV0.out).mono ?_
    rintro e w1 ⟨rfl, hb⟩
    have HV1 : Hid (LinkV base w1 g m vq L) := HV0.out.below hb
    have HS1 : Hid (Stp w (LF g m vq) (LF g m vq) w1) := HS0.out.trans (Stp.of _ hb)
    have hb1 := (hb.block _ (Array.getElem?_eq_some_iff.1 HBX.out.1).1).trans HBX.out.1
    have HB1 : Hid (w1.heap[w.heap.size]? = some (.cells #[.int .i64 pf, .int .i64 pt, .int .i64 pfl, .int .i64 ptl, .int .i64 0, .int .i64 pak, .string px] 37 (0, 0))) := hb1
    have y5 : w1.cell? ⟨w.heap.size, 5, none⟩ = some (.int .i64 pak) := by rw [Lib.cell_of_heap hb1]; rfl
    clear hb hb1 HLk
    go_wp2_with fail
    refine (HAk.out _ HV1.out).mono ?_
    rintro e w2 ⟨rfl, v2, hv2, hs2⟩
    have hb2 := (hs2.far (Array.getElem?_eq_some_iff.1 HB1.out).1 HBX.out.2).1.trans HB1.out
    have y4 : w2.cell? ⟨w.heap.size, 4, none⟩ = some (.int .i64 0) := by rw [Lib.cell_of_heap hb2]; rfl
    have HV2 : Hid (LinkV base w2 g m v2 LA) := hv2
    have HS2 : Hid (Stp w (LF g m vq) (LF g m v2) w2) := HS1.out.trans hs2
    clear hv2 hs2 hb2 y5 HB1 HV1 HS1 HAk
    go_wp2_with fail
    refine (HGo.out _ _ HV2.out).mono ?_
    rintro e w3 ⟨r, rfl, h1, h2, h3⟩
    have HR : Hid (TkP base w g m vq L ⟨pf, pt, pfl, ptl, 0, pak, px⟩ (.returned (.tuple #[.slice none 0 0, r, .int .i64 0])) w3) := by
      refine HF.out _ _ ⟨v2, World.ownsRow_nil _ _ _ _, h1.mono HS2.out.size, h2, HS2.out.trans h3, fun k hk => by simp [Value.ownBlock] at hk, fun k hk hf => ?_, fun k hk => by simp [Value.ownBlock] at hk⟩
      have a1 := (h1.lt k hk).1
      have a2 := (HV2.out.lt hf).2
      omega
    clear h1 h2 h3 HF y4
    go_wp2
    go_ret3
    exact HR.out
  · have HAr : Hid (∀ w' v', LinkV base w' g m v' (tkA L p) → Calls Try.prog 39 #[lP g, .int .i64 p.sq, .string p.x] w' fun e w'' => e = .returned (.tuple #[]) ∧ LinkV base w'' g m v' (tkR L p) ∧ Stp w' (LF g m v') (LF g m v') w'') := fun w' v' hv => arriveL_any hv (HOK.out.ack p.ak) p.sq p.x
    have hel2 : (tkR L p).e.length ≤ 1000 := by
      have h1 := arr_elen (tkA L p) p.sq p.x
      rw [ack_e] at h1
      show (arrL (tkA L p) p.sq p.x).e.length ≤ 1000
      omega
    have HHd : Hid (∀ w' v', LinkV base w' g m v' (tkR L p) → Calls Try.prog 40 #[lP g] w' fun e w'' => HdP base w' g m v' (tkR L p) e w'') := fun w' v' hv => handOn_any hv ((HOK.out.ack p.ak).arr p.sq p.x) hel2
    have HOB : Hid (LkOk (tkB L p)) := LkOk.hnd _ ((HOK.out.ack p.ak).arr p.sq p.x)
    have HGo : Hid (∀ w' v', LinkV base w' g m v' (tkB L p) → Calls Try.prog 35 #[lP g] w' fun e w'' => GoP base w' g m v' (tkB L p) e w'') := fun w' v' hv => goOut_any hv HOB.out
    have HPk : Hid (∀ w' v', LinkV base w' g m v' (goL (tkB L p)) → Calls Try.prog 41 #[lP g, .int .i64 0, .string ⟨#[]⟩] w' fun e w'' => e = .returned (pV (pkL (tkB L p) 0 ⟨#[]⟩)) ∧ Below w'.heap.size w' w'') := fun w' v' hv => by
      have w0 := HOB.out.w0
      have w1 := HOB.out.w1
      exact packetL_any (L := goL (tkB L p)) hv (by show 0 ≤ (tkB L p).wn; omega) (by show (tkB L p).wn ≤ _; omega) _ _
    have HF : Hid (∀ tr r w1, TkQ base w g m vq (goL (tkB L p)) (hndT (tkR L p)) (if goK (tkB L p) = 0 then [pkL (tkB L p) 0 ⟨#[]⟩] else pks (tkB L p) (tkB L p).o (goK (tkB L p))) tr r w1 → TkP base w g m vq L p (.returned (.tuple #[tr, r, .int .i64 0])) w1) := fun tr r w1 hp => by
      refine ⟨tr, r, by rw [hE], ?_⟩
      unfold tkL tkT tkO
      rw [if_pos hE, if_pos hE, if_pos hE, if_neg hq, if_neg hq, if_neg hq]
      exact hp
    have hpl : (pks (tkB L p) (tkB L p).o (goK (tkB L p))).length = goK (tkB L p) := pks_len _ _ _
    have HPL : Hid ((pks (tkB L p) (tkB L p).o (goK (tkB L p))).length = goK (tkB L p)) := hpl
    rw [hE] at HLk
    clear h hok hB0 hE hel2 hpl
    obtain ⟨pf, pt, pfl, ptl, psq, pak, px⟩ := p
    dsimp only [pV, pA] at *
    have nq0 : (psq == 0) = false := by simpa using hq
    clear hq
    have HLB : Hid (hndL (tkR L ⟨pf, pt, pfl, ptl, psq, pak, px⟩) = tkB L ⟨pf, pt, pfl, ptl, psq, pak, px⟩) := rfl
    generalize tkB L ⟨pf, pt, pfl, ptl, psq, pak, px⟩ = LB at *
    generalize tkR L ⟨pf, pt, pfl, ptl, psq, pak, px⟩ = LR at *
    generalize tkA L ⟨pf, pt, pfl, ptl, psq, pak, px⟩ = LA at *
    have HKK : Hid (pks LB LB.o (goK LB) = pks LB LB.o (goK LB)) := rfl
    generalize hOO : pks LB LB.o (goK LB) = OO at *
    have HOO : Hid (pks LB LB.o (goK LB) = OO) := hOO
    clear hOO HKK
    generalize goK LB = kk at HPL HF
    generalize pkL LB 0 ⟨#[]⟩ = ap at *
    go_enter Try.func17, Try.ntmps17
    go_wp2_with fail
    refine (HLk.out _ HV0.out).mono ?_
    rintro e w1 ⟨rfl, hb⟩
    have HV1 : Hid (LinkV base w1 g m vq L) := HV0.out.below hb
    have HS1 : Hid (Stp w (LF g m vq) (LF g m vq) w1) := HS0.out.trans (Stp.of _ hb)
    have hb1 := (hb.block _ (Array.getElem?_eq_some_iff.1 HBX.out.1).1).trans HBX.out.1
    have HB1 : Hid (w1.heap[w.heap.size]? = some (.cells #[.int .i64 pf, .int .i64 pt, .int .i64 pfl, .int .i64 ptl, .int .i64 psq, .int .i64 pak, .string px] 37 (0, 0))) := hb1
    have y5 : w1.cell? ⟨w.heap.size, 5, none⟩ = some (.int .i64 pak) := by rw [Lib.cell_of_heap hb1]; rfl
    clear hb hb1 HLk
    go_wp2_with fail
    refine (HAk.out _ HV1.out).mono ?_
    rintro e w2 ⟨rfl, v2, hv2, hs2⟩
    have hb2 := (hs2.far (Array.getElem?_eq_some_iff.1 HB1.out).1 HBX.out.2).1.trans HB1.out
    have y4 : w2.cell? ⟨w.heap.size, 4, none⟩ = some (.int .i64 psq) := by rw [Lib.cell_of_heap hb2]; rfl
    have y6 : w2.cell? ⟨w.heap.size, 6, none⟩ = some (.string px) := by rw [Lib.cell_of_heap hb2]; rfl
    have HV2 : Hid (LinkV base w2 g m v2 LA) := hv2
    have HS2 : Hid (Stp w (LF g m vq) (LF g m v2) w2) := HS1.out.trans hs2
    clear hv2 hs2 hb2 y5 HB1 HV1 HS1 HAk
    go_wp2_with fail
    refine (HAr.out _ _ HV2.out).mono ?_
    rintro e w3 ⟨rfl, hv3, hs3⟩
    have HV3 : Hid (LinkV base w3 g m v2 LR) := hv3
    have HS3 : Hid (Stp w (LF g m vq) (LF g m v2) w3) := HS2.out.trans hs3
    clear hv3 hs3 y4 y6 HV2 HS2 HAr HBX HS0 HV0
    go_wp2_with fail
    refine (HHd.out _ _ HV3.out).mono ?_
    rintro e w4 ⟨tr, rfl, ht4, hv4, hs4⟩
    have HNT : Hid (∀ k, tr.ownBlock = some k → ¬ LF g m v2 k) := fun k hk hf => by
      have a1 := (ht4.lt k hk).1
      have a2 := (HV3.out.lt hf).2
      omega
    have HT4 : Hid (w4.ownsRow w.heap.size 9 1 tr (hndT LR).length ((hndT LR).map .string)) := row_mono ht4 HS3.out.size
    have HV4 : Hid (LinkV base w4 g m v2 (hndL LR)) := hv4
    have HS4 : Hid (Stp w (LF g m vq) (LF g m v2) w4) := HS3.out.trans hs4
    clear ht4 hv4 hs4 HV3 HS3 HHd
    rw [HLB.out] at HV4
    go_wp2_with fail
    refine (HGo.out _ _ HV4.out).mono ?_
    rintro e w5 ⟨r, rfl, hr5, hv5, hs5⟩
    rw [HOO.out] at hr5
    have HNR : Hid (∀ k, r.ownBlock = some k → ¬ LF g m v2 k) := fun k hk hf => by
      have a1 := (hr5.lt k hk).1
      have a2 := (HV4.out.lt hf).2
      omega
    have HTR : Hid (∀ k, tr.ownBlock = some k → r.ownBlock ≠ some k) := fun k hk hf => by
      have a1 := (hr5.lt k hf).1
      have a2 := (HT4.out.lt k hk).2
      omega
    have HR5 : Hid (OwnW w5 w.heap.size r OO) := hr5.mono HS4.out.size
    have HT5 : Hid (w5.ownsRow w.heap.size 9 1 tr (hndT LR).length ((hndT LR).map .string)) := row_keep HT4.out fun k hk => (hs5.far (HT4.out.lt k hk).2 (HNT.out k hk)).1
    have HV5 : Hid (LinkV base w5 g m v2 (goL LB)) := hv5
    have HS5 : Hid (Stp w (LF g m vq) (LF g m v2) w5) := HS4.out.trans hs5
    obtain ⟨ra, rcap, rfl⟩ := hr5.form
    clear hr5 hv5 hs5 HV4 HS4 HT4 HGo
    by_cases hkk : kk = 0
    · have hO0 : Hid (OO = []) := List.eq_nil_of_length_eq_zero (by rw [HPL.out]; exact hkk)
      have hl0 : OO.length = 0 := by rw [hO0.out]; rfl
      rw [if_pos hkk] at HF
      rw [hl0] at *
      clear hl0 hkk HPL
      rw [hO0.out] at HR5
      obtain ⟨af, at_, afl, atl, asq, aak, ax⟩ := ap
      dsimp only at *
      go_wp2_with fail
      refine (HPk.out _ _ HV5.out).mono ?_
      rintro e w6 ⟨rfl, hb6⟩
      have HR6 : Hid (OwnW w6 w.heap.size (.slice ra 0 rcap) []) := HR5.out.keep fun k hk => hb6.block k (HR5.out.lt k hk).2
      have HT6 : Hid (w6.ownsRow w.heap.size 9 1 tr (hndT LR).length ((hndT LR).map .string)) := row_keep HT5.out fun k hk => hb6.block k (HT5.out.lt k hk).2
      have HV6 : Hid (LinkV base w6 g m v2 (goL LB)) := HV5.out.below hb6
      have HS6 : Hid (Stp w (LF g m vq) (LF g m v2) w6) := HS5.out.trans (Stp.of _ hb6)
      have hz6 : w.heap.size ≤ w6.heap.size := HS6.out.size
      clear hb6 HR5 HT5 HV5 HS5 HPk
      go_wp2_with (at_builtin; go_loud (refine wpl_app_w _ rfl (.tmp 35) (.tmp 38) rfl w.heap.size (.slice ra 0 rcap) [] rfl (HR6.out.al _) ⟨w6.heap.size, 0, none⟩ 1 1 [⟨af, at_, afl, atl, asq, aak, ax⟩] rfl (.inl (by omega)) rfl (news_at (heap_alloc_new w6 _)) (by simp) (by simp; omega) ?_); intro gg cap w7 hown7 hgrow7 hat7)
      have eOB : (Value.slice ra OO.length rcap).ownBlock = (Value.slice ra 0 rcap).ownBlock := by cases ra <;> rfl
      have hNR := HNR.out
      have hTR := HTR.out
      rw [eOB] at hNR hTR
      have HVa := HV6.out.below (al_b w6 (.cells #[.int .i64 af, .int .i64 at_, .int .i64 afl, .int .i64 atl, .int .i64 asq, .int .i64 aak, .string ax] 37))
      have HTa : (w6.alloc (.cells #[.int .i64 af, .int .i64 at_, .int .i64 afl, .int .i64 atl, .int .i64 asq, .int .i64 aak, .string ax] 37)).ownsRow w.heap.size 9 1 tr (hndT LR).length ((hndT LR).map .string) := row_keep HT6.out fun k hk => Below.heap_alloc w6 _ k (HT6.out.lt k hk).2
      have HSa := HS6.out.trans (Stp.of (LF g m v2) (al_b w6 (.cells #[.int .i64 af, .int .i64 at_, .int .i64 afl, .int .i64 atl, .int .i64 asq, .int .i64 aak, .string ax] 37)))
      have hB7 : Below w.heap.size (w6.alloc (.cells #[.int .i64 af, .int .i64 at_, .int .i64 afl, .int .i64 atl, .int .i64 asq, .int .i64 aak, .string ax] 37)) w7 := Below.grown (Below.refl _ _) hgrow7 HSa.size fun k hk => (HR6.out.lt k hk).1
      have HR : Hid (TkP base w g m vq L ⟨pf, pt, pfl, ptl, psq, pak, px⟩ (.returned (.tuple #[tr, .slice (some ⟨gg, 0, none⟩) 1 cap, .int .i64 0])) w7) := by
        refine HF.out _ _ _ ⟨v2, row_keep HTa fun k hk => hgrow7.block k (HTa.lt k hk).2 (fun e => hTR k hk e.symm), hown7, HVa.keep fun k hk => hgrow7.block k (HVa.lt hk).2 (fun e => hNR k e.symm hk), ⟨hB7.os.trans HSa.os, hB7.tape.trans HSa.tape, hB7.output.trans HSa.output, Nat.le_trans HSa.size hB7.size, fun k hk hn => (hB7.block k hk).trans (HSa.block k hk hn), HSa.fp⟩, HNT.out, fun k hk hf => ?_, fun k hk e => ?_⟩
        · have ek : gg = k := by simpa [Value.ownBlock] using hk
          subst ek
          rcases hat7 with h | h
          · exact hNR _ h hf
          · have := (HVa.lt hf).2; omega
        · have ek : gg = k := by simpa [Value.ownBlock] using e
          subst ek
          rcases hat7 with h | h
          · exact hTR _ hk h
          · have := (HTa.lt _ hk).2; omega
      clear hown7 hgrow7 hat7 HF
      go_ret3
      exact HR.out
    · have dn : (OO.length == 0) = false := by rw [HPL.out]; simpa using hkk
      rw [if_neg hkk] at HF
      have HR : Hid (TkP base w g m vq L ⟨pf, pt, pfl, ptl, psq, pak, px⟩ (.returned (.tuple #[tr, .slice ra OO.length rcap, .int .i64 0])) w5) := HF.out _ _ _ ⟨v2, HT5.out, HR5.out, HV5.out, HS5.out, HNT.out, HNR.out, HTR.out⟩
      clear HF HT5 HR5 HV5 HS5 hkk HPL
      go_wp2
      go_ret3
      exact HR.out
end Go.Proofs.Ytiejehaaglpkoaa
