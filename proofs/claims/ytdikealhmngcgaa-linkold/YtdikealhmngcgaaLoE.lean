/- The law LinkOld: its walk. -/
import Derived.Test.YtdikealhmngcgaaLoE0
import Derived.Deep.CutBlock
import Derived.Deep.DeepCutAuto
namespace Go.Proofs.Ytdikealhmngcgaa
open Go.RowKit Go.ChangeMaps

set_option maxRecDepth 100000 in
set_option maxHeartbeats 4000000 in
theorem linkOld_walk (v : Value) (l : List Dd) (x : Pk) (w : World) (hrow : IsRow w 4 v l.length (dCells l)) (_hl : l.length ≤ 140737488355328) :
    Calls Try.prog 6 #[v, pV x] w fun e w' => e = .returned (.bool true) ∧ Below w.heap.size w w' := by
  obtain ⟨va, vcap, hvf⟩ := hrow.form
  subst hvf
  have HRow : Hid (IsRow w 4 (.slice va l.length vcap) l.length (dCells l)) := hrow
  have HT0 : Hid (St w [blkT _ w.heap.size (.cells (pA x) 37 (0, 0))] (w.alloc (.cells (pA x) 37))) := (St.nil w).alloc _
  have HFr : Hid (Calls Try.prog 26 #[.int .i64 1] (w.alloc (.cells (pA x) 37)) fun e w' => ∃ P a, e = .returned (.pointer (some ⟨P, 0, none⟩)) ∧ PX w P x a (pr0 1) noR w') := fresh_any 1 HT0.out (by decide) (by decide)
  have HAw : Hid (∀ w, Calls Try.prog 10 #[] w fun e w' => e = .returned (.bool true) ∧ Below w.heap.size w w') := awake13_any
  have HDo : Hid (∀ P k wr, PK w P x k wr → k ≤ 500 → ∀ kd ad n t, Calls Try.prog 27 #[.pointer (some ⟨P, 0, none⟩), .agg #[.int .i64 kd, .int .i64 ad, .int .i64 n, .string t]] wr fun e w' => e = .returned (.bool true) ∧ PK w P x (k + 1) w') := fun P k wr h hk kd ad n t => h.do hk kd ad n t
  clear hrow HT0
  have HXc : Hid (∀ P a s R wr, PX w P x a s R wr → _) := fun P a s R wr h => PX.cells h
  generalize hxx : x = y at HFr HDo HXc
  obtain ⟨xf, xt, xfl, xtl, xsq, xak, xx⟩ := x
  subst hxx
  dsimp only [pV, pA] at *
  go_enter Try.func6, Try.ntmps6
  go_wp2_with fail
  refine HFr.out.mono ?_
  rintro e w1 ⟨P, a, rfl, T1⟩
  have HT1 : Hid (PX w P ⟨xf, xt, xfl, xtl, xsq, xak, xx⟩ a (pr0 1) noR w1) := T1
  clear HFr T1
  go_wp2_with fail
  refine (HAw.out _).mono ?_
  rintro e w2 ⟨rfl, hb2⟩
  have HT2 : Hid (PX w P ⟨xf, xt, xfl, xtl, xsq, xak, xx⟩ a (pr0 1) noR w2) := HT1.out.below hb2
  obtain ⟨⟨p0, p1⟩, ⟨-, -, -, -, -, -, x6⟩, -⟩ := HXc.out _ _ _ _ _ HT2.out
  clear hb2 HT1
  by_cases hz : xx.size ≤ 300
  · have dz : decide ((300 : Int) < (xx.size : Int)) = false := by simp; omega
    have HK : Hid (PK w P ⟨xf, xt, xfl, xtl, xsq, xak, xx⟩ 0 w2) := ⟨a, _, _, HT2.out, pi_0 1 (by omega) (by omega)⟩
    go_upto_block 0 with fail
    go_cut [6] (fun i wx => ∃ k : Nat, k ≤ 40 ∧ i = i ∧ Hid (PK w P ⟨xf, xt, xfl, xtl, xsq, xak, xx⟩ k wx))
    case first =>
      go_wp2_with fail
      go_loopw [6] (fun i wr => ∃ k : Nat, (k ≤ l.length ∧ k ≤ 40) ∧ i = .int .i64 (k : Int) ∧ Hid (PK w P ⟨xf, xt, xfl, xtl, xsq, xak, xx⟩ k wr)) (fun i _ => l.length - (intOf i).toNat)
      case atStart => exact ⟨0, ⟨Nat.zero_le _, by omega⟩, rfl, HK⟩
      case round =>
        obtain ⟨k, hk, rfl, HR⟩ := hrel
        clear HK HT2 p0 p1 x6
        by_cases hlk : k < l.length ∧ k < 40
        · have dk : decide (k < l.length) = true := by simp; omega
          have dk2 : decide ((k : Int) < 40) = true := by simp; omega
          have wk : IntKind.i64.wrap ((k : Int) + 1) = (k : Int) + 1 := wrapI (by omega) (by omega)
          obtain ⟨b, off, cap, hv, hc1, hc2, z0, z1, z2, z3⟩ := deed_at (HRow.out.below HR.out.to) hlk.1
          obtain ⟨rfl, -, rfl⟩ := Value.slice.inj hv
          have HS : Hid (Calls Try.prog 27 #[.pointer (some ⟨P, 0, none⟩), .agg #[.int .i64 (l[k]'hlk.1).kd, .int .i64 (l[k]'hlk.1).ad, .int .i64 (l[k]'hlk.1).n, .string (l[k]'hlk.1).t]] wr fun e w' => e = .returned (.bool true) ∧ PK w P ⟨xf, xt, xfl, xtl, xsq, xak, xx⟩ (k + 1) w') := HDo.out _ _ _ HR.out (by omega) _ _ _ _
          generalize (l[k]'hlk.1) = dd at *
          obtain ⟨kd, ad, nn, tt⟩ := dd
          dsimp only at *
          have i1 : (0 : Int) ≤ (k : Int) := by omega
          have i2 : (k : Int) < (l.length : Int) := by omega
          clear hv HDo
          go_wp2_with fail
          refine HS.out.mono ?_
          rintro e w4 ⟨rfl, T4⟩
          have HR4 : Hid (PK w P ⟨xf, xt, xfl, xtl, xsq, xak, xx⟩ (k + 1) w4) := T4
          clear T4 HS
          go_wp2
          go_roundw
          case rel => exact ⟨k + 1, ⟨by omega, by omega⟩, by simp, HR4⟩
          case measure => simp [intOf]; omega
        · have HGo : (¬ (k < l.length)) ∨ (k < l.length ∧ ¬ (k < 40)) := by omega
          rcases HGo with dk | ⟨dk, dk2⟩
          · have dk : decide (k < l.length) = false := by simp; omega
            go_wp2
            go_meet
            exact ⟨k, hk.2, trivial, HR⟩
          · have dk : decide (k < l.length) = true := by simp; omega
            have dk2 : decide ((k : Int) < 40) = false := by simp; omega
            go_wp2
            go_meet
            exact ⟨k, hk.2, trivial, HR⟩
    case rest =>
      obtain ⟨k, hk, -, HR⟩ := hcut
      clear HK HT2 p0 p1 x6
      have hkk : k ≤ 500 := by omega
      obtain ⟨a3, s3, R3, T3, I3⟩ := HR.out
      have HT3 : Hid (PX w P ⟨xf, xt, xfl, xtl, xsq, xak, xx⟩ a3 s3 R3 wc) := T3
      have HTk : Hid (∀ tl W3, PX w P ⟨xf, xt, xfl, tl, xsq, xak, xx⟩ a3 s3 R3 W3 → ¬ (xfl = 1 ∧ tl = 1) → _) := fun tl W3 h hy => PX.take h I3 hkk (by show xx.size ≤ _; omega) hy
      obtain ⟨⟨p0, p1⟩, ⟨x0, x1, x2, x3, x4, x5, x6⟩, xz⟩ := HXc.out _ _ _ _ _ T3
      clear T3 I3 HR HDo HAw HRow
      have HCl : Hid (∀ w', TL w (a3.gl 0) (s3.L 0) w' → _) := fun w' h => TL.calls h
      obtain ⟨wr, hwr⟩ : ∃ wr, wr = wc := ⟨_, rfl⟩
      subst hwr
      go_upto_region 10 with fail
      go_cut [70] (fun b wx => b = .bool (decide (xfl = 1 ∧ xtl = 1)) ∧ wr = wx)
      case first =>
        by_cases cf1 : xfl = 1
        · have nf1 : (xfl == 1) = true := by simpa using cf1
          by_cases ct1 : xtl = 1
          · have nt1 : (xtl == 1) = true := by simpa using ct1
            have HD : Hid (decide (xfl = 1 ∧ xtl = 1) = true) := decide_eq_true ⟨cf1, ct1⟩
            clear cf1 ct1
            go_wp2
            go_meet
            exact ⟨by rw [HD.out], rfl⟩
          · have nt1 : (xtl == 1) = false := by simpa using ct1
            have HD : Hid (decide (xfl = 1 ∧ xtl = 1) = false) := decide_eq_false fun h => ct1 h.2
            clear cf1 ct1
            go_wp2
            go_meet
            exact ⟨by rw [HD.out], rfl⟩
        · have nf1 : (xfl == 1) = false := by simpa using cf1
          have HD : Hid (decide (xfl = 1 ∧ xtl = 1) = false) := decide_eq_false fun h => cf1 h.1
          clear cf1
          go_wp2
          go_meet
          exact ⟨by rw [HD.out], rfl⟩
      case rest =>
        obtain ⟨rfl, rfl⟩ := hcut
        go_upto_if 70 with fail
        go_cut [71] (fun q wx => q = q ∧ ∃ tl, ¬ (xfl = 1 ∧ tl = 1) ∧ Hid (PX w P ⟨xf, xt, xfl, tl, xsq, xak, xx⟩ a3 s3 R3 wx))
        case first =>
          by_cases cfl : xfl = 1 ∧ xtl = 1
          · have dd : decide (xfl = 1 ∧ xtl = 1) = true := decide_eq_true cfl
            have HT4 : Hid (PX w P ⟨xf, xt, xfl, 2, xsq, xak, xx⟩ a3 s3 R3 (wr.setCell ⟨w.heap.size, 3, none⟩ (.int .i64 2))) := PX.set3 HT3.out 2
            rw [dd]
            clear dd cfl
            go_wp2
            go_meet
            exact ⟨trivial, 2, by omega, HT4⟩
          · have dd : decide (xfl = 1 ∧ xtl = 1) = false := decide_eq_false cfl
            have HN : Hid (¬ (xfl = 1 ∧ xtl = 1)) := cfl
            rw [dd]
            clear dd cfl
            go_wp2
            go_meet
            exact ⟨trivial, xtl, HN.out, HT3⟩
        case rest =>
          obtain ⟨-, tl, hno, HT4⟩ := hcut
          clear HT3 x0 x1 x2 x3 x4 x5 x6 xz p0 p1
          obtain ⟨wr2, hwr2⟩ : ∃ wr2, wr2 = wc := ⟨_, rfl⟩
          subst hwr2
          obtain ⟨⟨p0, p1⟩, ⟨y0, y1, y2, y3, y4, y5, y6⟩, -⟩ := PX.cells HT4.out
          have HK4 := HTk.out tl _ HT4.out hno
          obtain ⟨HTl, HTt⟩ := HK4
          generalize hL3 : s3.L 0 = L3 at *
          generalize hg3 : a3.gl 0 = g3 at *
          have HTt : Hid (Calls Try.prog 17 #[lP g3, .agg #[.int .i64 xf, .int .i64 xt, .int .i64 xfl, .int .i64 tl, .int .i64 xsq, .int .i64 xak, .string xx]] wr2 fun e w' => ∃ ta tcap ra rcap lk, e = .returned (.tuple #[.slice ta 0 tcap, .slice ra 0 rcap, .int .i64 lk]) ∧ (lk = 1 ∨ lk = 4) ∧ TL w g3 L3 w') := HTt
          have HTl : Hid (TL w g3 L3 wr2) := HTl
          clear HTk HT4 HXc hno hL3 hg3
          go_wp2_with fail
          refine (HCl.out _ HTl.out).1.mono ?_
          rintro e w5 ⟨rfl, rfl⟩
          go_wp2_with fail
          refine (HCl.out _ HTl.out).2.1.mono ?_
          rintro e w5 ⟨rfl, rfl⟩
          go_wp2_with fail
          refine (HCl.out _ HTl.out).2.2.1.mono ?_
          rintro e w5 ⟨rfl, rfl⟩
          go_wp2_with fail
          refine (HCl.out _ HTl.out).2.2.2.mono ?_
          rintro e w5 ⟨rfl, rfl⟩
          go_wp2_with fail
          refine HTt.out.mono ?_
          rintro e w6 ⟨ta, tcap, ra, rcap, lk, rfl, hlk6, T6⟩
          have HT6 : Hid (TL w g3 L3 w6) := T6
          clear T6 HTt HTl y0 y1 y2 y3 y4 y5 y6
          rcases hlk6 with rfl | rfl
          all_goals
            go_wp2_with fail
            refine (HCl.out _ HT6.out).1.mono ?_
            rintro e w5 ⟨rfl, rfl⟩
            go_wp2_with fail
            refine (HCl.out _ HT6.out).2.1.mono ?_
            rintro e w5 ⟨rfl, rfl⟩
            go_wp2_with fail
            refine (HCl.out _ HT6.out).2.2.1.mono ?_
            rintro e w5 ⟨rfl, rfl⟩
            go_wp2_with fail
            refine (HCl.out _ HT6.out).2.2.2.mono ?_
            rintro e w5 ⟨rfl, rfl⟩
            go_wp2
            go_ret
            exact ⟨rfl, HT6.out.2⟩
  · have dz : decide ((300 : Int) < (xx.size : Int)) = true := by simp; omega
    have HB2 : Hid (Below w.heap.size w w2) := PSn.to HT2.out
    go_wp2_with fail
    refine (HAw.out _).mono ?_
    rintro e w3 ⟨rfl, hb3⟩
    have HB3 : Hid (Below w.heap.size w w3) := HB2.out.trans (hb3.mono HB2.out.size)
    clear hb3
    go_wp2
    go_ret
    exact ⟨rfl, HB3.out⟩
end Go.Proofs.Ytdikealhmngcgaa
