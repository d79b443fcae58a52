/- The law LinkGoes: its walk. -/
import Derived.Test.YtiejehaaglpkoaaLqE
import Derived.Deep.CutBlock
import Derived.Deep.DeepCutAuto
namespace Go.Proofs.Ytiejehaaglpkoaa
open Go.RowKit Go.ChangeMaps

theorem region_quietG {P : Program} {C : World → Prop} {id : Nat} {Q : Exit → Act → World → Prop} {a : Act} {w : World} {l : List Oper} (hm : P.follows .mixedOrders = true) (hB : Region.lexB .any l.toArray = true) (hC : C { w with drawn := w.drawn + 1 })
    (h : wpQuiet P l.toArray C (fun a' => ∀ w', C w' → Q .normal a' w') l a) : (Code.region id l.toArray true).wp P Q a w := wp_region_quiet hm hB hC (by simpa using h)
set_option maxRecDepth 100000 in
set_option maxHeartbeats 4000000 in
theorem linkGoes_walk (v : Value) (l : List Dd) (w : World) (hrow : IsRow w 4 v l.length (dCells l)) (_hl : l.length ≤ 140737488355328) :
    Calls Try.prog 5 #[v] w fun e w' => e = .returned (.bool true) ∧ Below w.heap.size w w' := by
  obtain ⟨va, vcap, hvf⟩ := hrow.form
  subst hvf
  have HRow : Hid (IsRow w 4 (.slice va l.length vcap) l.length (dCells l)) := hrow
  have HFr : Hid (Calls Try.prog 26 #[.int .i64 1] w fun e w' => ∃ P, e = .returned (.pointer (some ⟨P, 0, none⟩)) ∧ PG w P 0 w') := (fresh_any 1 (St.nil w) (by decide) (by decide)).mono fun e w' ⟨P, a, he, h⟩ => ⟨P, he, a, _, _, h, pi_0 1 (by omega) (by omega), oi_0 1, vi_0 1⟩
  have HAw : Hid (∀ w, Calls Try.prog 10 #[] w fun e w' => e = .returned (.bool true) ∧ Below w.heap.size w w') := awake13_any
  have HDo : Hid (∀ P k wr, PG w P k wr → k ≤ 500 → ∀ kd ad n t, Calls Try.prog 27 #[.pointer (some ⟨P, 0, none⟩), .agg #[.int .i64 kd, .int .i64 ad, .int .i64 n, .string t]] wr fun e w' => e = .returned (.bool true) ∧ PG w P (k + 1) w') := fun P k wr h hk kd ad n t => h.do hk kd ad n t
  clear hrow
  go_enter Try.func5, Try.ntmps5
  go_wp2_with fail
  refine HFr.out.mono ?_
  rintro e w1 ⟨P, rfl, T1⟩
  have HT1 : Hid (PG w P 0 w1) := T1
  clear HFr T1
  go_wp2_with fail
  refine (HAw.out _).mono ?_
  rintro e w2 ⟨rfl, hb2⟩
  have HT2 : Hid (PG w P 0 w2) := HT1.out.below hb2
  obtain ⟨g0, g1, p0, p1⟩ := HT2.out.cells
  clear hb2 HT1 HAw
  go_upto_block 0 with fail
  go_cut [4] (fun i wx => ∃ k : Nat, k ≤ 80 ∧ i = i ∧ Hid (PG w P k wx))
  case first =>
    as_aux_lemma =>
    go_wp2_with fail
    go_loopw [4] (fun i wr => ∃ k : Nat, (k ≤ l.length ∧ k ≤ 80) ∧ i = .int .i64 (k : Int) ∧ Hid (PG w P k wr)) (fun i _ => l.length - (intOf i).toNat)
    case atStart => exact ⟨0, ⟨Nat.zero_le _, by omega⟩, rfl, HT2⟩
    case round =>
      obtain ⟨k, hk, rfl, HR⟩ := hrel
      clear HT2 p0 p1
      by_cases hlk : k < l.length ∧ k < 80
      · have dk : decide (k < l.length) = true := by simp; omega
        have dk2 : decide ((k : Int) < 80) = true := by simp; omega
        have wk : IntKind.i64.wrap ((k : Int) + 1) = (k : Int) + 1 := wrapI (by omega) (by omega)
        obtain ⟨b, off, cap, hv, hc1, hc2, z0, z1, z2, z3⟩ := deed_at (HRow.out.below HR.out.to) hlk.1
        obtain ⟨rfl, -, rfl⟩ := Value.slice.inj hv
        have HS : Hid (Calls Try.prog 27 #[.pointer (some ⟨P, 0, none⟩), .agg #[.int .i64 (l[k]'hlk.1).kd, .int .i64 (l[k]'hlk.1).ad, .int .i64 (l[k]'hlk.1).n, .string (l[k]'hlk.1).t]] wr fun e w' => e = .returned (.bool true) ∧ PG w P (k + 1) w') := HDo.out _ _ _ HR.out (by omega) _ _ _ _
        generalize (l[k]'hlk.1) = dd at *
        obtain ⟨kd, ad, nn, tt⟩ := dd
        dsimp only at *
        have i1 : (0 : Int) ≤ (k : Int) := by omega
        have i2 : (k : Int) < (l.length : Int) := by omega
        clear hv HDo
        go_wp2_with fail
        refine HS.out.mono ?_
        rintro e w4 ⟨rfl, T4⟩
        have HR4 : Hid (PG w P (k + 1) w4) := T4
        clear T4 HS
        go_wp2
        go_roundw
        case rel => exact ⟨k + 1, ⟨by omega, by omega⟩, by simp, HR4⟩
        case measure => simp [intOf]; omega
      · have HGo : (¬ (k < l.length)) ∨ (k < l.length ∧ ¬ (k < 80)) := by omega
        rcases HGo with dk | ⟨dk, dk2⟩
        · have dk : decide (k < l.length) = false := by simp; omega
          go_wp2
          go_meet
          exact ⟨k, hk.2, trivial, HR⟩
        · have dk : decide (k < l.length) = true := by simp; omega
          have dk2 : decide ((k : Int) < 80) = false := by simp; omega
          go_wp2
          go_meet
          exact ⟨k, hk.2, trivial, HR⟩
  case rest =>
    obtain ⟨k0, hk0, -, HR0⟩ := hcut
    have HW0 : Hid (RW w P 0 wc) := HR0.out.rw hk0
    clear HR0 HT2 p0 p1 HDo hk0 HRow
    obtain ⟨wa, hwa⟩ : ∃ wa, wa = wc := ⟨_, rfl⟩
    subst hwa
    have HTk : Hid (∀ a s R W, PSn w P a s [] R W → GI s R → ∀ m : Nat, m < 2 → Calls Try.prog 20 #[lP (a.gl m)] W fun e w' => ∃ r, e = .returned r ∧ PSn w P a s [pkT _ r (pks (s.L m) 0 (s.L m).o)] R w') := fun a s R W h g m hm => tick_c h g hm
    have HOu : Hid (∀ a s R W (m : Nat) r, GI s R → m < 2 → PSn w P a s [pkT _ r (pks (s.L m) 0 (s.L m).o)] R W → Calls Try.prog 29 #[.pointer (some ⟨P, 0, none⟩), r] W fun e w' => e = .returned (.tuple #[]) ∧ PSn w P a s [] (outR R (pks (s.L m) 0 (s.L m).o)) w') := fun a s R W m r g hm h => out_c g hm h
    have HCm : Hid (∀ a s R W, PSn w P a s [] R W → GI s R → ∀ m : Nat, m < 2 → ∀ n : Int, n = (m : Int) → Calls Try.prog 31 #[.pointer (some ⟨P, 0, none⟩), .int .i64 n, .int .i64 0] W fun e w' => e = .returned (.bool true) ∧ ∃ a', PSn w P a' (cmF m s R).1 [] (cmF m s R).2 w') := fun a s R W h g m hm n hn => by subst hn; exact come_c h g hm
    have HCt : Hid (∀ a s R W, PSn w P a s [] R W → GI s R → Calls Try.prog 30 #[nP a.gn] W fun e w' => e = .returned (.int .i64 ((cntN R 256 : Nat) : Int)) ∧ PSn w P a s [] R w') := fun a s R W h g => count_c h g
    go_upto_block 2 with fail
    go_cut [5, 6] (fun n i wx => n = n ∧ i = i ∧ Hid (RW w P 20 wx))
    case first =>
      as_aux_lemma =>
      go_wp2_with fail
      go_loopw [5, 6] (fun i q wr => q = q ∧ ∃ n : Nat, n ≤ 20 ∧ i = .int .i64 (n : Int) ∧ Hid (RW w P n wr)) (fun i _ _ => 20 - (intOf i).toNat)
      case atStart => exact ⟨rfl, 0, Nat.zero_le _, rfl, HW0⟩
      case round =>
        clear HW0
        obtain ⟨-, n, hn, rfl, HR⟩ := hrel
        by_cases hln : n < 20
        · have dn : decide ((n : Int) < 20) = true := by simp; omega
          have wn : IntKind.i64.wrap ((n : Int) + 1) = (n : Int) + 1 := wrapI (by omega) (by omega)
          obtain ⟨a, s, R, hPS, hRV⟩ := HR.out
          have HRV : Hid (RV n s R) := hRV
          have hG0 := hRV.gi
          have hG1 := hG0.tick (m := 0) (by omega)
          have hG2 := hG1.tick (m := 1) (by omega)
          have HIV : Hid (∀ W a', PSn w P a' s [] (outR (outR R (pks (s.L 0) 0 (s.L 0).o)) (pks (s.L 1) 0 (s.L 1).o)) W → IW w P n s R 0 W) := fun W a' h => ⟨a', _, _, h, hRV.ticks⟩
          obtain ⟨-, -, pc, -, -⟩ := PSn.cells hPS
          have c0 := (pc 0 (by omega)).1
          have HC0 : Hid (Calls Try.prog 20 #[lP (a.gl 0)] wr fun e w' => ∃ r, e = .returned r ∧ PSn w P a s [pkT _ r (pks (s.L 0) 0 (s.L 0).o)] R w') := HTk.out _ _ _ _ hPS hG0 0 (by omega)
          have HO0 : Hid (∀ W r, PSn w P a s [pkT _ r (pks (s.L 0) 0 (s.L 0).o)] R W → Calls Try.prog 29 #[.pointer (some ⟨P, 0, none⟩), r] W fun e w' => e = .returned (.tuple #[]) ∧ PSn w P a s [] (outR R (pks (s.L 0) 0 (s.L 0).o)) w') := fun W r h => HOu.out _ _ _ _ 0 _ hG0 (by omega) h
          have HC1 : Hid (∀ W, PSn w P a s [] (outR R (pks (s.L 0) 0 (s.L 0).o)) W → Calls Try.prog 20 #[lP (a.gl 1)] W fun e w' => ∃ r, e = .returned r ∧ PSn w P a s [pkT _ r (pks (s.L 1) 0 (s.L 1).o)] (outR R (pks (s.L 0) 0 (s.L 0).o)) w') := fun W h => HTk.out _ _ _ _ h hG1 1 (by omega)
          have HO1 : Hid (∀ W r, PSn w P a s [pkT _ r (pks (s.L 1) 0 (s.L 1).o)] (outR R (pks (s.L 0) 0 (s.L 0).o)) W → Calls Try.prog 29 #[.pointer (some ⟨P, 0, none⟩), r] W fun e w' => e = .returned (.tuple #[]) ∧ PSn w P a s [] (outR (outR R (pks (s.L 0) 0 (s.L 0).o)) (pks (s.L 1) 0 (s.L 1).o)) w') := fun W r h => HOu.out _ _ _ _ 1 _ hG1 (by omega) h
          clear hPS hRV pc hG0 hG1 hG2 HR HTk HOu
          generalize a.gl 0 = gl0 at *
          go_wp2_with fail
          refine HC0.out.mono ?_
          rintro e w3 ⟨r3, rfl, T3⟩
          have HT3 : Hid (PSn w P a s [pkT _ r3 (pks (s.L 0) 0 (s.L 0).o)] R w3) := T3
          clear T3 HC0 c0
          go_wp2_with fail
          refine (HO0.out _ _ HT3.out).mono ?_
          rintro e w4 ⟨rfl, T4⟩
          have c1 := ((PSn.cells T4).2.2.1 1 (by omega)).1
          have HT4 : Hid (PSn w P a s [] (outR R (pks (s.L 0) 0 (s.L 0).o)) w4) := T4
          clear T4 HT3 HO0
          generalize hgl1 : a.gl 1 = gl1 at *
          go_wp2_with fail
          refine (HC1.out _ HT4.out).mono ?_
          rintro e w5 ⟨r5, rfl, T5⟩
          have HT5 : Hid (PSn w P a s [pkT _ r5 (pks (s.L 1) 0 (s.L 1).o)] (outR R (pks (s.L 0) 0 (s.L 0).o)) w5) := T5
          clear T5 HC1 c1 HT4
          go_wp2_with fail
          refine (HO1.out _ _ HT5.out).mono ?_
          rintro e w6 ⟨rfl, T6⟩
          have HI0 : Hid (IW w P n s R 0 w6) := HIV.out _ _ T6
          clear T6 HT5 HO1 HIV hgl1
          go_wp2_with fail
          go_loopw [6] (fun i wr => ∃ k : Nat, k ≤ 500 ∧ i = .int .i64 (k : Int) ∧ Hid (IW w P n s R k wr)) (fun i _ => 500 - (intOf i).toNat)
          case atStart => exact ⟨0, Nat.zero_le _, rfl, HI0⟩
          case round =>
            clear HI0
            obtain ⟨k, hk, rfl, HI⟩ := hrel
            by_cases hlk : k < 500
            · have dk : decide ((k : Int) < 500) = true := by simp; omega
              have wk : IntKind.i64.wrap ((k : Int) + 1) = (k : Int) + 1 := wrapI (by omega) (by omega)
              obtain ⟨a7, s7, R7, hP7, hI7⟩ := HI.out
              have HV7 : Hid (IV n (decide (cntN R 256 = 0)) (fun i => (s.L i).b) (fun i => (s.L i).b + ((s.L i).o : Int)) (fun i => (s.S i).length) k s7 R7) := hI7
              have c2 := (PSn.cells hP7).2.1
              have HCt7 : Hid (Calls Try.prog 30 #[nP a7.gn] wr fun e w' => e = .returned (.int .i64 ((cntN R7 256 : Nat) : Int)) ∧ PSn w P a7 s7 [] R7 w') := HCt.out _ _ _ _ hP7 hI7.gi
              have HA7 : Hid (∀ W, PSn w P a7 s7 [] R7 W → Calls Try.prog 31 #[.pointer (some ⟨P, 0, none⟩), .int .i64 0, .int .i64 0] W fun e w' => e = .returned (.bool true) ∧ ∃ a', PSn w P a' (cmF 0 s7 R7).1 [] (cmF 0 s7 R7).2 w') := fun W h => HCm.out _ _ _ _ h hI7.gi 0 (by omega) 0 rfl
              have HB7 : Hid (∀ W a', PSn w P a' (cmF 0 s7 R7).1 [] (cmF 0 s7 R7).2 W → Calls Try.prog 31 #[.pointer (some ⟨P, 0, none⟩), .int .i64 1, .int .i64 0] W fun e w' => e = .returned (.bool true) ∧ ∃ a', PSn w P a' (cmF 1 (cmF 0 s7 R7).1 (cmF 0 s7 R7).2).1 [] (cmF 1 (cmF 0 s7 R7).1 (cmF 0 s7 R7).2).2 w') := fun W a' h => HCm.out _ _ _ _ h (hI7.gi.come (by omega)) 1 (by omega) 1 rfl
              clear hP7 hI7 HI HCt HCm
              generalize a7.gn = gn7 at *
              go_wp2_with fail
              refine HCt7.out.mono ?_
              rintro e w8 ⟨rfl, T8⟩
              have HT8 : Hid (PSn w P a7 s7 [] R7 w8) := T8
              clear T8 HCt7 c2
              by_cases hz : cntN R7 256 = 0
              · have HRn : Hid (RW w P (n + 1) w8) := ⟨a7, s7, R7, HT8.out, HV7.out.done HRV.out (.inl hz)⟩
                rw [hz]
                clear hz HA7 HB7 HT8 HV7
                go_wp2
                go_roundw
                case rel => exact ⟨trivial, n + 1, by omega, by simp, HRn⟩
                case measure => simp [intOf]; omega
              · have HNe : Hid (cntN R7 256 ≠ 0) := hz
                have hz' : 0 < cntN R7 256 := by omega
                clear hz
                generalize cntN R7 256 = cc at hz' ⊢
                go_wp2_with fail
                refine (HA7.out _ HT8.out).mono ?_
                rintro e w9 ⟨rfl, a9, T9⟩
                have HT9 : Hid (PSn w P a9 (cmF 0 s7 R7).1 [] (cmF 0 s7 R7).2 w9) := T9
                clear T9 HA7 HT8
                go_wp2_with fail
                refine (HB7.out _ _ HT9.out).mono ?_
                rintro e w10 ⟨rfl, a10, T10⟩
                have HI10 : Hid (IW w P n s R (k + 1) w10) := ⟨a10, _, _, T10, HV7.out.step HNe.out⟩
                clear T10 HB7 HT9 HV7 HNe
                go_wp2
                go_roundw
                case rel => exact ⟨k + 1, by omega, by simp, HI10⟩
                case measure => simp [intOf]; omega
            · have hk5 : k = 500 := by omega
              obtain ⟨a7, s7, R7, hP7, hI7⟩ := HI.out
              have HRn : Hid (RW w P (n + 1) wr) := ⟨a7, s7, R7, hP7, hI7.done HRV.out (.inr hk5)⟩
              have dk : decide ((k : Int) < 500) = false := by simp; omega
              clear hP7 hI7 HI hk5 HCt HCm
              go_wp2
              go_roundw
              case rel => exact ⟨trivial, n + 1, by omega, by simp, HRn⟩
              case measure => simp [intOf]; omega
        · have hn20 : n = 20 := by omega
          subst hn20
          have dn : decide (((20 : Nat) : Int) < 20) = false := by decide
          go_wp2
          go_meet
          exact ⟨trivial, trivial, HR⟩
    case rest =>
      obtain ⟨-, -, HR⟩ := hcut
      clear HTk HOu HCm HCt HW0
      obtain ⟨a, s, R, hPS, hRV⟩ := HR.out
      obtain ⟨hq, hg⟩ := hRV.all
      obtain ⟨C, hC⟩ : ∃ C : World → Prop, C = fun W => PSn w P a s [] R W := ⟨_, rfl⟩
      have HC0 : Hid (C wc.drew) := by subst hC; exact PSn.below hPS ((Below.refl _ _).drew)
      have HCb : Hid (∀ W, C W → Below w.heap.size w W) := by subst hC; exact fun W h => PSn.to h
      have r0 := PSn.rows hPS (i := 0) (by omega)
      have r1 := PSn.rows hPS (i := 1) (by omega)
      obtain ⟨sa0, sc0, es0⟩ := (IsRow.own r0.1).form
      obtain ⟨ga0, gc0, eg0⟩ := (IsRow.own r0.2).form
      obtain ⟨sa1, sc1, es1⟩ := (IsRow.own r1.1).form
      obtain ⟨ga1, gc1, eg1⟩ := (IsRow.own r1.2).form
      have h0 := hg 0 (by omega)
      have h1 := hg 1 (by omega)
      rw [h0] at eg0
      rw [h1] at eg1
      change a.vg 0 = .slice ga0 (s.S 1).length gc0 at eg0
      change a.vg 1 = .slice ga1 (s.S 0).length gc1 at eg1
      have HCV : Hid (∀ W, C W → W.cell? ⟨P, 0, none⟩ = some (lP (a.gl 0)) ∧ W.cell? ⟨P, 1, none⟩ = some (lP (a.gl 1)) ∧ W.cell? ⟨P, 3, none⟩ = some (.slice sa0 (s.S 0).length sc0) ∧ W.cell? ⟨P, 4, none⟩ = some (.slice sa1 (s.S 1).length sc1) ∧ W.cell? ⟨P, 5, none⟩ = some (.slice ga0 (s.S 1).length gc0) ∧ W.cell? ⟨P, 6, none⟩ = some (.slice ga1 (s.S 0).length gc1)) := by
        subst hC
        intro W h
        obtain ⟨-, -, pc, -, -⟩ := PSn.cells h
        obtain ⟨x0, x1, x2⟩ := pc 0 (by omega)
        obtain ⟨y0, y1, y2⟩ := pc 1 (by omega)
        rw [es0] at x1
        rw [eg0] at x2
        rw [es1] at y1
        rw [eg1] at y2
        exact ⟨x0, y0, x1, y1, x2, y2⟩
      have HRt : Hid (∀ W, C W → Calls Try.prog 28 #[.pointer (some ⟨P, 0, none⟩)] W fun e w' => e = .returned (.bool true) ∧ C w') := by
        subst hC
        exact fun W h => right_any h (fun i hi => (hRV.gi.pi.en i hi).ok) (fun i hi => (hRV.gi.oi.rcv i hi).1.early (hRV.gi.oi.rcv i hi).2) (fun i hi => (hRV.gi.oi.rcv i hi).1.pre) (fun i hi => by have := hRV.gi.sl i hi; omega)
      have HLf : Hid (∀ g, (g = a.gl 0 ∨ g = a.gl 1) → ∀ W, C W → Calls Try.prog 22 #[lP g] W fun e w' => e = .returned (.int .i64 0) ∧ C w') := by
        subst hC
        intro g hgg W h
        have key : ∀ i : Nat, i < 2 → Calls Try.prog 22 #[lP (a.gl i)] W fun e w' => e = .returned (.int .i64 0) ∧ PSn w P a s [] R w' := fun i hi => (left_any (PSn.lnk h hi)).mono fun e w' ⟨he, hw⟩ => by
          rw [hq i hi] at he
          subst hw
          exact ⟨he, h⟩
        rcases hgg with rfl | rfl
        · exact key 0 (by omega)
        · exact key 1 (by omega)
      clear hC hPS hRV hq hg r0 r1 es0 eg0 es1 eg1 h0 h1 HR
      generalize a.gl 0 = gl0 at *
      generalize a.gl 1 = gl1 at *
      generalize (s.S 0).length = n0 at *
      generalize (s.S 1).length = n1 at *
      have z0 : IntKind.i64.wrap 0 = 0 := by decide
      have z1 : IntKind.i64.wrap (0 + 0) = 0 := by decide
      go_wp2_with fail
      refine region_quietG (C := C) (by kernel_rfl) (by kernel_rfl) HC0.out ?_
      try simp only [List.append]
      repeat (first
        | go_big_quiet_skip
        | (go_big_quiet_want
           apply Exists.intro
           refine ⟨fun W' hW' => ?_, ?_⟩
           · obtain ⟨g0, g1, g2, g3, g4, g5⟩ := HCV.out W' hW'
             go_simp
             first
               | done
               | rfl
               | (go_at_call 28; refine (HRt.out W' hW').mono ?_; rintro e w'' ⟨rfl, hb⟩; exact ⟨rfl, hb⟩)
               | (go_at_call 22; refine (HLf.out _ (by first | exact .inl rfl | exact .inr rfl) W' hW').mono ?_; rintro e w'' ⟨rfl, hb⟩; exact ⟨rfl, hb⟩)
           go_big_quiet_on
           try simp only [Act.put, List.setIfInBounds_toArray, List.set_cons_zero, List.set_cons_succ]))
      refine wpQuiet_nil ?_
      intro w9 hS9
      have HB9 := HCb.out w9 hS9
      clear hS9
      go_wp2
      go_ret
      exact ⟨rfl, HB9⟩
end Go.Proofs.Ytiejehaaglpkoaa
