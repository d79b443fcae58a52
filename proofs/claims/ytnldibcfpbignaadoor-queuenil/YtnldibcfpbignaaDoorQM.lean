/- QueueForgets: its walk. -/
import Derived.Test.YtnldibcfpbignaaDoorQL
import Derived.Deep.CutBlock
namespace Go.Proofs.YtnldibcfpbignaaDoor
open Go.RowKit Go.ChangeMaps

def u8C (l : List Int) : List Value := l.map (.int .u8)
theorem u8_at {w : World} {a : Option Addr} {n cap : Nat} {l : List Int} (h : IsRow w 1 (.slice a n cap) l.length (u8C l)) (h0 : 0 < l.length) :
    ∃ b off, a = some ⟨b, off, none⟩ ∧ b < w.heap.size ∧ n = l.length ∧ ∀ (k : Nat) (hk : k < l.length), w.cell? ⟨b, off + k, none⟩ = some (.int .u8 l[k]) := by
  obtain ⟨b, off, cap', hv, hlt, q1, q2, hc⟩ := h.open (by omega)
  simp only [Value.slice.injEq] at hv
  refine ⟨b, off, hv.1, hlt, hv.2.1, fun k hk => hc k _ ?_⟩
  simp [u8C, hk]
/-- The room that a number gives. -/
def rmZ (z : Int) : Int := 1 + (z.tmod 100 + 100).tmod 100
theorem rmZ_in (z : Int) : 1 ≤ rmZ z ∧ rmZ z ≤ 100 := by
  unfold rmZ
  have h1 : -100 < z.tmod 100 := by
    have := Int.lt_tmod_of_pos z (b := 100) (by decide); omega
  have h2 := Int.tmod_nonneg (a := z.tmod 100 + 100) 100 (by omega)
  have h3 := Int.tmod_lt_of_pos (z.tmod 100 + 100) (b := 100) (by decide)
  omega
theorem rm_wraps (z : Int) : IntKind.i64.wrap (z.tmod 100) = z.tmod 100 ∧ IntKind.i64.wrap (z.tmod 100 + 100) = z.tmod 100 + 100 ∧ IntKind.i64.wrap ((z.tmod 100 + 100).tmod 100) = (z.tmod 100 + 100).tmod 100 ∧ IntKind.i64.wrap (1 + (z.tmod 100 + 100).tmod 100) = rmZ z := by
  have h1 : -100 < z.tmod 100 := by
    have := Int.lt_tmod_of_pos z (b := 100) (by decide); omega
  have h1' : z.tmod 100 < 100 := Int.tmod_lt_of_pos z (by decide)
  have h2 := Int.tmod_nonneg (a := z.tmod 100 + 100) 100 (by omega)
  have h3 := Int.tmod_lt_of_pos (z.tmod 100 + 100) (b := 100) (by decide)
  exact ⟨wrapI (by omega) (by omega), wrapI (by omega) (by omega), wrapI (by omega) (by omega), wrapI (by omega) (by omega)⟩
/-- The subscription that a byte gives. -/
theorem sub_wraps {y : Int} (h1 : 0 ≤ y) : IntKind.u8.wrap (y.tmod 4) = y.tmod 4 ∧ IntKind.i64.wrap (y.tmod 4) = y.tmod 4 ∧ IntKind.i64.wrap (1 + y.tmod 4) = 1 + y.tmod 4 ∧ 0 ≤ y.tmod 4 ∧ y.tmod 4 < 4 := by
  have a1 := Int.tmod_nonneg (a := y) 4 h1
  have a2 := Int.tmod_lt_of_pos y (b := 4) (by decide)
  refine ⟨?_, wrapI (by omega) (by omega), wrapI (by omega) (by omega), a1, a2⟩
  simp only [IntKind.wrap, IntKind.signed, IntKind.bits]
  simp
  omega
/-- What stays, at its place. -/
theorem stay_get {sub : Int} {l : List Gv} {i : Nat} (h : i < l.length) (hs : isS sub l[i] = false) : ∃ hk : (stay sub (l.take i)).length < (stay sub l).length, (stay sub l)[(stay sub (l.take i)).length]'hk = l[i] := by
  have e : stay sub l = stay sub (l.take i) ++ (l[i] :: stay sub (l.drop (i + 1))) := by
    have h1 : l = l.take i ++ (l[i] :: l.drop (i + 1)) := by rw [← List.drop_eq_getElem_cons h, List.take_append_drop]
    have h2 : stay sub l = stay sub (l.take i ++ (l[i] :: l.drop (i + 1))) := by rw [← h1]
    rw [h2]
    unfold stay
    rw [List.filter_append, List.filter_cons_of_pos (by simp [hs])]
  have hk : (stay sub (l.take i)).length < (stay sub l).length := by
    have := congrArg List.length e
    rw [List.length_append, List.length_cons] at this
    omega
  refine ⟨hk, ?_⟩
  have h3 : (stay sub l)[(stay sub (l.take i)).length]? = some l[i] := by rw [e, List.getElem?_append_right (Nat.le_refl _), Nat.sub_self]; rfl
  exact Option.some.inj ((List.getElem?_eq_getElem hk).symm.trans h3)
set_option maxRecDepth 100000 in
set_option maxHeartbeats 4000000 in
theorem queueForgets_walk (room : Int) (v : Value) (l : List Int) (sub : Int) (w : World) (hr : IsRow w 1 v l.length (u8C l)) (hl : l.length ≤ 140737488355328) (hy : ∀ y ∈ l, 0 ≤ y ∧ y ≤ 255) :
    Calls Tryd.prog 5 #[.int .i64 room, v, .int .i64 sub] w fun e w' => e = .returned (.bool true) ∧ Below w.heap.size w w' := by
  obtain ⟨a0, cap0, rfl⟩ := hr.form
  have HR : Hid (IsRow w 1 (.slice a0 l.length cap0) l.length (u8C l)) := hr
  have HY : Hid (∀ y ∈ l, 0 ≤ y ∧ y ≤ 255) := hy
  obtain ⟨wz1, wz2, wz3, wz4⟩ := rm_wraps room
  have HN : Hid (Calls Tryd.prog 7 #[.int .i64 (rmZ room)] w fun e w' => ∃ g, e = .returned (qP g) ∧ QS w (newQ (rmZ room)) g [] w') := qs_new _ w (rmZ_in room).1 (rmZ_in room).2
  have HA : Hid (∀ w, Calls Tryd.prog 8 #[] w fun e w' => e = .returned (.bool true) ∧ Below w.heap.size w w') := awake18_any
  have H1 : Hid (∀ q w, Calls Tryd.prog 23 #[.int .i64 q] w fun e w' => e = .returned (evV q) ∧ Below w.heap.size w w') := oneV_ok
  have HOn : Hid (OkQ (rmZ room) 0 (newQ (rmZ room))) := OkQ.new _
  clear hr hy
  generalize newQ (rmZ room) = Q0 at *
  generalize hrr : rmZ room = r at *
  clear hrr
  go_enter Tryd.func5, Tryd.ntmps5
  go_wp2_with fail
  refine HN.out.mono ?_
  rintro e W0 ⟨g, rfl, M0⟩
  clear HN wz1 wz2 wz3 wz4
  go_wp2_with fail
  refine (HA.out _).mono ?_
  rintro e W1 ⟨rfl, hb1⟩
  have M1 := M0.below hb1
  clear M0 hb1 HA
  go_upto_block 0 with fail
  go_cut [8] (fun i wx => ∃ Q : Qu, i = i ∧ OkQ r 60 Q ∧ QS w Q g [] wx)
  case first =>
    go_wp2_with fail
    go_loopw [8] (fun i wr => ∃ (k : Nat) (Q : Qu), i = .int .i64 (k : Int) ∧ k ≤ 60 ∧ k ≤ l.length ∧ OkQ r k Q ∧ QS w Q g [] wr) (fun i _ => 60 - (intOf i).toNat)
    case atStart => exact ⟨0, Q0, rfl, by omega, by omega, HOn.out, M1⟩
    case round =>
      obtain ⟨k, Q, rfl, hk60, hkl, hok, M⟩ := hrel
      have HM : Hid (QS w Q g [] wr) := M
      have HOk : Hid (OkQ r k Q) := hok
      clear M hok M1
      by_cases hlk : k < l.length
      · have dk : decide ((k : Int) < l.length) = true := by simp; omega
        have dk' : decide (k < l.length) = true := by simp; omega
        by_cases h60 : k < 60
        · have d6 : decide ((k : Int) < 60) = true := by simp; omega
          obtain ⟨b, off, rfl, hlt, -, hc⟩ := u8_at HR.out (by omega)
          have y0 : wr.cell? ⟨b, off + k, none⟩ = some (.int .u8 l[k]) := (HM.out.to.cell (p := ⟨b, off + k, none⟩) hlt).trans (hc k hlk)
          obtain ⟨p1, p2⟩ := HY.out l[k] (List.getElem_mem hlk)
          obtain ⟨s1, s2, s3, s4, s5⟩ := sub_wraps p1
          have wk : IntKind.i64.wrap ((k : Int) + 1) = (k : Int) + 1 := wrapI (by omega) (by omega)
          have i1 : (0 : Int) ≤ (k : Int) := by omega
          have i2 : (k : Int) < (l.length : Int) := by omega
          generalize l[k]'hlk = y at *
          have HOf : Hid (∀ W, QS w Q g [] W → Calls Tryd.prog 13 #[qP g, gV (gk (1 + y.tmod 4) ((k : Int) + 1))] W fun e w' => e = .returned (.int .i64 (offE Q)) ∧ QS w (offQ Q (gk (1 + y.tmod 4) ((k : Int) + 1))) g [] w') := fun W hW => hW.offer _ _ (by omega) (by omega) (by omega) (by have := HOk.out.len; omega) (HOk.out.ov _).1 (by have := (HOk.out.ov (1 + y.tmod 4)).2; omega)
          have HOk2 : Hid (OkQ r (k + 1) (offQ Q (gk (1 + y.tmod 4) ((k : Int) + 1)))) := HOk.out.offer _ _
          generalize offQ Q (gk (1 + y.tmod 4) ((k : Int) + 1)) = Q2 at *
          generalize offE Q = eo at *
          clear hc
          go_wp2_with fail
          have hS : wr.cell? ⟨b, off + k, none⟩ = some (.int .u8 y) := y0
          have HSB : Hid (∀ W', Below w.heap.size w W' → W'.cell? ⟨b, off + k, none⟩ = some (.int .u8 y)) := fun W' h => by
            have e1 := h.cell (p := ⟨b, off + k, none⟩) hlt
            have e2 := HM.out.to.cell (p := ⟨b, off + k, none⟩) hlt
            rw [e1, ← e2]; exact hS
          clear y0
          have HMd : Hid (QS w Q g [] wr.drew) := HM.out.drew
          have hS2 : wr.drew.cell? ⟨b, off + k, none⟩ = some (.int .u8 y) := hS
          have hS3 : ∀ W', Below wr.drew.heap.size wr.drew W' → W'.cell? ⟨b, off + k, none⟩ = some (.int .u8 y) := fun W' h => HSB.out W' (HMd.out.below h).to
          go_region_held3 (fun w' => w'.cell? ⟨b, off + k, none⟩ = some (.int .u8 y))
            (first | with_reducible assumption | with_reducible exact HSB.out _ (QS.to (by with_reducible assumption)) | with_reducible exact hS3 _ (by with_reducible assumption))
            ((first
              | (go_at_call 23; refine (H1.out _ _).mono ?_; rintro e w5 ⟨rfl, hb5⟩; have M5 := HMd.out.below hb5)
              | (go_at_call 13; refine (HOf.out _ M5).mono ?_; rintro e w6 ⟨rfl, M6⟩)))
          rename_i hH9
          clear hH9 hS hS2 hS3
          have HM6 : Hid (QS w Q2 g [] w6) := M6
          clear M5 M6
          go_wp2
          go_roundw
          case rel => exact ⟨k + 1, Q2, by simp, by omega, by omega, HOk2.out, HM6.out⟩
          case measure => simp [intOf]; omega
        · have d6 : decide ((k : Int) < 60) = false := by simp; omega
          have HF : Hid (OkQ r 60 Q) := by
            obtain rfl : k = 60 := by omega
            exact HOk.out
          go_wp2
          go_meet
          exact ⟨Q, trivial, HF.out, HM.out⟩
      · obtain rfl : k = l.length := by omega
        have dk : decide ((l.length : Int) < l.length) = false := by simp
        have HF : Hid (OkQ r 60 Q) := ⟨HOk.out.rm, Nat.le_trans HOk.out.len hk60, fun s => ⟨(HOk.out.ov s).1, by have := (HOk.out.ov s).2; omega⟩, HOk.out.gs⟩
        go_wp2
        go_meet
        exact ⟨Q, trivial, HF.out, HM.out⟩
  case rest =>
  obtain ⟨Q, -, hok, M⟩ := hcut
  have hl6 : Q.l.length ≤ 60 := hok.len
  have HOv : Hid (∀ s, 0 ≤ Q.ov s ∧ Q.ov s ≤ 60) := hok.ov
  have HGs : Hid (GkL Q.l) := hok.gs
  have HPk : Hid (∀ W, QS w Q g [] W → Calls Tryd.prog 22 #[qP g] W fun e w' => ∃ r K1, e = .returned r ∧ QS w Q g (K1 ++ []) w' ∧ RowB K1 r Q.l) := fun W h => h.peek (by omega) HGs.out
  clear hok M1 HOn HR HY H1
  go_wp2_with fail
  refine (HPk.out _ M).mono ?_
  rintro e W2 ⟨rw0, K1, rfl, M2, hrow⟩
  have hrf := (M2.row hrow (by simp)).form
  obtain ⟨ra, rc, rfl⟩ := hrf
  have HRow : Hid (RowB K1 (.slice ra Q.l.length rc) Q.l) := hrow
  clear HPk M hrow
  rw [List.append_nil] at M2
  have HM2 : Hid (QS w Q g ((W2.heap.size, .cells #[.int .i64 0, .int .i64 0, .int .i64 0, .int .i64 0, .int .i64 0] 62 (0, 0)) :: K1) (W2.alloc (.cells #[.int .i64 0, .int .i64 0, .int .i64 0, .int .i64 0, .int .i64 0] 62))) := M2.alloc _
  clear M2
  go_upto_block 2 with fail
  generalize W2.alloc (.cells #[.int .i64 0, .int .i64 0, .int .i64 0, .int .i64 0, .int .i64 0] 62) = W3 at *
  generalize W2.heap.size = N at *
  go_cut [11] (fun i wx => ∃ C : Array Value, i = i ∧ C.size = 5 ∧ (∀ t : Nat, 1 ≤ t → t ≤ 4 → C[t]? = some (.int .i64 (Q.ov (t : Int)))) ∧ QS w Q g ((N, .cells C 62 (0, 0)) :: K1) wx)
  case first =>
    as_aux_lemma =>
    go_wp2_with fail
    go_loopw [11] (fun i wr => ∃ (s : Nat) (C : Array Value), i = .int .i64 (s : Int) ∧ 1 ≤ s ∧ s ≤ 5 ∧ C.size = 5 ∧ Hid (∀ t : Nat, 1 ≤ t → t < s → C[t]? = some (.int .i64 (Q.ov (t : Int)))) ∧ QS w Q g ((N, .cells C 62 (0, 0)) :: K1) wr) (fun i _ => 5 - (intOf i).toNat)
    case atStart => exact ⟨1, _, rfl, by omega, by omega, rfl, fun t h1 h2 => by omega, HM2.out⟩
    case round =>
      obtain ⟨s, C, rfl, hs1, hs5, hC, HC, M⟩ := hrel
      have HM : Hid (QS w Q g ((N, .cells C 62 (0, 0)) :: K1) wr) := M
      have hbN := M.blk (N, .cells C 62 (0, 0)) (List.mem_cons_self ..)
      clear M HM2
      by_cases h4 : s ≤ 4
      · have d4 : decide ((s : Int) ≤ 4) = true := by simp; omega
        have c0 : wr.cell? ⟨N, s, none⟩ = some (C[s]'(by omega)) := by rw [cell_of_row wr N s C _ (0, 0) hbN, Array.getElem?_eq_getElem]
        have fz : ∀ o, wr.frozen? ⟨N, o, none⟩ = false := fun o => by simp [World.frozen?, hbN]
        have i1 : (0 : Int) ≤ (s : Int) := by omega
        have i2 : (s : Int) < 5 := by omega
        have HO : Hid (Calls Tryd.prog 20 #[qP g, .int .i64 (s : Int)] wr fun e w' => e = .returned (.int .i64 (Q.ov (s : Int))) ∧ w' = wr) := HM.out.over _
        have HS : Hid (QS w Q g ((N, .cells (C.setIfInBounds s (.int .i64 (Q.ov (s : Int)))) 62 (0, 0)) :: K1) (wr.setCell ⟨N, s, none⟩ (.int .i64 (Q.ov (s : Int))))) := HM.out.set s _
        have HC2 : Hid (∀ t : Nat, 1 ≤ t → t < s + 1 → (C.setIfInBounds s (.int .i64 (Q.ov (s : Int))))[t]? = some (.int .i64 (Q.ov (t : Int)))) := fun t h1 h2 => by
          by_cases e : t = s
          · subst e; rw [Array.getElem?_setIfInBounds_self_of_lt (by omega)]
          · rw [Array.getElem?_setIfInBounds_ne (by omega)]; exact HC.out t h1 (by omega)
        have wk : IntKind.i64.wrap ((s : Int) + 1) = (s : Int) + 1 := wrapI (by omega) (by omega)
        generalize C[s]'(by omega) = u0 at *
        clear hbN HC HM
        generalize Q.ov (s : Int) = os at *
        go_wp2_with fail
        refine HO.out.mono ?_
        rintro e w5 ⟨rfl, h5⟩
        obtain rfl := h5.symm
        clear HO
        go_wp2
        go_roundw
        case rel => exact ⟨s + 1, _, by simp, by omega, by omega, by simpa using hC, HC2.out, HS.out⟩
        case measure => simp [intOf]; omega
      · have d4 : decide ((s : Int) ≤ 4) = false := by simp; omega
        have HC2 : Hid (∀ t : Nat, 1 ≤ t → t ≤ 4 → C[t]? = some (.int .i64 (Q.ov (t : Int)))) := fun t h1 h2 => HC.out t h1 (by omega)
        clear HC hbN
        go_wp2
        go_meet
        exact ⟨C, trivial, hC, HC2.out, HM.out⟩
  case rest =>
  obtain ⟨C, -, hC, hCt, M⟩ := hcut
  have HC : Hid (∀ t : Nat, 1 ≤ t → t ≤ 4 → C[t]? = some (.int .i64 (Q.ov (t : Int)))) := hCt
  have HFg : Hid (∀ W, QS w Q g ((N, .cells C 62 (0, 0)) :: K1) W → Calls Tryd.prog 18 #[qP g, .int .i64 sub] W fun e w' => e = .returned (.int .i64 ((Q.l.length - (stay sub Q.l).length : Nat) : Int)) ∧ QS w (fgQ Q sub) g ((N, .cells C 62 (0, 0)) :: K1) w') := fun W h => h.forget (by omega) sub
  have hsl := stay_len sub Q.l
  have HPk : Hid (∀ W, QS w (fgQ Q sub) g ((N, .cells C 62 (0, 0)) :: K1) W → Calls Tryd.prog 22 #[qP g] W fun e w' => ∃ r K2, e = .returned r ∧ QS w (fgQ Q sub) g (K2 ++ ((N, .cells C 62 (0, 0)) :: K1)) w' ∧ RowB K2 r (stay sub Q.l)) := fun W h => h.peek (by show (stay sub Q.l).length ≤ 1000; omega) (fun x hx => HGs.out x (List.mem_filter.1 hx).1)
  clear HM2 hCt
  go_wp2_with fail
  refine (HFg.out _ M).mono ?_
  rintro e W4 ⟨rfl, M4⟩
  clear M HFg
  go_wp2_with fail
  refine (HPk.out _ M4).mono ?_
  rintro e W5 ⟨rw5, K2, rfl, M5, hrow5⟩
  have HRn : Hid (IsRow W5 7 rw5 (stay sub Q.l).length (gCells (stay sub Q.l))) := M5.row hrow5 (fun p hp => List.mem_append_left _ hp)
  have HRw : Hid (IsRow W5 7 (.slice ra Q.l.length rc) Q.l.length (gCells Q.l)) := M5.row HRow.out (fun p hp => List.mem_append_right _ (List.mem_cons_of_mem _ hp))
  have hbN := M5.blk (N, .cells C 62 (0, 0)) (List.mem_append_right _ (List.mem_cons_self ..))
  obtain ⟨na, nc, rfl⟩ := HRn.out.form
  have HOv2 : Hid (∀ s W, Below W5.heap.size W5 W → Calls Tryd.prog 20 #[qP g, .int .i64 s] W fun e w' => e = .returned (.int .i64 (upI Q.ov sub 0 s)) ∧ w' = W) := fun s W h => (M5.below h).over s
  have HB5 : Hid (Below w.heap.size w W5) := M5.to
  clear M4 M5 hrow5 HRow HPk HGs
  go_upto_block 4 with fail
  generalize Q.l = ql at *
  go_cut [14, 15] (fun a b wx => a = .int .i64 ((stay sub ql).length : Int) ∧ b = b ∧ Below W5.heap.size W5 wx)
  case first =>
    as_aux_lemma =>
    go_wp2_with fail
    go_loopw [14, 15] (fun a b wr => ∃ i : Nat, i ≤ ql.length ∧ a = .int .i64 ((stay sub (ql.take i)).length : Int) ∧ b = .int .i64 (i : Int) ∧ Below W5.heap.size W5 wr) (fun _ b _ => ql.length - (intOf b).toNat)
    case atStart => exact ⟨0, by omega, rfl, rfl, Below.refl _ _⟩
    case round =>
      obtain ⟨i, hi, rfl, rfl, hB⟩ := hrel
      have HB : Hid (∀ n, Below W5.heap.size W5 (wr.drewN n)) := fun n => ⟨hB.os, hB.tape, hB.output, hB.size, hB.block⟩
      have HB0 : Hid (Below W5.heap.size W5 wr) := hB
      clear hB
      by_cases hlt : i < ql.length
      · have di : decide ((i : Int) < ql.length) = true := by simp; omega
        obtain ⟨b, off, rfl, hb, -, hcap, hc⟩ := g_at (HRw.out.below HB0.out) (by omega)
        obtain ⟨y0, y1, y2, y3, y4, y5, y6⟩ := hc i hlt
        have i1 : (0 : Int) ≤ (i : Int) := by omega
        have i2 : (i : Int) < (ql.length : Int) := by omega
        have wi : IntKind.i64.wrap ((i : Int) + 1) = (i : Int) + 1 := wrapI (by omega) (by omega)
        have hsi := stay_len sub (ql.take i)
        rw [List.length_take] at hsi
        cases hs : isS sub ql[i] with
        | true =>
          have e1 : (stay sub (ql.take (i + 1))).length = (stay sub (ql.take i)).length := by rw [stay_take_succ hlt, hs]; simp
          have e2 : (ql[i].s == sub) = true := hs
          have HE : Hid ((stay sub (ql.take (i + 1))).length = (stay sub (ql.take i)).length) := e1
          clear e1 hc hs
          generalize ql[i]'hlt = x at *
          generalize (stay sub (ql.take i)).length = kk at *
          go_wp2
          go_roundw
          case rel => exact ⟨i + 1, by omega, by rw [HE.out], by simp, HB0.out⟩
          case measure => simp [intOf]; omega
        | false =>
          have e1 : (stay sub (ql.take (i + 1))).length = (stay sub (ql.take i)).length + 1 := by rw [stay_take_succ hlt, hs]; simp
          have e2 : (ql[i].s == sub) = false := hs
          have HE : Hid ((stay sub (ql.take (i + 1))).length = (stay sub (ql.take i)).length + 1) := e1
          obtain ⟨hk, hx⟩ := stay_get hlt hs
          obtain ⟨b2, off2, rfl, hb2, -, hcap2, hc2⟩ := g_at (HRn.out.below HB0.out) (by omega)
          obtain ⟨z0, z1, z2, z3, z4, z5, z6⟩ := hc2 _ hk
          rw [hx] at z0 z1 z2 z3 z4 z5 z6
          clear e1 hc hs hc2 hx
          generalize ql[i]'hlt = x at *
          generalize (stay sub (ql.take i)).length = kk at *
          have k1 : (0 : Int) ≤ (kk : Int) := by omega
          have k2 : (kk : Int) < ((stay sub ql).length : Int) := by omega
          have k3 : decide (((stay sub ql).length : Int) ≤ (kk : Int)) = false := by simp; omega
          have k4 : decide ((stay sub ql).length ≤ kk) = false := by simp; omega
          have wk : IntKind.i64.wrap ((kk : Int) + 1) = (kk : Int) + 1 := wrapI (by omega) (by omega)
          generalize (stay sub ql).length = ln at *
          obtain ⟨xs, xo, xn, xl, xq, xt, xa, xk, xc⟩ := x
          dsimp only at *
          go_wp2_with fail
          go_quiet (fail)
          go_wp2
          go_roundw
          case rel => exact ⟨i + 1, by omega, by rw [HE.out]; simp, by simp, HB.out _⟩
          case measure => simp [intOf]; omega
      · obtain rfl : i = ql.length := by omega
        have di : decide ((ql.length : Int) < ql.length) = false := by simp
        have HE : Hid ((stay sub (ql.take ql.length)).length = (stay sub ql).length) := by show _ = _; rw [List.take_of_length_le (Nat.le_refl _)]
        generalize (stay sub (ql.take ql.length)).length = kk at *
        go_wp2
        go_meet
        exact ⟨by rw [HE.out], trivial, HB0.out⟩
  case rest =>
  obtain ⟨rfl, -, hB6⟩ := hcut
  have HB6 : Hid (Below W5.heap.size W5 wc) := hB6
  have hN5 : N < W5.heap.size := (Array.getElem?_eq_some_iff.1 hbN).1
  have HbN : Hid (∀ W, Below W5.heap.size W5 W → W.heap[N]? = some (.cells C 62 (0, 0))) := fun W h => (h.block N hN5).trans hbN
  clear hB6 HRn HRw hbN
  go_upto_block 6 with fail
  go_cut [16] (fun a wx => a = a ∧ Below W5.heap.size W5 wx)
  case first =>
    as_aux_lemma =>
    go_wp2_with fail
    go_loopw [16] (fun a wr => ∃ s : Nat, 1 ≤ s ∧ s ≤ 5 ∧ a = .int .i64 (s : Int) ∧ Below W5.heap.size W5 wr) (fun a _ => 5 - (intOf a).toNat)
    case atStart => exact ⟨1, by omega, by omega, rfl, HB6.out⟩
    case round =>
      obtain ⟨s, hs1, hs5, rfl, hB⟩ := hrel
      have HB : Hid (∀ n, Below W5.heap.size W5 (wr.drewN n)) := fun n => ⟨hB.os, hB.tape, hB.output, hB.size, hB.block⟩
      by_cases h4 : s ≤ 4
      · have d4 : decide ((s : Int) ≤ 4) = true := by simp; omega
        have i1 : (0 : Int) ≤ (s : Int) := by omega
        have i2 : (s : Int) < 5 := by omega
        have wk : IntKind.i64.wrap ((s : Int) + 1) = (s : Int) + 1 := wrapI (by omega) (by omega)
        have c0 : wr.cell? ⟨N, s, none⟩ = some (.int .i64 (Q.ov (s : Int))) := by rw [cell_of_row wr N s C _ (0, 0) (HbN.out wr hB)]; exact HC.out s hs1 h4
        have HO : Hid (∀ W, Below wr.heap.size wr W → Calls Tryd.prog 20 #[qP g, .int .i64 (s : Int)] W fun e w' => e = .returned (.int .i64 (upI Q.ov sub 0 (s : Int))) ∧ w' = W) := fun W h => HOv2.out _ W (hB.trans (h.mono hB.size))
        by_cases he : (s : Int) = sub
        · have e1 : ((s : Int) != sub) = false := by simp [he]
          clear he HO hB
          go_wp2_with fail
          go_quiet (fail)
          go_wp2
          go_roundw
          case rel => exact ⟨s + 1, by omega, by omega, by simp, HB.out _⟩
          case measure => simp [intOf]; omega
        · have e1 : ((s : Int) != sub) = true := by simp [he]
          have e2 : upI Q.ov sub 0 (s : Int) = Q.ov (s : Int) := by unfold upI; rw [if_neg he]
          rw [e2] at HO
          clear he hB e2
          generalize Q.ov (s : Int) = os at *
          go_wp2_with fail
          go_quiet ((go_at_call 20; exact Calls.quiet_of_same (HO.out _ ⟨rfl, rfl, rfl, Nat.le_refl _, fun _ _ => rfl⟩)))
          go_wp2
          go_roundw
          case rel => exact ⟨s + 1, by omega, by omega, by simp, HB.out _⟩
          case measure => simp [intOf]; omega
      · have d4 : decide ((s : Int) ≤ 4) = false := by simp; omega
        go_wp2
        go_meet
        exact ⟨trivial, HB.out 0⟩
  case rest =>
  obtain ⟨-, hB7⟩ := hcut
  have HO : Hid (Calls Tryd.prog 20 #[qP g, .int .i64 sub] wc fun e w' => e = .returned (.int .i64 0) ∧ w' = wc) := by
    have h := HOv2.out sub wc hB7
    have e0 : upI Q.ov sub 0 sub = 0 := by unfold upI; rw [if_pos rfl]
    rw [e0] at h
    exact h
  have HF : Hid (Below w.heap.size w wc) := HB5.out.trans (hB7.mono HB5.out.size)
  have wz : IntKind.i64.wrap ((ql.length : Int) - ((stay sub ql).length : Int)) = ((ql.length - (stay sub ql).length : Nat) : Int) := by rw [wrapI (by omega) (by omega)]; omega
  clear hB7 HOv2 HB5
  generalize (stay sub ql).length = ln at *
  go_wp2_with fail
  refine HO.out.mono ?_
  rintro e w8 ⟨rfl, h8⟩
  obtain rfl := h8.symm
  clear HO
  go_wp2
  go_ret
  exact ⟨rfl, HF.out⟩
end Go.Proofs.YtnldibcfpbignaaDoor
