/- Whether what each end handed on is a beginning of what the other one sent: right, walked. -/
import Derived.Test.YtiejehaaglpkoaaLpB
import Derived.RegionTactic
import Derived.ChangeAlike
import Derived.Deep.QuietTactic
import Derived.BigQuiet
import Derived.Deep.RegionHeld3
namespace Go.Proofs.Ytiejehaaglpkoaa
open Go.RowKit Go.ChangeMaps

theorem strs_atL {w : World} {a : Option Addr} {cap : Nat} {l : List ByteArray} (h : IsRow w 1 (.slice a l.length cap) l.length (l.map .string)) (i : Nat) (hi : i < l.length) :
    ∃ b off, a = some ⟨b, off, none⟩ ∧ b < w.heap.size ∧ w.cell? ⟨b, off + i, none⟩ = some (.string (l[i]'hi)) := by
  obtain ⟨b, off, cap', hv, hlt, _, _, hc⟩ := h.open (by omega)
  simp only [Value.slice.injEq] at hv
  exact ⟨b, off, hv.1, hlt, hc i _ (by simp [hi])⟩
set_option maxRecDepth 100000 in
set_option maxHeartbeats 1000000 in
theorem sameTextsL_eq (v1 v2 : Value) (l : List ByteArray) (w : World) (h1 : IsRow w 1 v1 l.length (l.map .string)) (h2 : IsRow w 1 v2 l.length (l.map .string)) (hl : l.length ≤ 140737488355328) :
    Calls Try.prog 19 #[v1, v2] w fun e w' => e = .returned (.bool true) ∧ Below w.heap.size w w' := by
  obtain ⟨a1, cap1, rfl⟩ := h1.form
  obtain ⟨a2, cap2, rfl⟩ := h2.form
  go_enter Try.func19, Try.ntmps19
  go_wp2
  go_loopw [5] (fun i wr => ∃ k : Nat, k ≤ l.length ∧ i = .int .i64 k ∧ Below w.heap.size w wr) (fun i _ => l.length - (intOf i).toNat)
  case atStart => exact ⟨0, Nat.zero_le _, rfl, Below.refl _ _⟩
  case round =>
    obtain ⟨k, hk, rfl, hb⟩ := hrel
    by_cases hlt : k < l.length
    · obtain ⟨b, off, rfl, hbl, c0⟩ := strs_atL (h1.below hb) k hlt
      obtain ⟨b', off', rfl, hbl', c0'⟩ := strs_atL (h2.below hb) k hlt
      have hi : (k : Int) < l.length := by omega
      go_wp2
      go_region
      all_goals go_wp2
      all_goals go_roundw
      case rel => exact ⟨k + 1, by omega, by go_num, hb.drew⟩
      case measure => simp [intOf]; omega
    · have hk' : k = l.length := by omega
      subst hk'
      go_wp2
      go_ret
      exact ⟨rfl, hb⟩
theorem IsRow.front {w : World} {a : Option Addr} {cap : Nat} {l g : List ByteArray} (h : IsRow w 1 (.slice a l.length cap) l.length (l.map .string)) (hg : g <+: l) : IsRow w 1 (.slice a g.length cap) g.length (g.map .string) := by
  obtain ⟨r, rfl⟩ := hg
  refine ⟨by simp, ?_⟩
  rcases h.2 with ⟨h0, -⟩ | ⟨b, off, cap', hv, hlt, h1, h2, hc⟩
  · have : g.length = 0 := by simp at h0; exact List.length_eq_zero_iff.2 h0.1
    exact .inl ⟨this, a, cap, by rw [this]⟩
  · obtain ⟨e1, -, e3⟩ := Value.slice.inj hv
    subst e1 e3
    refine .inr ⟨b, off, cap, rfl, hlt, by simp at h1; omega, h2, fun j u hu => hc j u ?_⟩
    rw [List.map_append, List.getElem?_append_left (List.getElem?_eq_some_iff.1 hu).1]
    exact hu
/-- The pair, with the row of what end i handed on. -/
abbrev CR (w0 : World) (P : Nat) (a : Ad) (s : Pr) (ext : List (Tg w0.heap.size)) (R : Nat → List Pk) (o : Nat) (v : Value) (w' : World) : Prop := w'.cell? ⟨P, o, none⟩ = some v ∧ Hid (PSn w0 P a s ext R w')
theorem CR.drew {w0 : World} {P : Nat} {a : Ad} {s : Pr} {ext : List (Tg w0.heap.size)} {R : Nat → List Pk} {o : Nat} {v : Value} {W : World} (h : CR w0 P a s ext R o v W) : CR w0 P a s ext R o v W.drew := ⟨h.1, PSn.below h.2.out ((Below.refl _ _).drew)⟩
theorem CR.call {w0 : World} {P : Nat} {a : Ad} {s : Pr} {ext : List (Tg w0.heap.size)} {R : Nat → List Pk} {o : Nat} {v : Value} {W w' : World} (hb : Below W.heap.size W w') (h : CR w0 P a s ext R o v W) : CR w0 P a s ext R o v w' :=
  ⟨(hb.cell (p := ⟨P, o, none⟩) (PSn.cells h.2.out).2.2.2.2).trans h.1, PSn.below h.2.out hb⟩
set_option maxRecDepth 100000 in
set_option maxHeartbeats 4000000 in
theorem right_any {w0 w : World} {P : Nat} {a : Ad} {s : Pr} {ext : List (Tg w0.heap.size)} {R : Nat → List Pk} (h : PSn w0 P a s ext R w) (hok : ∀ i, i < 2 → LkOk (s.L i)) (hel : ∀ i, i < 2 → (s.L i).e.length ≤ 7) (hpre : ∀ i, i < 2 → s.G i <+: s.S (1 - i)) (hS : ∀ i, i < 2 → (s.S i).length ≤ 100000) :
    Calls Try.prog 28 #[.pointer (some ⟨P, 0, none⟩)] w fun e w' => e = .returned (.bool true) ∧ PSn w0 P a s ext R w' := by
  have H0 : Hid (PSn w0 P a s ext R w) := h
  have HCl : Hid (∀ W, PSn w0 P a s ext R W → _) := fun W h => PSn.cells h
  have HEa : Hid (∀ i, i < 2 → ∀ W, PSn w0 P a s ext R W → Calls Try.prog 25 #[lP (a.gl i)] W fun e w' => e = .returned (.int .i64 ((s.L i).e.length : Int)) ∧ w' = W) := fun i hi W h => early_any (PSn.lnk h hi)
  have HLe : Hid (∀ i, i < 2 → ∀ W, PSn w0 P a s ext R W → Calls Try.prog 22 #[lP (a.gl i)] W fun e w' => e = .returned (.int .i64 ((s.L i).q.length : Int)) ∧ w' = W) := fun i hi W h => left_any (PSn.lnk h hi)
  have HTi : Hid (∀ i, i < 2 → ∀ W, PSn w0 P a s ext R W → Calls Try.prog 20 #[lP (a.gl i)] W fun e w' => ∃ ra rc, e = .returned (.slice ra (s.L i).o rc) ∧ PSn w0 P a s ext R w') := fun i hi W h => (PSn.tickL h hi (hok i hi)).mono fun e w' hp => by
    obtain ⟨r, he, hT⟩ := hp
    obtain ⟨ra, rc, hr⟩ := (show OwnW w' _ r (pks (s.L i) 0 (s.L i).o) from hT.ext (t := pkT _ r (pks (s.L i) 0 (s.L i).o)) (by simp)).form
    rw [pks_len] at hr
    exact ⟨ra, rc, by rw [he, hr], hT.tl⟩
  have HSm : Hid (∀ i, i < 2 → ∀ W ga gc sa sc, a.vg i = .slice ga (s.G i).length gc → a.vs (1 - i) = .slice sa (s.S (1 - i)).length sc → PSn w0 P a s ext R W → Calls Try.prog 19 #[.slice ga (s.G i).length gc, .slice sa (s.G i).length sc] W fun e w' => e = .returned (.bool true) ∧ Below W.heap.size W w') := fun i hi W ga gc sa sc e1 e2 h => by
    have r1 := IsRow.own (PSn.rows h hi).2
    have r2 := IsRow.own (PSn.rows h (i := 1 - i) (by omega)).1
    rw [e1] at r1
    rw [e2] at r2
    refine sameTextsL_eq _ _ (s.G i) W r1 (r2.front (hpre i hi)) ?_
    have := (hpre i hi).length_le
    have := hS (1 - i) (by omega)
    omega
  have HFm : Hid (∀ i, i < 2 → ∃ ga gc sa sc, a.vg i = .slice ga (s.G i).length gc ∧ (a.vs (1 - i) = .slice sa (s.S (1 - i)).length sc ∧ (s.S (1 - i)).length ≤ sc ∧ sc ≤ maxLen ∧ (sa = none → sc = 0 ∧ (s.S (1 - i)).length = 0) ∧ ∀ d, sa = some d → d = ⟨d.block, 0, none⟩)) := fun i hi => by
    have o1 := (PSn.rows h hi).2
    have o2 := (PSn.rows h (i := 1 - i) (by omega)).1
    obtain ⟨ga, gc, e1⟩ := (IsRow.own o1).form
    rcases o2.2 with ⟨e2, e3⟩ | ⟨g, cap, cur, e2, -, -, e4, e5, -, -⟩
    · exact ⟨ga, gc, none, 0, e1, by rw [e2, e3], by omega, by unfold maxLen; omega, fun _ => ⟨rfl, e3⟩, (fun d hd => by cases hd)⟩
    · exact ⟨ga, gc, _, cap, e1, e2, e4, e5, (fun hn => by cases hn), (fun d hd => by cases hd; rfl)⟩
  have HLn : Hid (∀ i, i < 2 → (s.G i).length ≤ (s.S (1 - i)).length ∧ (s.S (1 - i)).length ≤ 100000 ∧ (s.L i).e.length ≤ 7 ∧ (s.L i).q.length ≤ 64 ∧ (s.L i).o ≤ 8) := fun i hi => ⟨(hpre i hi).length_le, hS (1 - i) (by omega), hel i hi, (hok i hi).q64, (hok i hi).o8⟩
  clear h hok hel hpre hS
  go_enter Try.func28, Try.ntmps28
  go_wp2_with fail
  go_loopw [2, 3, 4] (fun r i v wr => r = .bool false ∧ v = v ∧ ∃ k : Nat, k ≤ 2 ∧ i = .int .i64 (k : Int) ∧ Hid (PSn w0 P a s ext R wr)) (fun _ i _ _ => 2 - (intOf i).toNat)
  case atStart => exact ⟨rfl, rfl, 0, Nat.zero_le _, rfl, H0⟩
  case round =>
    clear H0
    obtain ⟨rfl, -, k, hk, hi, HP⟩ := hrel
    match k, hk, hi with
    | 0, _, hi =>
      have hi : _ = Value.int .i64 (0 : Int) := hi
      subst hi
      as_aux_lemma =>
      obtain ⟨ga, gc, sa, sc, e1, e2, b1, b2, b3, b4⟩ := HFm.out 0 (by omega)
      obtain ⟨-, -, pc, fz, hPs⟩ := HCl.out _ HP.out
      obtain ⟨p0, -, p2⟩ := pc 0 (by omega)
      obtain ⟨-, p1, -⟩ := pc 1 (by omega)
      obtain ⟨n1, n2, n3, n4, n5⟩ := HLn.out 0 (by omega)
      have HE := HEa.out 0 (by omega)
      have HL := HLe.out 0 (by omega)
      have HT := HTi.out 0 (by omega)
      have HM := fun W => HSm.out 0 (by omega) W ga gc sa sc e1 e2
      change a.vs 1 = _ at e2
      rw [e1] at p2
      rw [e2] at p1
      change wr.cell? ⟨P, 4, none⟩ = _ at p1
      change wr.cell? ⟨P, 5, none⟩ = _ at p2
      dsimp only [Nat.sub_zero, Nat.sub_self, Nat.reduceSub] at n1 n2 b1 b3 p1 HM
      generalize (s.G 0).length = ng at *
      generalize (s.S 1).length = ns at *
      generalize (s.L 0).e.length = ne at *
      generalize (s.L 0).q.length = nq at *
      generalize (s.L 0).o = no at *
      generalize hgl : a.gl 0 = gli at *
      have HE : Hid (∀ W, PSn w0 P a s ext R W → Calls Try.prog 25 #[lP gli] W fun e w' => e = .returned (.int .i64 (ne : Int)) ∧ w' = W) := HE
      have HL : Hid (∀ W, PSn w0 P a s ext R W → Calls Try.prog 22 #[lP gli] W fun e w' => e = .returned (.int .i64 (nq : Int)) ∧ w' = W) := HL
      have HT : Hid (∀ W, PSn w0 P a s ext R W → Calls Try.prog 20 #[lP gli] W fun e w' => ∃ ra rc, e = .returned (.slice ra no rc) ∧ PSn w0 P a s ext R w') := HT
      have HM : Hid (∀ W, PSn w0 P a s ext R W → Calls Try.prog 19 #[.slice ga ng gc, .slice sa ng sc] W fun e w' => e = .returned (.bool true) ∧ Below W.heap.size W w') := HM
      clear HEa HLe HTi HSm HFm HLn pc e1 e2
      have d1 : decide ((ns : Int) < (ng : Int)) = false := by simp; omega
      have d1' : decide (ns < ng) = false := by simp; omega
      have d2 : decide ((8 : Int) ≤ (ne : Int)) = false := by simp; omega
      have d3 : decide ((64 : Int) < (nq : Int)) = false := by simp; omega
      have d4 : decide ((8 : Int) < (no : Int)) = false := by simp; omega
      have c1 : (0 : Int) ≤ (ng : Int) := by omega
      have c2 : (ng : Int) ≤ (sc : Int) := by omega
      have c3 : ng ≤ sc := by omega
      cases sa with
      | none =>
        obtain ⟨rfl, rfl⟩ := b3 rfl
        obtain rfl : ng = 0 := by omega
        clear b3 b4
        have hCR : CR w0 P a s ext R 5 (.slice ga 0 gc) wr := ⟨p2, HP⟩
        go_wp2_with fail
        refine wp_region_quiet (C := CR w0 P a s ext R 5 (.slice ga 0 gc)) (by kernel_rfl) (by kernel_rfl) hCR.drew ?_
        dsimp only
        repeat (first
          | go_big_quiet_skip
          | (go_big_quiet_want
             apply Exists.intro
             refine ⟨fun W' hW' => ?_, ?_⟩
             · have hW2 : CR w0 P a s ext R 5 (.slice ga 0 gc) W' := hW'
               obtain ⟨g0, g1⟩ := hW2
               go_simp
               first
                 | done
                 | rfl
                 | (go_at_call 19; refine (HM.out W' g1.out).mono ?_; rintro e w'' ⟨rfl, hb⟩; exact ⟨rfl, CR.call hb hW'⟩)
             go_big_quiet_on
             try simp only [Act.put, List.setIfInBounds_toArray, List.set_cons_zero, List.set_cons_succ]))
        refine wpQuiet_nil ?_
        intro w5 hC5
        obtain ⟨q2, HP5⟩ : CR w0 P a s ext R 5 (.slice ga 0 gc) w5 := hC5
        have z0 := ((HCl.out _ HP5.out).2.2.1 0 (by omega)).1
        rw [hgl] at z0
        clear p0 p1 p2 HM hCR HP fz hPs
        go_wp2_with fail
        refine (HE.out _ HP5.out).mono ?_
        rintro e w6 ⟨rfl, rfl⟩
        go_wp2_with fail
        refine (HL.out _ HP5.out).mono ?_
        rintro e w7 ⟨rfl, rfl⟩
        go_wp2_with fail
        refine (HT.out _ HP5.out).mono ?_
        rintro e w8 ⟨ra, rc, rfl, T8⟩
        have HP8 : Hid (PSn w0 P a s ext R w8) := T8
        clear T8 HP5 q2 z0 HE HL HT
        go_wp2
        go_roundw
        case rel => exact ⟨rfl, trivial, 1, by omega, by simp, HP8⟩
        case measure => simp [intOf]
      | some d =>
        have hd := b4 d rfl
        clear b3 b4
        generalize d.block = db at hd
        subst hd
        have hCR : CR w0 P a s ext R 5 (.slice ga ng gc) wr := ⟨p2, HP⟩
        go_wp2_with fail
        refine wp_region_quiet (C := CR w0 P a s ext R 5 (.slice ga ng gc)) (by kernel_rfl) (by kernel_rfl) hCR.drew ?_
        dsimp only
        repeat (first
          | go_big_quiet_skip
          | (go_big_quiet_want
             apply Exists.intro
             refine ⟨fun W' hW' => ?_, ?_⟩
             · have hW2 : CR w0 P a s ext R 5 (.slice ga ng gc) W' := hW'
               obtain ⟨g0, g1⟩ := hW2
               go_simp
               first
                 | done
                 | rfl
                 | (go_at_call 19; refine (HM.out W' g1.out).mono ?_; rintro e w'' ⟨rfl, hb⟩; exact ⟨rfl, CR.call hb hW'⟩)
             go_big_quiet_on
             try simp only [Act.put, List.setIfInBounds_toArray, List.set_cons_zero, List.set_cons_succ]))
        refine wpQuiet_nil ?_
        intro w5 hC5
        obtain ⟨q2, HP5⟩ : CR w0 P a s ext R 5 (.slice ga ng gc) w5 := hC5
        have z0 := ((HCl.out _ HP5.out).2.2.1 0 (by omega)).1
        rw [hgl] at z0
        clear p0 p1 p2 HM hCR HP fz hPs
        go_wp2_with fail
        refine (HE.out _ HP5.out).mono ?_
        rintro e w6 ⟨rfl, rfl⟩
        go_wp2_with fail
        refine (HL.out _ HP5.out).mono ?_
        rintro e w7 ⟨rfl, rfl⟩
        go_wp2_with fail
        refine (HT.out _ HP5.out).mono ?_
        rintro e w8 ⟨ra, rc, rfl, T8⟩
        have HP8 : Hid (PSn w0 P a s ext R w8) := T8
        clear T8 HP5 q2 z0 HE HL HT
        go_wp2
        go_roundw
        case rel => exact ⟨rfl, trivial, 1, by omega, by simp, HP8⟩
        case measure => simp [intOf]
    | 1, _, hi =>
      have hi : _ = Value.int .i64 (1 : Int) := hi
      subst hi
      as_aux_lemma =>
      obtain ⟨ga, gc, sa, sc, e1, e2, b1, b2, b3, b4⟩ := HFm.out 1 (by omega)
      obtain ⟨-, -, pc, fz, hPs⟩ := HCl.out _ HP.out
      obtain ⟨p0, -, p2⟩ := pc 1 (by omega)
      obtain ⟨-, p1, -⟩ := pc 0 (by omega)
      obtain ⟨n1, n2, n3, n4, n5⟩ := HLn.out 1 (by omega)
      have HE := HEa.out 1 (by omega)
      have HL := HLe.out 1 (by omega)
      have HT := HTi.out 1 (by omega)
      have HM := fun W => HSm.out 1 (by omega) W ga gc sa sc e1 e2
      change a.vs 0 = _ at e2
      rw [e1] at p2
      rw [e2] at p1
      change wr.cell? ⟨P, 3, none⟩ = _ at p1
      change wr.cell? ⟨P, 6, none⟩ = _ at p2
      dsimp only [Nat.sub_zero, Nat.sub_self, Nat.reduceSub] at n1 n2 b1 b3 p1 HM
      generalize (s.G 1).length = ng at *
      generalize (s.S 0).length = ns at *
      generalize (s.L 1).e.length = ne at *
      generalize (s.L 1).q.length = nq at *
      generalize (s.L 1).o = no at *
      generalize hgl : a.gl 1 = gli at *
      have HE : Hid (∀ W, PSn w0 P a s ext R W → Calls Try.prog 25 #[lP gli] W fun e w' => e = .returned (.int .i64 (ne : Int)) ∧ w' = W) := HE
      have HL : Hid (∀ W, PSn w0 P a s ext R W → Calls Try.prog 22 #[lP gli] W fun e w' => e = .returned (.int .i64 (nq : Int)) ∧ w' = W) := HL
      have HT : Hid (∀ W, PSn w0 P a s ext R W → Calls Try.prog 20 #[lP gli] W fun e w' => ∃ ra rc, e = .returned (.slice ra no rc) ∧ PSn w0 P a s ext R w') := HT
      have HM : Hid (∀ W, PSn w0 P a s ext R W → Calls Try.prog 19 #[.slice ga ng gc, .slice sa ng sc] W fun e w' => e = .returned (.bool true) ∧ Below W.heap.size W w') := HM
      clear HEa HLe HTi HSm HFm HLn pc e1 e2
      have d1 : decide ((ns : Int) < (ng : Int)) = false := by simp; omega
      have d1' : decide (ns < ng) = false := by simp; omega
      have d2 : decide ((8 : Int) ≤ (ne : Int)) = false := by simp; omega
      have d3 : decide ((64 : Int) < (nq : Int)) = false := by simp; omega
      have d4 : decide ((8 : Int) < (no : Int)) = false := by simp; omega
      have c1 : (0 : Int) ≤ (ng : Int) := by omega
      have c2 : (ng : Int) ≤ (sc : Int) := by omega
      have c3 : ng ≤ sc := by omega
      cases sa with
      | none =>
        obtain ⟨rfl, rfl⟩ := b3 rfl
        obtain rfl : ng = 0 := by omega
        clear b3 b4
        have hCR : CR w0 P a s ext R 6 (.slice ga 0 gc) wr := ⟨p2, HP⟩
        go_wp2_with fail
        refine wp_region_quiet (C := CR w0 P a s ext R 6 (.slice ga 0 gc)) (by kernel_rfl) (by kernel_rfl) hCR.drew ?_
        dsimp only
        repeat (first
          | go_big_quiet_skip
          | (go_big_quiet_want
             apply Exists.intro
             refine ⟨fun W' hW' => ?_, ?_⟩
             · have hW2 : CR w0 P a s ext R 6 (.slice ga 0 gc) W' := hW'
               obtain ⟨g0, g1⟩ := hW2
               go_simp
               first
                 | done
                 | rfl
                 | (go_at_call 19; refine (HM.out W' g1.out).mono ?_; rintro e w'' ⟨rfl, hb⟩; exact ⟨rfl, CR.call hb hW'⟩)
             go_big_quiet_on
             try simp only [Act.put, List.setIfInBounds_toArray, List.set_cons_zero, List.set_cons_succ]))
        refine wpQuiet_nil ?_
        intro w5 hC5
        obtain ⟨q2, HP5⟩ : CR w0 P a s ext R 6 (.slice ga 0 gc) w5 := hC5
        have z0 := ((HCl.out _ HP5.out).2.2.1 1 (by omega)).1
        rw [hgl] at z0
        clear p0 p1 p2 HM hCR HP fz hPs
        go_wp2_with fail
        refine (HE.out _ HP5.out).mono ?_
        rintro e w6 ⟨rfl, rfl⟩
        go_wp2_with fail
        refine (HL.out _ HP5.out).mono ?_
        rintro e w7 ⟨rfl, rfl⟩
        go_wp2_with fail
        refine (HT.out _ HP5.out).mono ?_
        rintro e w8 ⟨ra, rc, rfl, T8⟩
        have HP8 : Hid (PSn w0 P a s ext R w8) := T8
        clear T8 HP5 q2 z0 HE HL HT
        go_wp2
        go_roundw
        case rel => exact ⟨rfl, trivial, 2, by omega, by simp, HP8⟩
        case measure => simp [intOf]
      | some d =>
        have hd := b4 d rfl
        clear b3 b4
        generalize d.block = db at hd
        subst hd
        have hCR : CR w0 P a s ext R 6 (.slice ga ng gc) wr := ⟨p2, HP⟩
        go_wp2_with fail
        refine wp_region_quiet (C := CR w0 P a s ext R 6 (.slice ga ng gc)) (by kernel_rfl) (by kernel_rfl) hCR.drew ?_
        dsimp only
        repeat (first
          | go_big_quiet_skip
          | (go_big_quiet_want
             apply Exists.intro
             refine ⟨fun W' hW' => ?_, ?_⟩
             · have hW2 : CR w0 P a s ext R 6 (.slice ga ng gc) W' := hW'
               obtain ⟨g0, g1⟩ := hW2
               go_simp
               first
                 | done
                 | rfl
                 | (go_at_call 19; refine (HM.out W' g1.out).mono ?_; rintro e w'' ⟨rfl, hb⟩; exact ⟨rfl, CR.call hb hW'⟩)
             go_big_quiet_on
             try simp only [Act.put, List.setIfInBounds_toArray, List.set_cons_zero, List.set_cons_succ]))
        refine wpQuiet_nil ?_
        intro w5 hC5
        obtain ⟨q2, HP5⟩ : CR w0 P a s ext R 6 (.slice ga ng gc) w5 := hC5
        have z0 := ((HCl.out _ HP5.out).2.2.1 1 (by omega)).1
        rw [hgl] at z0
        clear p0 p1 p2 HM hCR HP fz hPs
        go_wp2_with fail
        refine (HE.out _ HP5.out).mono ?_
        rintro e w6 ⟨rfl, rfl⟩
        go_wp2_with fail
        refine (HL.out _ HP5.out).mono ?_
        rintro e w7 ⟨rfl, rfl⟩
        go_wp2_with fail
        refine (HT.out _ HP5.out).mono ?_
        rintro e w8 ⟨ra, rc, rfl, T8⟩
        have HP8 : Hid (PSn w0 P a s ext R w8) := T8
        clear T8 HP5 q2 z0 HE HL HT
        go_wp2
        go_roundw
        case rel => exact ⟨rfl, trivial, 2, by omega, by simp, HP8⟩
        case measure => simp [intOf]
    | 2, _, hi =>
      have hi : _ = Value.int .i64 (2 : Int) := hi
      subst hi
      go_wp2
      go_ret
      exact ⟨rfl, HP.out⟩
end Go.Proofs.Ytiejehaaglpkoaa
