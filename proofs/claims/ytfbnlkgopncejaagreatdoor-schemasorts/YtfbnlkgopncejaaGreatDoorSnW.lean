/- The reference's Sort: its walk. -/
import Derived.Test.YtfbnlkgopncejaaGreatDoorSnV
namespace Go.Proofs.YtfbnlkgopncejaaGreatDoor
open Go.RowKit

/-- Two names where they lie. -/
def CD (b o b' o' : Nat) (x y : ByteArray) (w0 w : World) : Prop := (w.cell? ⟨b, o, none⟩ = some (.string x) ∧ w.cell? ⟨b', o', none⟩ = some (.string y)) ∧ b < w.heap.size ∧ b' < w.heap.size ∧ Below w0.heap.size w0 w
theorem CD_call {b o b' o' : Nat} {x y : ByteArray} {w0 W w' : World} (hb : Below W.heap.size W w') (h : CD b o b' o' x y w0 W) : CD b o b' o' x y w0 w' := by
  obtain ⟨⟨c0, c1⟩, l, l', B⟩ := h
  exact ⟨⟨(hb.cell (p := ⟨b, o, none⟩) l).trans c0, (hb.cell (p := ⟨b', o', none⟩) l').trans c1⟩, Nat.lt_of_lt_of_le l hb.size, Nat.lt_of_lt_of_le l' hb.size, B.trans (hb.mono B.size)⟩
theorem CD_drew {b o b' o' : Nat} {x y : ByteArray} {w0 W : World} (h : CD b o b' o' x y w0 W) : CD b o b' o' x y w0 W.drew := CD_call (Below.refl _ _).drew h
/-- What the reference's Sort answers. -/
def RsP (l : List Fd) (w : World) (e : Ending) (w' : World) : Prop := Below w.heap.size w w' ∧
  ((24 < l.length ∧ e = .returned (.tuple #[.slice none 0 0, .int .i64 2])) ∨
   (l.length ≤ 24 ∧ (∃ x ∈ l, mayF x = false) ∧ e = .returned (.tuple #[.slice none 0 0, .int .i64 1])) ∨
   (l.length ≤ 24 ∧ (∀ x ∈ l, mayF x = true) ∧ ((rsrt [] l = none ∧ e = .returned (.tuple #[.slice none 0 0, .int .i64 9])) ∨ (∃ R a c, rsrt [] l = some R ∧ e = .returned (.tuple #[.slice a R.length c, .int .i64 0]) ∧ IsRow w' 3 (.slice a R.length c) R.length (fCells R)))))
set_option maxRecDepth 100000 in
set_option maxHeartbeats 4000000 in
theorem refSort_any (v : Value) (l : List Fd) (w : World) (hr : IsRow w 3 v l.length (fCells l)) (hl : l.length ≤ 1000000) (hn : NmR l) :
    Calls Tryz.prog 7 #[v] w fun e w' => RsP l w e w' := by
  obtain ⟨a0, cap0, rfl⟩ := hr.form
  obtain ⟨i0, hi0, hz0, hz1, hz2⟩ := info_parts info_rf
  by_cases h24 : 24 < l.length
  · have d1 : decide ((24 : Int) < (l.length : Int)) = true := by simp; omega
    clear hr
    go_enter Tryz.func7, Tryz.ntmps7
    go_wp2
    go_ret2
    exact ⟨Below.refl _ _, .inl ⟨h24, rfl⟩⟩
  have h24' : l.length ≤ 24 := by omega
  have d1 : decide ((24 : Int) < (l.length : Int)) = false := by simp; omega
  have HR : Hid (∀ w', Below w.heap.size w w' → IsRow w' 3 (.slice a0 l.length cap0) l.length (fCells l)) := fun w' h => hr.below h
  have HMay : Hid (∀ (k : Nat) (hk : k < l.length) w', Calls Tryz.prog 21 #[fV l[k]] w' fun e w'' => e = .returned (.bool (mayF l[k])) ∧ Below w'.heap.size w' w'') := fun k hk w' => refMay_any _ w' (by have := hn _ (List.getElem_mem hk); omega)
  have HSm : Hid (∀ (x y : ByteArray) w', x.size ≤ 200000 → y.size ≤ 200000 → Calls Tryz.prog 22 #[.string x, .string y] w' fun e w'' => e = .returned (.bool (sameL x.data.toList y.data.toList)) ∧ Below w'.heap.size w' w'') := fun x y w' h1 h2 => refSameN_any x y w' (by omega) (by omega)
  have HCm : Hid (∀ (x y : ByteArray) w', x.size ≤ 200000 → y.size ≤ 200000 → Calls Tryz.prog 23 #[.string x, .string y] w' fun e w'' => e = .returned (.int .i64 (cmpL x.data.toList y.data.toList)) ∧ Below w'.heap.size w' w'') := fun x y w' h1 h2 => refCompare_any x y w' h1 h2
  have HN : Hid (NmR l) := hn
  clear hr hn
  go_enter Tryz.func7, Tryz.ntmps7
  go_wp2_with fail
  go_loopw [2, 3, 4] (fun r2 r3 i wr => r2 = .slice none 0 0 ∧ r3 = .int .i64 0 ∧ ∃ k : Nat, k ≤ l.length ∧ i = .int .i64 (k : Int) ∧ Hid (∀ (j : Nat) (h : j < l.length), j < k → mayF l[j] = true) ∧ Hid (Below w.heap.size w wr)) (fun _ _ i _ => l.length - (intOf i).toNat)
  case atStart => exact ⟨rfl, rfl, 0, Nat.zero_le _, rfl, (fun j h hj => absurd hj (Nat.not_lt_zero _)), Below.refl _ _⟩
  case round =>
    obtain ⟨rfl, rfl, k, hk, rfl, HM, HB⟩ := hrel
    have hsz := HB.out.size
    by_cases hlk : k < l.length
    · as_aux_lemma =>
      have dk : decide ((k : Int) < l.length) = true := by simp; omega
      obtain ⟨b, off, hvv, hlt, hc1, hcc⟩ := f_at (HR.out _ HB.out) (by omega)
      subst hvv
      obtain ⟨c0, c1, c2⟩ := hcc k hlk
      have HCk := HMay.out k hlk wr
      have HNx : Hid (mayF l[k] = true → ∀ (j : Nat) (h : j < l.length), j < k + 1 → mayF l[j] = true) := fun hs j h hj => by
        by_cases e : j = k
        · subst e; exact hs
        · exact HM.out j h (by omega)
      have HNo : Hid (mayF l[k] = false → ∃ x ∈ l, mayF x = false) := fun hs => ⟨_, List.getElem_mem hlk, hs⟩
      have q1 : (0 : Int) ≤ (k : Int) := by omega
      have q2 : (k : Int) < (l.length : Int) := by omega
      generalize l[k]'hlk = x at *
      obtain ⟨xn, xk, xm⟩ := x
      dsimp only at *
      clear hcc HM HR HMay HSm HCm
      cases hm : mayF ⟨xn, xk, xm⟩
      · have HX' : Hid (∃ x ∈ l, mayF x = false) := HNo.out hm
        rw [hm] at HCk
        clear hm HNx HNo
        go_wp2_with fail
        refine HCk.mono ?_
        rintro e w2 ⟨rfl, hb2⟩
        have HB2 : Hid (Below w.heap.size w w2) := HB.out.trans (hb2.mono hsz)
        clear hb2 HCk c0 c1 c2
        go_wp2
        go_ret2
        exact ⟨HB2.out, .inr (.inl ⟨h24', HX'.out, rfl⟩)⟩
      · have HM2 : Hid (∀ (j : Nat) (h : j < l.length), j < k + 1 → mayF l[j] = true) := HNx.out hm
        rw [hm] at HCk
        clear hm HNx HNo
        go_wp2_with fail
        refine HCk.mono ?_
        rintro e w2 ⟨rfl, hb2⟩
        have HB2 : Hid (Below w.heap.size w w2) := HB.out.trans (hb2.mono hsz)
        clear hb2 HCk c0 c1 c2
        go_wp2
        go_roundw
        case rel => exact ⟨rfl, rfl, k + 1, by omega, by simp, HM2, HB2⟩
        case measure => simp [intOf]; omega
    · have dk : decide ((k : Int) < l.length) = false := by simp; omega
      have HAll : Hid (∀ x ∈ l, mayF x = true) := fun x hx => by
        obtain ⟨i, hi, rfl⟩ := List.mem_iff_getElem.1 hx
        exact HM.out i hi (by omega)
      clear HM HMay
      obtain ⟨wa, hwa⟩ : ∃ wa, wa = wr := ⟨_, rfl⟩
      subst hwa
      go_wp2_with fail
      go_loopw [2, 3, 5, 6] (fun r2 r3 o i wr => r2 = .slice none 0 0 ∧ r3 = .int .i64 0 ∧ ∃ (k : Nat) (O : List Fd) (oa : Option Addr) (oc : Nat), k ≤ l.length ∧ i = .int .i64 (k : Int) ∧ o = .slice oa k oc ∧ O.length = k ∧ Hid (NmR O) ∧ Hid (rsrt [] l = rsrt O (l.drop k)) ∧ Hid (IsRow wr 3 (.slice oa k oc) O.length (fCells O)) ∧ Hid (Below w.heap.size w wr)) (fun _ _ _ i _ => l.length - (intOf i).toNat)
      case atStart => exact ⟨rfl, rfl, 0, [], none, 0, Nat.zero_le _, rfl, rfl, rfl, (fun y hy => by cases hy), rfl, IsRow.nil _ _, HB⟩
      case round =>
        clear HB hsz dk hlk hk
        obtain ⟨rfl, rfl, k, O, oa, oc, hk, rfl, rfl, hOk, HNO, HQ, HRo, HB⟩ := hrel
        have hsz := HB.out.size
        by_cases hlk : k < l.length
        · have dk : decide ((k : Int) < l.length) = true := by simp; omega
          obtain ⟨wb, hwb⟩ : ∃ wb, wb = wr := ⟨_, rfl⟩
          subst hwb
          have HDr : Hid (l.drop k = l[k] :: l.drop (k + 1)) := List.drop_eq_getElem_cons hlk
          have HNx : l[k].n.size ≤ 200000 := HN.out _ (List.getElem_mem hlk)
          have HRl : Hid (∀ W, Below wb.heap.size wb W → ∃ b off, a0 = some ⟨b, off, none⟩ ∧ b < W.heap.size ∧ W.cell? ⟨b, off + k * 3, none⟩ = some (.string l[k].n) ∧ W.cell? ⟨b, off + k * 3 + 1, none⟩ = some (.int .i64 l[k].k) ∧ W.cell? ⟨b, off + k * 3 + 2, none⟩ = some (.bool l[k].m)) := fun W hW => by
            obtain ⟨b, off, hvv, hlt, -, hcc⟩ := f_at (HR.out _ (HB.out.trans (hW.mono hsz))) (by omega)
            obtain ⟨c0, c1, c2⟩ := hcc k hlk
            exact ⟨b, off, hvv, hlt, c0, c1, c2⟩
          have HRO : Hid (∀ W, Below wb.heap.size wb W → IsRow W 3 (.slice oa k oc) O.length (fCells O)) := fun W hW => HRo.out.below hW
          have q1 : (0 : Int) ≤ (k : Int) := by omega
          have q2 : (k : Int) < (l.length : Int) := by omega
          generalize l[k]'hlk = x at *
          obtain ⟨xn, xk, xm⟩ := x
          dsimp only at HNx HRl
          go_wp2_with fail
          go_loopw [2, 3, 7, 8, 9] (fun r2 r3 nx p i wr => r2 = .slice none 0 0 ∧ r3 = .int .i64 0 ∧ ∃ j : Nat, j ≤ k ∧ i = .int .i64 (j : Int) ∧ p = .bool (insS ⟨xn, xk, xm⟩ (O.take j)).2 ∧ Hid (∀ y ∈ O.take j, sameL y.n.data.toList xn.data.toList = false) ∧ Hid (wr.ownsRow wb.heap.size 51 3 nx (insS ⟨xn, xk, xm⟩ (O.take j)).1.length (fCells (insS ⟨xn, xk, xm⟩ (O.take j)).1)) ∧ Hid (Below wb.heap.size wb wr)) (fun _ _ _ _ i _ => k - (intOf i).toNat)
          case atStart => exact ⟨rfl, rfl, 0, Nat.zero_le _, rfl, rfl, (fun y hy => by simp at hy), World.ownsRow_nil _ _ _ _, Below.refl _ _⟩
          case round =>
            obtain ⟨rfl, rfl, j, hj, rfl, rfl, HNs, HO, HBi⟩ := hrel
            have hszi := HBi.out.size
            by_cases hjk : j < k
            · as_aux_lemma =>
              have dj : decide ((j : Int) < (k : Int)) = true := by simp; omega
              have dj' : decide (j < k) = true := by simp; omega
              have hjO : j < O.length := by omega
              obtain ⟨b, off, rfl, hlt, c0, c1, c2⟩ := HRl.out wb (Below.refl _ _)
              have hro := HRO.out wb (Below.refl _ _)
              rw [← hOk] at hro
              obtain ⟨b', off', rfl, hlt', hcap', hcc'⟩ := f_at hro (by omega)
              obtain ⟨e0, e1, e2⟩ := hcc' j hjO
              have hys : O[j].n.size ≤ 200000 := HNO.out _ (List.getElem_mem hjO)
              have HT := stp_take (x := ⟨xn, xk, xm⟩) hjO
              have HNt : Hid (sameL O[j].n.data.toList xn.data.toList = false → ∀ y ∈ O.take (j + 1), sameL y.n.data.toList xn.data.toList = false) := fun hs y hy => by
                rw [List.take_succ_eq_append_getElem hjO] at hy
                rcases List.mem_append.1 hy with hy | hy
                · exact HNs.out y hy
                · simp at hy; subst hy; exact hs
              have HYs : Hid (sameL O[j].n.data.toList xn.data.toList = true → rsrt [] l = none) := fun hs => by
                rw [HQ.out, HDr.out, rsrt, if_pos]
                exact List.any_eq_true.2 ⟨_, List.getElem_mem hjO, hs⟩
              have hln := insS_len ⟨xn, xk, xm⟩ (O.take j)
              have hlt2 : (O.take j).length ≤ 24 := by rw [List.length_take]; omega
              have q3 : (0 : Int) ≤ (j : Int) := by omega
              have q4 : (j : Int) < (k : Int) := by omega
              generalize hST : insS ⟨xn, xk, xm⟩ (O.take j) = ST at *
              generalize O[j]'hjO = y at *
              obtain ⟨yn, yk, ym⟩ := y
              obtain ⟨s1, s2⟩ := ST
              dsimp only at *
              have HX : Hid (∀ W, Below wb.heap.size wb W → (W.cell? ⟨b, off + k * 3, none⟩ = some (.string xn) ∧ W.cell? ⟨b, off + k * 3 + 1, none⟩ = some (.int .i64 xk) ∧ W.cell? ⟨b, off + k * 3 + 2, none⟩ = some (.bool xm)) ∧ W.cell? ⟨b', off' + j * 3, none⟩ = some (.string yn) ∧ W.cell? ⟨b', off' + j * 3 + 1, none⟩ = some (.int .i64 yk) ∧ W.cell? ⟨b', off' + j * 3 + 2, none⟩ = some (.bool ym)) := fun W hW => ⟨⟨(hW.cell (p := ⟨b, off + k * 3, none⟩) hlt).trans c0, (hW.cell (p := ⟨b, off + k * 3 + 1, none⟩) hlt).trans c1, (hW.cell (p := ⟨b, off + k * 3 + 2, none⟩) hlt).trans c2⟩, (hW.cell (p := ⟨b', off' + j * 3, none⟩) hlt').trans e0, (hW.cell (p := ⟨b', off' + j * 3 + 1, none⟩) hlt').trans e1, (hW.cell (p := ⟨b', off' + j * 3 + 2, none⟩) hlt').trans e2⟩
              have HTT : Hid (insS ⟨xn, xk, xm⟩ (O.take (j + 1)) = stp ⟨xn, xk, xm⟩ (s1, s2) ⟨yn, yk, ym⟩) := HT
              have hS : CD b' (off' + j * 3) b (off + k * 3) yn xn wr wr := ⟨⟨(HX.out wr HBi.out).2.1, (HX.out wr HBi.out).1.1⟩, by omega, by omega, Below.refl _ _⟩
              have HSc : Hid (∀ W, Calls Tryz.prog 22 #[.string yn, .string xn] W fun e w'' => e = .returned (.bool (sameL yn.data.toList xn.data.toList)) ∧ Below W.heap.size W w'') := fun W => HSm.out yn xn W hys HNx
              have HCc : Hid (∀ W, Calls Tryz.prog 23 #[.string xn, .string yn] W fun e w'' => e = .returned (.int .i64 (cmpL xn.data.toList yn.data.toList)) ∧ Below W.heap.size W w'') := fun W => HCm.out xn yn W HNx hys
              clear hcc' hro HT hST HNs HRl HRO HRo HR HSm HCm HQ HDr HNO HN c0 c1 c2 e0 e1 e2
              cases hsm : sameL yn.data.toList xn.data.toList
              · have HN2 : Hid (∀ y ∈ O.take (j + 1), sameL y.n.data.toList xn.data.toList = false) := HNt.out hsm
                rw [hsm] at HSc
                clear hsm HNt HYs
                go_wp2_with fail
                refine wp_region_quiet (C := fun w' => CD b' (off' + j * 3) b (off + k * 3) yn xn wr w') (by kernel_rfl) (by kernel_rfl) (CD_drew hS) ?_
                dsimp only
                repeat (first
                  | go_big_quiet_skip
                  | (go_big_quiet_want
                     apply Exists.intro
                     refine ⟨fun W' hW' => ?_, ?_⟩
                     · obtain ⟨⟨g0, g1⟩, -, -, -⟩ := (show CD b' (off' + j * 3) b (off + k * 3) yn xn wr W' from hW')
                       go_simp
                       first
                         | done
                         | rfl
                         | (go_at_call 22; refine (HSc.out W').mono ?_; rintro e w'' ⟨rfl, hb⟩; exact ⟨rfl, CD_call hb hW'⟩)
                     go_big_quiet_on
                     try simp only [Act.put, List.setIfInBounds_toArray, List.set_cons_zero, List.set_cons_succ]))
                refine wpQuiet_nil ?_
                intro w2 hqw2
                have hS2 : CD b' (off' + j * 3) b (off + k * 3) yn xn wr w2 := hqw2
                clear hqw2
                clear HSc hS
                cases s2
                · -- not put yet
                  by_cases hc : cmpL xn.data.toList yn.data.toList < 0
                  · have dc : decide (cmpL xn.data.toList yn.data.toList < 0) = true := decide_eq_true hc
                    have HTA : Hid (insS ⟨xn, xk, xm⟩ (O.take (j + 1)) = (s1 ++ [⟨xn, xk, xm⟩] ++ [⟨yn, yk, ym⟩], true)) := HTT.out.trans (if_pos ⟨rfl, hc⟩)
                    clear HTT hc
                    generalize cmpL xn.data.toList yn.data.toList = cc at *
                    go_wp2_with fail
                    refine wp_region_quiet (C := fun w' => CD b' (off' + j * 3) b (off + k * 3) yn xn wr w') (by kernel_rfl) (by kernel_rfl) (CD_drew hS2) ?_
                    dsimp only
                    repeat (first
                      | go_big_quiet_skip
                      | (go_big_quiet_want
                         apply Exists.intro
                         refine ⟨fun W' hW' => ?_, ?_⟩
                         · obtain ⟨⟨g0, g1⟩, -, -, -⟩ := (show CD b' (off' + j * 3) b (off + k * 3) yn xn wr W' from hW')
                           go_simp
                           first
                             | done
                             | rfl
                             | (go_at_call 23; refine (HCc.out W').mono ?_; rintro e w'' ⟨rfl, hb⟩; exact ⟨rfl, CD_call hb hW'⟩)
                         go_big_quiet_on
                         try simp only [Act.put, List.setIfInBounds_toArray, List.set_cons_zero, List.set_cons_succ]))
                    refine wpQuiet_nil ?_
                    intro w3 hqw3
                    have hS3 : CD b' (off' + j * 3) b (off + k * 3) yn xn wr w3 := hqw3
                    clear hqw3
                    have hb3 := hS3.2.2.2
                    have HB3 : Hid (Below wb.heap.size wb w3) := HBi.out.trans (hb3.mono hszi)
                    have HO3 : Hid (w3.ownsRow wb.heap.size 51 3 u7 s1.length (fCells s1)) := own_belowE HO.out hb3
                    have hs3 := HB3.out.size
                    obtain ⟨⟨x0, x1, x2⟩, -⟩ := HX.out w3 HB3.out
                    clear hS2 hS3 hb3 HO HCc
                    go_upto_region 22 with (at_builtin; go_loud (refine wpl_appE w3 rfl (.tmp 64) (.tmp 69) 28 51 rfl i0 _ 3 32 Tryz.underlying28 hi0 hz0 hz1 hz2 rfl (by decide) wb.heap.size u7 s1.length (fCells s1) rfl HO3.out [.string xn, .int .i64 xk, .bool xm] rfl _ rfl rfl (by simp [Value.oneCell']) (by omega) (by unfold maxLen; omega) (by omega) ?_; intro v4 w4 ho4 hb4))
                    have HB4 : Hid (Below wb.heap.size wb w4) := HB3.out.trans hb4
                    have HO4 : Hid (w4.ownsRow wb.heap.size 51 3 v4 (s1.length + 1) (fCells (s1 ++ [⟨xn, xk, xm⟩]))) := by
                      show World.ownsRow _ _ _ _ _ _ _
                      rw [fCells_app]
                      exact ho4
                    have hs4 := HB4.out.size
                    clear x0 x1 x2 ho4 hb4 HO3
                    obtain ⟨-, y0, y1, y2⟩ := HX.out w4 HB4.out
                    go_wp2_with (at_builtin; go_loud (refine wpl_appE w4 rfl (.tmp 71) (.tmp 76) 28 51 rfl i0 _ 3 32 Tryz.underlying28 hi0 hz0 hz1 hz2 rfl (by decide) wb.heap.size v4 (s1.length + 1) (fCells (s1 ++ [⟨xn, xk, xm⟩])) rfl HO4.out [.string yn, .int .i64 yk, .bool ym] rfl _ rfl rfl (by simp [Value.oneCell']) (by omega) (by unfold maxLen; omega) (by omega) ?_; intro v5 w5 ho5 hb5))
                    have HB5 : Hid (Below wb.heap.size wb w5) := HB4.out.trans hb5
                    have HO5 : Hid (w5.ownsRow wb.heap.size 51 3 v5 (insS ⟨xn, xk, xm⟩ (O.take (j + 1))).1.length (fCells (insS ⟨xn, xk, xm⟩ (O.take (j + 1))).1)) := by
                      show World.ownsRow _ _ _ _ _ _ _
                      rw [HTA.out]
                      dsimp only
                      rw [fCells_app (s1 ++ [(⟨xn, xk, xm⟩ : Fd)])]
                      have e : (s1 ++ [(⟨xn, xk, xm⟩ : Fd)] ++ [(⟨yn, yk, ym⟩ : Fd)]).length = s1.length + 1 + 1 := by simp
                      rw [e]
                      exact ho5
                    clear y0 y1 y2 ho5 hb5 HO4
                    go_wp2
                    go_roundw
                    case rel => exact ⟨rfl, rfl, j + 1, by omega, by simp, by rw [HTA.out], HN2, HO5, HB5⟩
                    case measure => simp [intOf]; omega
                  · have dc : decide (cmpL xn.data.toList yn.data.toList < 0) = false := decide_eq_false hc
                    have HTA : Hid (insS ⟨xn, xk, xm⟩ (O.take (j + 1)) = (s1 ++ [⟨yn, yk, ym⟩], false)) := HTT.out.trans (if_neg (fun hh => hc hh.2))
                    clear HTT hc
                    generalize cmpL xn.data.toList yn.data.toList = cc at *
                    go_wp2_with fail
                    refine wp_region_quiet (C := fun w' => CD b' (off' + j * 3) b (off + k * 3) yn xn wr w') (by kernel_rfl) (by kernel_rfl) (CD_drew hS2) ?_
                    dsimp only
                    repeat (first
                      | go_big_quiet_skip
                      | (go_big_quiet_want
                         apply Exists.intro
                         refine ⟨fun W' hW' => ?_, ?_⟩
                         · obtain ⟨⟨g0, g1⟩, -, -, -⟩ := (show CD b' (off' + j * 3) b (off + k * 3) yn xn wr W' from hW')
                           go_simp
                           first
                             | done
                             | rfl
                             | (go_at_call 23; refine (HCc.out W').mono ?_; rintro e w'' ⟨rfl, hb⟩; exact ⟨rfl, CD_call hb hW'⟩)
                         go_big_quiet_on
                         try simp only [Act.put, List.setIfInBounds_toArray, List.set_cons_zero, List.set_cons_succ]))
                    refine wpQuiet_nil ?_
                    intro w3 hqw3
                    have hS3 : CD b' (off' + j * 3) b (off + k * 3) yn xn wr w3 := hqw3
                    clear hqw3
                    have hb3 := hS3.2.2.2
                    have HB3 : Hid (Below wb.heap.size wb w3) := HBi.out.trans (hb3.mono hszi)
                    have HO3 : Hid (w3.ownsRow wb.heap.size 51 3 u7 s1.length (fCells s1)) := own_belowE HO.out hb3
                    have hs3 := HB3.out.size
                    obtain ⟨-, y0, y1, y2⟩ := HX.out w3 HB3.out
                    clear hS2 hS3 hb3 HO HCc
                    go_wp2_with (at_builtin; go_loud (refine wpl_appE w3 rfl (.tmp 71) (.tmp 76) 28 51 rfl i0 _ 3 32 Tryz.underlying28 hi0 hz0 hz1 hz2 rfl (by decide) wb.heap.size u7 s1.length (fCells s1) rfl HO3.out [.string yn, .int .i64 yk, .bool ym] rfl _ rfl rfl (by simp [Value.oneCell']) (by omega) (by unfold maxLen; omega) (by omega) ?_; intro v5 w5 ho5 hb5))
                    have HB5 : Hid (Below wb.heap.size wb w5) := HB3.out.trans hb5
                    have HO5 : Hid (w5.ownsRow wb.heap.size 51 3 v5 (insS ⟨xn, xk, xm⟩ (O.take (j + 1))).1.length (fCells (insS ⟨xn, xk, xm⟩ (O.take (j + 1))).1)) := by
                      show World.ownsRow _ _ _ _ _ _ _
                      rw [HTA.out]
                      dsimp only
                      rw [fCells_app s1]
                      have e : (s1 ++ [(⟨yn, yk, ym⟩ : Fd)]).length = s1.length + 1 := by simp
                      rw [e]
                      exact ho5
                    clear y0 y1 y2 ho5 hb5 HO3
                    go_wp2
                    go_roundw
                    case rel => exact ⟨rfl, rfl, j + 1, by omega, by simp, by rw [HTA.out], HN2, HO5, HB5⟩
                    case measure => simp [intOf]; omega
                · have HTA : Hid (insS ⟨xn, xk, xm⟩ (O.take (j + 1)) = (s1 ++ [⟨yn, yk, ym⟩], true)) := HTT.out.trans (if_neg (fun hh => by cases hh.1))
                  clear HTT
                  go_wp2_with fail
                  refine wp_region_quiet (C := fun w' => CD b' (off' + j * 3) b (off + k * 3) yn xn wr w') (by kernel_rfl) (by kernel_rfl) (CD_drew hS2) ?_
                  dsimp only
                  repeat (first
                    | go_big_quiet_skip
                    | (go_big_quiet_want
                       apply Exists.intro
                       refine ⟨fun W' hW' => ?_, ?_⟩
                       · obtain ⟨⟨g0, g1⟩, -, -, -⟩ := (show CD b' (off' + j * 3) b (off + k * 3) yn xn wr W' from hW')
                         go_simp
                         first
                           | done
                           | rfl
                           | (go_at_call 23; refine (HCc.out W').mono ?_; rintro e w'' ⟨rfl, hb⟩; exact ⟨rfl, CD_call hb hW'⟩)
                       go_big_quiet_on
                       try simp only [Act.put, List.setIfInBounds_toArray, List.set_cons_zero, List.set_cons_succ]))
                  refine wpQuiet_nil ?_
                  intro w3 hqw3
                  have hS3 : CD b' (off' + j * 3) b (off + k * 3) yn xn wr w3 := hqw3
                  clear hqw3
                  have hb3 := hS3.2.2.2
                  have HB3 : Hid (Below wb.heap.size wb w3) := HBi.out.trans (hb3.mono hszi)
                  have HO3 : Hid (w3.ownsRow wb.heap.size 51 3 u7 s1.length (fCells s1)) := own_belowE HO.out hb3
                  have hs3 := HB3.out.size
                  obtain ⟨-, y0, y1, y2⟩ := HX.out w3 HB3.out
                  clear hS2 hS3 hb3 HO HCc
                  go_wp2_with (at_builtin; go_loud (refine wpl_appE w3 rfl (.tmp 71) (.tmp 76) 28 51 rfl i0 _ 3 32 Tryz.underlying28 hi0 hz0 hz1 hz2 rfl (by decide) wb.heap.size u7 s1.length (fCells s1) rfl HO3.out [.string yn, .int .i64 yk, .bool ym] rfl _ rfl rfl (by simp [Value.oneCell']) (by omega) (by unfold maxLen; omega) (by omega) ?_; intro v5 w5 ho5 hb5))
                  have HB5 : Hid (Below wb.heap.size wb w5) := HB3.out.trans hb5
                  have HO5 : Hid (w5.ownsRow wb.heap.size 51 3 v5 (insS ⟨xn, xk, xm⟩ (O.take (j + 1))).1.length (fCells (insS ⟨xn, xk, xm⟩ (O.take (j + 1))).1)) := by
                    show World.ownsRow _ _ _ _ _ _ _
                    rw [HTA.out]
                    dsimp only
                    rw [fCells_app s1]
                    have e : (s1 ++ [(⟨yn, yk, ym⟩ : Fd)]).length = s1.length + 1 := by simp
                    rw [e]
                    exact ho5
                  clear y0 y1 y2 ho5 hb5 HO3
                  go_wp2
                  go_roundw
                  case rel => exact ⟨rfl, rfl, j + 1, by omega, by simp, by rw [HTA.out], HN2, HO5, HB5⟩
                  case measure => simp [intOf]; omega
              · have HNo : Hid (rsrt [] l = none) := HYs.out hsm
                rw [hsm] at HSc
                clear hsm HNt HYs HTT
                go_wp2_with fail
                refine wp_region_quiet (C := fun w' => CD b' (off' + j * 3) b (off + k * 3) yn xn wr w') (by kernel_rfl) (by kernel_rfl) (CD_drew hS) ?_
                dsimp only
                repeat (first
                  | go_big_quiet_skip
                  | (go_big_quiet_want
                     apply Exists.intro
                     refine ⟨fun W' hW' => ?_, ?_⟩
                     · obtain ⟨⟨g0, g1⟩, -, -, -⟩ := (show CD b' (off' + j * 3) b (off + k * 3) yn xn wr W' from hW')
                       go_simp
                       first
                         | done
                         | rfl
                         | (go_at_call 22; refine (HSc.out W').mono ?_; rintro e w'' ⟨rfl, hb⟩; exact ⟨rfl, CD_call hb hW'⟩)
                     go_big_quiet_on
                     try simp only [Act.put, List.setIfInBounds_toArray, List.set_cons_zero, List.set_cons_succ]))
                refine wpQuiet_nil ?_
                intro w2 hqw2
                have hS2 : CD b' (off' + j * 3) b (off + k * 3) yn xn wr w2 := hqw2
                clear hqw2
                have HB2 : Hid (Below w.heap.size w w2) := HB.out.trans ((HBi.out.trans (hS2.2.2.2.mono hszi)).mono hsz)
                clear HSc HCc hS hS2
                go_wp2
                go_ret2
                exact ⟨HB2.out, .inr (.inr ⟨h24', HAll.out, .inl ⟨HNo.out, rfl⟩⟩)⟩
            · as_aux_lemma =>
              have dj : decide ((j : Int) < (k : Int)) = false := by simp; omega
              have dj' : decide (j < k) = false := by simp; omega
              have hOt : O.take j = O := List.take_of_length_le (by omega)
              rw [hOt] at HNs HO ⊢
              have HQ2 : Hid (rsrt [] l = rsrt (finS ⟨xn, xk, xm⟩ (insS ⟨xn, xk, xm⟩ O)) (l.drop (k + 1))) := by
                show _ = _
                rw [HQ.out, HDr.out, rsrt, if_neg]
                have hh : hasS ⟨xn, xk, xm⟩ O = false := has_iff.2 fun y hy => HNs.out y hy
                rw [hh]
                decide
              have HN2 : Hid (NmR (finS ⟨xn, xk, xm⟩ (insS ⟨xn, xk, xm⟩ O))) := ins_mem (p := fun y => y.n.size ≤ 200000) HNx HNO.out
              have hl2 := ins_len ⟨xn, xk, xm⟩ O
              rw [hOk] at hl2
              obtain ⟨b, off, rfl, hlt, c0, c1, c2⟩ := HRl.out wr HBi.out
              have hln := insS_len ⟨xn, xk, xm⟩ O
              have HF : Hid (∀ (v5 : Value) (w5 : World), w5.ownsRow wb.heap.size 51 3 v5 (finS ⟨xn, xk, xm⟩ (insS ⟨xn, xk, xm⟩ O)).length (fCells (finS ⟨xn, xk, xm⟩ (insS ⟨xn, xk, xm⟩ O))) → Below wb.heap.size wb w5 → ∃ (oa : Option Addr) (oc : Nat), v5 = .slice oa (k + 1) oc ∧ Hid (IsRow w5 3 (.slice oa (k + 1) oc) (finS ⟨xn, xk, xm⟩ (insS ⟨xn, xk, xm⟩ O)).length (fCells (finS ⟨xn, xk, xm⟩ (insS ⟨xn, xk, xm⟩ O)))) ∧ Hid (Below w.heap.size w w5)) := fun v5 w5 ho hb => by
                obtain ⟨oa', oc', rfl⟩ := (IsRow.own ho).form
                rw [hl2] at *
                refine ⟨oa', oc', rfl, ?_, HB.out.trans (hb.mono hsz)⟩
                show IsRow _ _ _ _ _
                have := IsRow.own ho
                rw [hl2]
                exact this
              generalize hFI : finS ⟨xn, xk, xm⟩ (insS ⟨xn, xk, xm⟩ O) = FI at *
              generalize hST : insS ⟨xn, xk, xm⟩ O = ST at *
              obtain ⟨s1, s2⟩ := ST
              dsimp only at *
              clear hOt HNs HRl HRO HRo HR HSm HCm HQ HDr HNO HN hST
              cases s2
              · have hFI' : FI = s1 ++ [⟨xn, xk, xm⟩] := hFI.symm
                have HFI : Hid (FI = s1 ++ [⟨xn, xk, xm⟩]) := hFI'
                clear hFI hFI'
                go_wp2_with (at_builtin; go_loud (refine wpl_appE wr rfl (.tmp 80) (.tmp 85) 28 51 rfl i0 _ 3 32 Tryz.underlying28 hi0 hz0 hz1 hz2 rfl (by decide) wb.heap.size u7 s1.length (fCells s1) rfl HO.out [.string xn, .int .i64 xk, .bool xm] rfl _ rfl rfl (by simp [Value.oneCell']) (by omega) (by unfold maxLen; omega) (by omega) ?_; intro v5 w5 ho5 hb5))
                have HG := HF.out v5 w5 (by rw [HFI.out, fCells_app, List.length_append, List.length_singleton]; exact ho5) (HBi.out.trans hb5)
                obtain ⟨oa', oc', rfl, HR5, HB5⟩ := HG
                clear ho5 hb5 HF HFI HO c0 c1 c2
                go_wp2
                go_roundw
                case rel => exact ⟨rfl, rfl, k + 1, FI, oa', oc', by omega, by simp, rfl, hl2, HN2, HQ2, HR5, HB5⟩
                case measure => simp [intOf]; omega
              · have hFI' : FI = s1 := hFI.symm
                have HG := HF.out u7 wr (by rw [hFI']; exact HO.out) HBi.out
                obtain ⟨oa', oc', rfl, HR5, HB5⟩ := HG
                clear hFI hFI' HF HO c0 c1 c2
                go_wp2
                go_roundw
                case rel => exact ⟨rfl, rfl, k + 1, FI, oa', oc', by omega, by simp, rfl, hl2, HN2, HQ2, HR5, HB5⟩
                case measure => simp [intOf]; omega
        · as_aux_lemma =>
          have dk : decide ((k : Int) < l.length) = false := by simp; omega
          have hkl : k = l.length := by omega
          have HQ2 : Hid (rsrt [] l = some O) := by
            show _ = _
            rw [HQ.out, hkl, List.drop_length]
            rfl
          have HOk : Hid (O.length = k) := hOk
          clear HQ hkl HR HSm HCm
          go_wp2
          go_ret2
          refine ⟨HB.out, .inr (.inr ⟨h24', HAll.out, .inr ⟨O, oa, oc, HQ2.out, ?_, ?_⟩⟩)⟩
          · rw [HOk.out]; rfl
          · have := HRo.out
            rw [HOk.out] at this ⊢
            exact this
end Go.Proofs.YtfbnlkgopncejaaGreatDoor
