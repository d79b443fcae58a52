/- lex.Lex at any text: its walk. -/
import Derived.Test.YtmfeoiblhjfpjaaGreatDoorZb12
import Derived.Test.YtmfeoiblhjfpjaaGreatDoorZb1
import Derived.Deep.RegionLaw
import Derived.RegionTactic
import Derived.Test.YtmfeoiblhjfpjaaGreatDoorZb4
import Derived.ChangeAlike
import Derived.Deep.QuietTactic
import Derived.BigQuiet
import Derived.Test.YtmfeoiblhjfpjaaGreatDoorZb5
import Derived.Test.YtmfeoiblhjfpjaaGreatDoorZb6
import Derived.Test.YtmfeoiblhjfpjaaGreatDoorZb7
namespace Go.Proofs.YtmfeoiblhjfpjaaGreatDoor
open Go.RowKit

theorem own_ne_iter6 {w : World} {base : Nat} {e : TypeId} {sz : Nat} {v : Value} {n : Nat} {xs : List Value} (h : w.ownsRow base e sz v n xs) {k : Nat} {s : ByteArray} {p : Nat} (hk : w.heap[k]? = some (.stringIter s p)) : v.ownBlock ≠ some k := by
  intro e
  rcases h.2 with ⟨hv, _⟩ | ⟨g, cap, cur, hv, _, hg, _⟩
  · rw [hv] at e; cases e
  · rw [hv] at e
    cases e
    rw [hk] at hg
    cases hg
theorem own_iter6 {w : World} {base : Nat} {e : TypeId} {sz : Nat} {v : Value} {n : Nat} {xs : List Value} (h : w.ownsRow base e sz v n xs) {k : Nat} {s : ByteArray} {p : Nat} (hk : w.heap[k]? = some (.stringIter s p)) (p' : Nat) : (w.iterAt k s p').ownsRow base e sz v n xs :=
  h.kept (row := some k) ⟨rfl, rfl, rfl, by rw [Lib.iterAt_size]; exact Nat.le_refl _, fun j _ hj => Lib.iterAt_other w k j s p' (fun e => hj (by rw [e]))⟩ (.inr (own_ne_iter6 h hk))
theorem own_below6 {w w1 : World} {base : Nat} {e : TypeId} {sz : Nat} {v : Value} {n : Nat} {xs : List Value} (h : w.ownsRow base e sz v n xs) (hb : Below w.heap.size w w1) : w1.ownsRow base e sz v n xs :=
  h.kept (row := none) ⟨hb.os, hb.tape, hb.output, hb.size, fun k hk _ => hb.block k hk⟩ (by cases hv : v.ownBlock <;> simp)
theorem al_below6 (w : World) (o : Obj) : Below w.heap.size w (w.alloc o) := (Below.refl _ _).alloc (Nat.le_refl _) _
theorem info_tok : (Tryz.prog.info? 30).map (fun i => (i.zero, i.size, i.bytes)) = some (some (.agg #[.int .i64 0, .int .i64 0, .string ⟨#[]⟩, .int .i64 0, .int .i64 0, .string ⟨#[]⟩]), 6, 64) := by kernel_rfl
/-- What Lex leaves. -/
def LxPost (x : Lx) (w : World) (e : Ending) (w' : World) : Prop :=
  ∃ v, e = .returned (.tuple #[v, .int .i64 x.a, .int .i64 x.e]) ∧ IsRow w' 6 v x.l.length (tkCells x.l) ∧ Below w.heap.size w w'
/-- What holds of Lex's loop at every round. -/
def LxRel (s : ByteArray) (w : World) (k0 : Nat) (t a n l : Value) (wr : World) : Prop :=
  ∃ (pos at' en : Nat) (long : Int) (acc : List Tk), a = .int .i64 (at' : Int) ∧ n = .int .i64 (en : Int) ∧ l = .int .i64 long ∧ wr.ownsRow (k0 + 1) 30 6 t acc.length (tkCells acc) ∧ wr.heap[k0]? = some (.stringIter s pos) ∧ Below w.heap.size w wr ∧
    pos ≤ s.size ∧ at' ≤ pos ∧ acc.length ≤ at' ∧ en ≤ 2 * s.size ∧ -1 ≤ long ∧ long ≤ pos ∧ lxs (s.data.toList.drop pos) pos at' en long acc = lxs s.data.toList 0 0 0 (-1) []
theorem cut_size (l : List UInt8) : (cutL l).z ≤ l.length ∧ ((cutL l).e = 0 ∨ (cutL l).e = 2 ∨ (cutL l).e = 3) := by
  unfold cutL
  split
  · exact ⟨Nat.zero_le _, .inr (.inl rfl)⟩
  split
  · exact ⟨Nat.sub_le _ _, .inl rfl⟩
  split
  · refine ⟨?_, .inl rfl⟩
    show wsz l ≤ _
    unfold wsz
    split
    · exact wgo_le _ _ (Nat.le_refl _)
    · exact Nat.zero_le _
  split
  · refine ⟨?_, .inl rfl⟩
    show msz l ≤ _
    rename_i hm
    unfold msz at hm ⊢
    split
    · rename_i hp
      rcases hp with hp | hp | hp <;> exact pre_len hp
    · rename_i hp
      rw [if_neg hp] at hm
      split at hm
      · rename_i hi
        rw [if_pos hi]
        cases l with
        | nil => exfalso; revert hi; decide
        | cons b t => simp
      · simp at hm
  · exact ⟨Nat.zero_le _, .inr (.inr rfl)⟩
/-- A next round. -/
theorem lx_again {s : ByteArray} {w W W3 : World} {k0 : Nat} {t av nv lv : Value} {pos at' en M : Nat} {long : Int} {acc : List Tk} {X : Lx} (HXX : Hid (lxs s.data.toList 0 0 0 (-1) [] = X))
    (HX : Hid (X = lxs (s.data.toList.drop pos) pos at' en long acc)) (ha : av = .int .i64 (at' : Int)) (hn : nv = .int .i64 (en : Int)) (hl : lv = .int .i64 long) (hit : W.heap[k0]? = some (.stringIter s pos))
    (HB : Hid (Below (k0 + 1) W W3)) (hbw : Below w.heap.size w W) (hk : w.heap.size ≤ k0) (HO : Hid (W3.ownsRow (k0 + 1) 30 6 t acc.length (tkCells acc)))
    (h1 : pos ≤ s.size) (h2 : at' ≤ pos) (h3 : acc.length ≤ at') (h4 : en ≤ 2 * s.size) (h5 : -1 ≤ long) (h6 : long ≤ pos) (hm : Hid (s.size - pos < M)) :
    LxRel s w k0 t av nv lv W3 ∧ s.size - W3.iterPos k0 < M := by
  have hi3 : W3.heap[k0]? = some (.stringIter s pos) := (HB.out.block k0 (Nat.lt_succ_self _)).trans hit
  refine ⟨⟨pos, at', en, long, acc, ha, hn, hl, HO.out, hi3, hbw.trans (HB.out.mono (by omega)), h1, h2, h3, h4, h5, h6, HX.out.symm.trans HXX.out.symm⟩, ?_⟩
  rw [iterPos_of hi3]
  exact hm.out
set_option maxRecDepth 100000 in
set_option maxHeartbeats 8000000 in
theorem lex_any (s : ByteArray) (w : World) (hs : s.size ≤ 1000000) (h : VE w) :
    Calls Tryz.prog 5 #[.string s] w fun e w' => LxPost (lexL s.data.toList) w e w' := by
  obtain ⟨i0, hi0, hz0, hz1, hz2⟩ := info_parts info_tok
  have HVs : Hid (∀ w, UT w → Calls Tryz.prog 12 #[.string s] w fun e w' => e = .returned (.bool (Lib.validD s.data.toList)) ∧ Below w.heap.size w w') := fun w hU => Tryz.utf8_ValidString s w (by omega) hU
  cases hv : Lib.validD s.data.toList
  · have HX : Hid (lexL s.data.toList = ⟨[], 0, 3⟩) := by show _ = _; unfold lexL; rw [if_neg (by rw [hv]; decide)]
    rw [HX.out]
    rw [hv] at HVs
    clear hv HX
    go_enter Tryz.func5, Tryz.ntmps5
    go_wp2_with fail
    refine (HVs.out _ h.u).mono ?_
    rintro e0 w1 ⟨rfl, hb1⟩
    go_wp2
    go_ret3
    exact ⟨_, rfl, IsRow.nil _ _, hb1⟩
  · have HX : Hid (lexL s.data.toList = lxs s.data.toList 0 0 0 (-1) []) := by show _ = _; unfold lexL; rw [if_pos hv]; rfl
    rw [HX.out]
    rw [hv] at HVs
    clear hv HX
    go_enter Tryz.func5, Tryz.ntmps5
    go_wp2_with fail
    refine (HVs.out _ h.u).mono ?_
    rintro e0 w1 ⟨rfl, hb1⟩
    have hs1 := hb1.size
    go_wp2_with fail
    go_loopw [2, 3, 4, 5, 6] (fun t a e n l wr => e = .int .i64 0 ∧ LxRel s w w1.heap.size t a n l wr) (fun _ _ _ _ _ wr => s.size - wr.iterPos w1.heap.size)
    case atStart =>
      exact ⟨rfl, 0, 0, 0, -1, [], rfl, rfl, rfl, World.ownsRow_nil _ _ _ _, World.iter_heap w1 s 0, hb1.alloc hs1 _, Nat.zero_le _, Nat.le_refl _, Nat.le_refl _, Nat.zero_le _, by decide, by decide, rfl⟩
    case round =>
      obtain ⟨rfl, pos, at', en, long, acc, rfl, rfl, rfl, hown, hit, hbw, hps, hat, hac, hen, hl1, hl2, hck⟩ := hrel
      have HC : Hid (lxs (s.data.toList.drop pos) pos at' en long acc = lxs s.data.toList 0 0 0 (-1) []) := hck
      clear hck
      obtain ⟨X, HXX⟩ : ∃ X, Hid (lxs s.data.toList 0 0 0 (-1) [] = X) := ⟨_, rfl⟩
      have hszr : w1.heap.size < wr.heap.size := (Array.getElem?_eq_some_iff.1 hit).1
      by_cases hp : pos < s.size
      · have hnx : ∀ ty, (Instr.next (.pointer (some ⟨w1.heap.size, 0, none⟩)) true ty).run Tryz.prog wr = _ := fun ty => Lib.run_next_any_at wr w1.heap.size s pos ty hit hp
        have hwd := Lib.decode_width_pos s pos hp
        have hit2 := Lib.iterAt_heap wr w1.heap.size s pos (pos + (Utf8.decode s pos).2) hit
        have hbw2 := Lib.below_iterAt hbw (k := w1.heap.size) hs1 s (pos + (Utf8.decode s pos).2)
        have hown2 := own_iter6 hown hit (pos + (Utf8.decode s pos).2)
        have hne2 := own_ne_iter6 hown hit
        have hrl := Lib.rune_le s pos
        have hwl := width_le s pos hp
        have hmeas : Hid (s.size - (pos + (Utf8.decode s pos).2) < s.size - wr.iterPos w1.heap.size) := by
          show _ < _
          rw [iterPos_of hit]; omega
        have hmp : Hid ((wr.iterAt w1.heap.size s (pos + (Utf8.decode s pos).2)).iterPos w1.heap.size = pos + (Utf8.decode s pos).2) := iterPos_of hit2
        have hWs : w1.heap.size < (wr.iterAt w1.heap.size s (pos + (Utf8.decode s pos).2)).heap.size := by rw [Lib.iterAt_size]; exact hszr
        have HS : Hid (X = if en ≤ pos ∧ blankN (Utf8.decode s pos).1 = false then
            if (cutL (s.extract pos s.size).data.toList).e = 3 then ⟨[], at', 3⟩
            else if (cutL (s.extract pos s.size).data.toList).e = 2 then ⟨[], if long < 0 then at' else long, 2⟩
            else if long < 0 ∧ acc.length ≠ 300 then lxs (s.data.toList.drop (pos + (Utf8.decode s pos).2)) (pos + (Utf8.decode s pos).2) (at' + 1) (pos + (cutL (s.extract pos s.size).data.toList).z) long (acc ++ [{ (cutL (s.extract pos s.size).data.toList).t with p := at' }])
            else lxs (s.data.toList.drop (pos + (Utf8.decode s pos).2)) (pos + (Utf8.decode s pos).2) (at' + 1) (pos + (cutL (s.extract pos s.size).data.toList).z) (if long < 0 then at' else long) acc
          else lxs (s.data.toList.drop (pos + (Utf8.decode s pos).2)) (pos + (Utf8.decode s pos).2) (at' + 1) en long acc) := by
          show _ = _
          rw [← HXX.out, ← HC.out, lxs_step (drop_ne s pos hp), Lib.decodeL_drop, List.drop_drop, sub_list]
        have HCt : Hid (∀ w, VE w → Calls Tryz.prog 14 #[.string (s.extract pos s.size)] w fun e w' => e = .returned (ctV (cutL (s.extract pos s.size).data.toList)) ∧ Below w.heap.size w w') := fun w h => cut_any _ w (by rw [ByteArray.size_extract]; omega) (by rw [ByteArray.size_extract]; omega) h
        have hcz := cut_size (s.extract pos s.size).data.toList
        rw [← Lib.size_eq, ByteArray.size_extract] at hcz
        clear HC
        generalize (Utf8.decode s pos).1 = c at *
        generalize (Utf8.decode s pos).2 = d at *
        generalize hW : wr.iterAt w1.heap.size s (pos + d) = W at *
        clear hW
        have HB : Hid (∀ w : World, Calls Tryz.prog 13 #[.int .i32 (c : Int)] w fun e w' => e = .returned (.bool (blankN c)) ∧ w' = w) := fun w => blank_any c w
        have HVE : Hid (VE W) := h.below hbw2
        by_cases hg : pos < en
        · have HR : Hid (LxRel s w w1.heap.size u2 (.int .i64 ((at' : Int) + 1)) (.int .i64 (en : Int)) (.int .i64 long) W) :=
            ⟨pos + d, at' + 1, en, long, acc, by simp, rfl, rfl, hown2, hit2, hbw2, by omega, by omega, by omega, by omega, hl1, by omega, by rw [HXX.out, HS.out, if_neg (by omega)]⟩
          have dg : decide ((en : Int) ≤ pos) = false := by simp; omega
          clear HS HCt hcz hown hown2 HB HVE
          go_wp2
          go_roundw
          case rel => exact ⟨rfl, HR.out⟩
          case measure => rw [hmp.out]; exact hmeas.out
        have dg : decide ((en : Int) ≤ pos) = true := by simp; omega
        cases hbc : blankN c
        rotate_left
        · have HR : Hid (LxRel s w w1.heap.size u2 (.int .i64 ((at' : Int) + 1)) (.int .i64 (en : Int)) (.int .i64 long) W) :=
            ⟨pos + d, at' + 1, en, long, acc, by simp, rfl, rfl, hown2, hit2, hbw2, by omega, by omega, by omega, by omega, hl1, by omega, by rw [HXX.out, HS.out, if_neg (by rw [hbc]; simp)]⟩
          rw [hbc] at HB
          clear HS HCt hcz hown hown2 HVE hbc
          go_wp2_with fail
          refine (HB.out _).mono ?_
          rintro e0 w2 ⟨rfl, hw2⟩
          subst hw2
          go_wp2
          go_roundw
          case rel => exact ⟨rfl, HR.out⟩
          case measure => rw [hmp.out]; exact hmeas.out
        have HS2 := HS.out
        rw [if_pos ⟨by omega, hbc⟩] at HS2
        rw [hbc] at HB
        clear HS hbc
        generalize cutL (s.extract pos s.size).data.toList = x at *
        obtain ⟨⟨k, q, S, vk, vn, vs⟩, z, e⟩ := x
        have HC3 : Hid (∀ w, VE w → Calls Tryz.prog 14 #[.string (s.extract pos s.size)] w fun e0 w' => e0 = .returned (.tuple #[tv k q (str S) vk vn (str vs), .int .i64 (z : Int), .int .i64 e]) ∧ Below w.heap.size w w') := HCt.out
        clear HCt
        simp only at HS2 hcz
        obtain ⟨a0, cap0, hu⟩ := (IsRow.own hown2).form
        subst hu
        rcases hcz with ⟨hz, rfl | rfl | rfl⟩
        · rw [if_neg (by decide), if_neg (by decide)] at HS2
          by_cases hl : long < 0
          · have dl : decide (long < 0) = true := by simpa using hl
            by_cases hn : acc.length = 300
            · rw [if_neg (by omega), if_pos hl] at HS2
              have HS3 : Hid (X = lxs (s.data.toList.drop (pos + d)) (pos + d) (at' + 1) (pos + z) (at' : Int) acc) := HS2
              have dn : ((acc.length : Int) == 300) = true := by rw [beq_iff_eq]; omega
              have da : decide ((at' : Int) < 0) = false := by simp
              clear HS2
              go_wp2_with fail
              refine (HB.out _).mono ?_
              rintro e0 w2 ⟨rfl, hw2⟩
              subst hw2
              go_wp2_with fail
              refine (HC3.out _ HVE.out).mono ?_
              rintro e0 w3 ⟨rfl, hb3⟩
              have hs3 := hb3.size
              have HO3 : Hid ((w3.alloc (.cells #[.int .i64 k, .int .i64 q, .string (str S), .int .i64 vk, .int .i64 vn, .string (str vs)] 30)).ownsRow (w1.heap.size + 1) 30 6 (.slice a0 acc.length cap0) acc.length (tkCells acc)) := own_below6 (own_below6 hown2 hb3) (al_below6 _ _)
              have HBb : Hid (Below (w1.heap.size + 1) w2 (w3.alloc (.cells #[.int .i64 k, .int .i64 q, .string (str S), .int .i64 vk, .int .i64 vn, .string (str vs)] 30))) := (hb3.mono hWs).alloc (by omega) _
              clear hown hown2 hb3
              go_wp2
              rw [hn] at HO3
              have HF := lx_again (av := .int .i64 ((at' : Int) + 1)) (nv := .int .i64 ((pos : Int) + z)) (lv := .int .i64 (at' : Int)) HXX HS3 (by simp) (by simp) rfl hit2 HBb hbw2 hs1 (by rw [hn]; exact HO3) (by omega) (by omega) (by omega) (by omega) (by omega) (by omega) hmeas
              exact ⟨⟨rfl, HF.1⟩, HF.2⟩
            · rw [if_pos ⟨hl, hn⟩] at HS2
              have HS3 : Hid (X = lxs (s.data.toList.drop (pos + d)) (pos + d) (at' + 1) (pos + z) long (acc ++ [⟨k, at', S, vk, vn, vs⟩])) := HS2
              have dn : ((acc.length : Int) == 300) = false := by rw [beq_eq_false_iff_ne]; omega
              clear HS2
              go_wp2_with fail
              refine (HB.out _).mono ?_
              rintro e0 w2 ⟨rfl, hw2⟩
              subst hw2
              go_wp2_with fail
              refine (HC3.out _ HVE.out).mono ?_
              rintro e0 w3 ⟨rfl, hb3⟩
              have hs3 := hb3.size
              have HO3 : Hid ((w3.alloc (.cells #[.int .i64 k, .int .i64 (at' : Int), .string (str S), .int .i64 vk, .int .i64 vn, .string (str vs)] 30)).ownsRow (w1.heap.size + 1) 30 6 (.slice a0 acc.length cap0) acc.length (tkCells acc)) := own_below6 (own_below6 hown2 hb3) (al_below6 _ _)
              have HBb : Hid (Below (w1.heap.size + 1) w2 (w3.alloc (.cells #[.int .i64 k, .int .i64 (at' : Int), .string (str S), .int .i64 vk, .int .i64 vn, .string (str vs)] 30))) := (hb3.mono hWs).alloc (by omega) _
              clear hown hown2 hb3
              go_wp2_with (at_builtin; refine wpln6 _ rfl (.tmp 59) (.tmp 61) 23 30 rfl i0 _ 6 64 Tryz.underlying23 hi0 hz0 hz1 hz2 rfl (by decide) (w1.heap.size + 1) (.slice a0 acc.length cap0) acc.length (tkCells acc) rfl HO3.out (Tk.cells ⟨k, at', S, vk, vn, vs⟩) rfl _ rfl (w3.heap.size + 1) (by simp) rfl (by intro u hu; simp [Tk.cells] at hu; rcases hu with rfl | rfl | rfl | rfl | rfl | rfl <;> rfl) (by omega) (by unfold maxLen; omega) (by simp; omega) ?_; intro v5 w5 hown5 hb5)
              have HO5 : Hid (w5.ownsRow (w1.heap.size + 1) 30 6 v5 (acc ++ [Tk.mk k at' S vk vn vs]).length (tkCells (acc ++ [⟨k, at', S, vk, vn, vs⟩]))) := by
                show World.ownsRow _ _ _ _ _ _ _
                rw [tkCells_snoc, List.length_append]
                exact hown5
              have HB5 : Hid (Below (w1.heap.size + 1) w2 w5) := HBb.out.trans hb5
              have HF := lx_again (av := .int .i64 ((at' : Int) + 1)) (nv := .int .i64 ((pos : Int) + z)) (lv := .int .i64 long) HXX HS3 (by simp) (by simp) rfl hit2 HB5 hbw2 hs1 HO5 (by omega) (by omega) (by simp; omega) (by omega) (by omega) (by omega) hmeas
              exact ⟨⟨rfl, HF.1⟩, HF.2⟩
          · have dl : decide (long < 0) = false := by simpa using hl
            rw [if_neg (by omega), if_neg hl] at HS2
            have HS3 : Hid (X = lxs (s.data.toList.drop (pos + d)) (pos + d) (at' + 1) (pos + z) long acc) := HS2
            clear HS2
            go_wp2_with fail
            refine (HB.out _).mono ?_
            rintro e0 w2 ⟨rfl, hw2⟩
            subst hw2
            go_wp2_with fail
            refine (HC3.out _ HVE.out).mono ?_
            rintro e0 w3 ⟨rfl, hb3⟩
            have hs3 := hb3.size
            have HO3 : Hid ((w3.alloc (.cells #[.int .i64 k, .int .i64 q, .string (str S), .int .i64 vk, .int .i64 vn, .string (str vs)] 30)).ownsRow (w1.heap.size + 1) 30 6 (.slice a0 acc.length cap0) acc.length (tkCells acc)) := own_below6 (own_below6 hown2 hb3) (al_below6 _ _)
            have HBb : Hid (Below (w1.heap.size + 1) w2 (w3.alloc (.cells #[.int .i64 k, .int .i64 q, .string (str S), .int .i64 vk, .int .i64 vn, .string (str vs)] 30))) := (hb3.mono hWs).alloc (by omega) _
            clear hown hown2 hb3
            go_wp2
            have HF := lx_again (av := .int .i64 ((at' : Int) + 1)) (nv := .int .i64 ((pos : Int) + z)) (lv := .int .i64 long) HXX HS3 (by simp) (by simp) rfl hit2 HBb hbw2 hs1 HO3 (by omega) (by omega) (by omega) (by omega) (by omega) (by omega) hmeas
            exact ⟨⟨rfl, HF.1⟩, HF.2⟩
        · rw [if_neg (by decide), if_pos rfl] at HS2
          by_cases hl : long < 0
          · have dl : decide (long < 0) = true := by simpa using hl
            rw [if_pos hl] at HS2
            have HS3 : Hid (X = ⟨[], at', 2⟩) := HS2
            have da : decide (0 ≤ (at' : Int)) = true := by simp
            clear HS2
            go_wp2_with fail
            refine (HB.out _).mono ?_
            rintro e0 w2 ⟨rfl, hw2⟩
            subst hw2
            go_wp2_with fail
            refine (HC3.out _ HVE.out).mono ?_
            rintro e0 w3 ⟨rfl, hb3⟩
            have hs3 := hb3.size
            have HBb : Hid (Below w.heap.size w (w3.alloc (.cells #[.int .i64 k, .int .i64 q, .string (str S), .int .i64 vk, .int .i64 vn, .string (str vs)] 30))) := (hbw2.trans (hb3.mono hbw2.size)).alloc (by omega) _
            clear hown hown2 hb3
            go_wp2
            go_ret3
            exact ⟨_, by rw [HXX.out, HS3.out]; rfl, by rw [HXX.out, HS3.out]; exact IsRow.nil _ _, HBb.out⟩
          · have dl : decide (long < 0) = false := by simpa using hl
            have da : decide (0 ≤ long) = true := by simp; omega
            rw [if_neg hl] at HS2
            have HS3 : Hid (X = ⟨[], long, 2⟩) := HS2
            clear HS2
            go_wp2_with fail
            refine (HB.out _).mono ?_
            rintro e0 w2 ⟨rfl, hw2⟩
            subst hw2
            go_wp2_with fail
            refine (HC3.out _ HVE.out).mono ?_
            rintro e0 w3 ⟨rfl, hb3⟩
            have hs3 := hb3.size
            have HBb : Hid (Below w.heap.size w (w3.alloc (.cells #[.int .i64 k, .int .i64 q, .string (str S), .int .i64 vk, .int .i64 vn, .string (str vs)] 30))) := (hbw2.trans (hb3.mono hbw2.size)).alloc (by omega) _
            clear hown hown2 hb3
            go_wp2
            go_ret3
            exact ⟨_, by rw [HXX.out, HS3.out]; rfl, by rw [HXX.out, HS3.out]; exact IsRow.nil _ _, HBb.out⟩
        · rw [if_pos rfl] at HS2
          have HS3 : Hid (X = ⟨[], at', 3⟩) := HS2
          clear HS2
          go_wp2_with fail
          refine (HB.out _).mono ?_
          rintro e0 w2 ⟨rfl, hw2⟩
          subst hw2
          go_wp2_with fail
          refine (HC3.out _ HVE.out).mono ?_
          rintro e0 w3 ⟨rfl, hb3⟩
          have hs3 := hb3.size
          have HBb : Hid (Below w.heap.size w (w3.alloc (.cells #[.int .i64 k, .int .i64 q, .string (str S), .int .i64 vk, .int .i64 vn, .string (str vs)] 30))) := (hbw2.trans (hb3.mono hbw2.size)).alloc (by omega) _
          clear hown hown2 hb3
          go_wp2
          go_ret3
          exact ⟨_, by rw [HXX.out, HS3.out]; rfl, by rw [HXX.out, HS3.out]; exact IsRow.nil _ _, HBb.out⟩
      · have hnx : ∀ ty, (Instr.next (.pointer (some ⟨w1.heap.size, 0, none⟩)) true ty).run Tryz.prog wr = _ := fun ty => Lib.run_next_end_at wr w1.heap.size s pos ty hit hp
        have HE : Hid (lxs s.data.toList 0 0 0 (-1) [] = lxEnd at' long acc) := by
          show _ = _
          rw [← HC.out, List.drop_of_length_le (by rw [← Lib.size_eq]; omega), lxs_nil]
        by_cases hl : 0 ≤ long
        · have dl : decide (0 ≤ long) = true := by simpa using hl
          have HE2 : Hid (lxs s.data.toList 0 0 0 (-1) [] = ⟨[], long, 2⟩) := HE.out.trans (if_pos hl)
          clear HE HC hown
          go_wp2
          go_ret3
          refine ⟨_, by rw [HE2.out]; rfl, by rw [HE2.out]; exact IsRow.nil _ _, hbw⟩
        · have dl : decide (0 ≤ long) = false := by simpa using hl
          have HE2 : Hid (lxs s.data.toList 0 0 0 (-1) [] = ⟨acc, at', 0⟩) := HE.out.trans (if_neg hl)
          have HO : Hid (IsRow wr 6 u2 acc.length (tkCells acc)) := IsRow.own hown
          clear HE HC hown
          go_wp2
          go_ret3
          refine ⟨u2, by rw [HE2.out]; rfl, by rw [HE2.out]; exact HO.out, hbw⟩
end Go.Proofs.YtmfeoiblhjfpjaaGreatDoor
/- Steps of a region that draws its order: an append onto an owned row, a call. Over whatever program. -/
namespace Go.Proofs.YtmfeoiblhjfpjaaGreatDoor
open Go.RowKit

/-- An append onto an owned row, as one step of a region that draws. -/
theorem step_append_own {P : Program} {ops : Array Oper} {o : Oper} {a : Act} {w : World} {K : Act → World → Prop} {Q : Exit → Act → World → Prop} {E : Prop}
    (hg : o.guard = none) (s x : Operand) (t e : TypeId) (ho : o.op = .call { callee := .builtin .append, args := #[s, x], argTypes := #[t, t] })
    (i : TypeInfo) (z : Value) (size bytes : Nat) (ht : P.underlying t = some (.slice e)) (hi : P.info? e = some i) (hz : i.zero = some z)
    (hsize : i.size = size) (hby : i.bytes = bytes) (hzs : z.cells.size = size) (hsz : 0 < size)
    (base : Nat) (v : Value) (n : Nat) (xs : List Value) (hs : a.eval s = v) (hown : w.ownsRow base e size v n xs)
    (ad : Addr) (es : List Value) (hes : es.length = size) (hx : a.eval x = .slice (some ad) 1 1) (hnews : ∀ j u, es[j]? = some u → w.cell? (ad.add j) = some u) (h1 : ∀ u ∈ es, u.oneCell' = true)
    (hbytes : (n + 1) * bytes ≤ 140737488355328) (h63 : n + 1 ≤ maxLen) (hbase : base ≤ w.heap.size)
    (hK : ∀ v' w', w'.ownsRow base e size v' (n + 1) (xs ++ es) → w.grownBy w' v.ownBlock → (∃ g c, v' = .slice (some g) (n + 1) c) → K (a.put o.dst v') w') :
    if Region.wanted o (yielded ops a.tmps) = true then Oper.wp P o a w K Q else E := by
  have hw : Region.wanted o (yielded ops a.tmps) = true := by simp [Region.wanted, hg]
  rw [if_pos hw]
  refine wp_append_own w s x t ho base e i z size bytes ht hi hz hsize hby hzs hsz v n xs hs hown ad 1 1 es hx (by omega) hnews h1 h63 hbytes hbase ?_
  intro v' w' h2 h3 h4
  refine hK v' w' h2 h3 ?_
  rcases h2.2 with ⟨_, h0⟩ | ⟨g, cap, cur, hv, _⟩
  · omega
  · exact ⟨_, _, hv⟩
/-- An append of one element that a drawing region has laid, onto an owned row. -/
theorem step_appd {P : Program} {wr : World} {ops : Array Oper} {o : Oper} {a : Act} {K : Act → World → Prop} {Q : Exit → Act → World → Prop} {E : Prop}
    (hg : o.guard = none) (s x : Operand) (t e : TypeId) (ho : o.op = .call { callee := .builtin .append, args := #[s, x], argTypes := #[t, t] })
    (i : TypeInfo) (z : Value) (size bytes : Nat) (ht : P.underlying t = some (.slice e)) (hi : P.info? e = some i) (hz : i.zero = some z)
    (hsize : i.size = size) (hby : i.bytes = bytes) (hzs : z.cells.size = size) (hsz : 0 < size)
    (base : Nat) (v : Value) (n : Nat) (xs : List Value) (hs : a.eval s = v) (hown : wr.ownsRow base e size v n xs)
    (es : List Value) (hes : es.length = size) (C : Array Value) (hC : C = es.toArray) (hx : a.eval x = .slice (some ⟨wr.heap.size, 0, none⟩) 1 1) (h1 : ∀ u ∈ es, u.oneCell' = true)
    (hbytes : (n + 1) * bytes ≤ 140737488355328) (h63 : n + 1 ≤ maxLen) (hbase : base ≤ wr.heap.size)
    (hK : ∀ v' w', w'.ownsRow base e size v' (n + 1) (xs ++ es) → Below base wr w' → (∀ b, b < wr.heap.size → v.ownBlock ≠ some b → w'.heap[b]? = wr.heap[b]?) → (∃ g c, v' = .slice (some g) (n + 1) c) → K (a.put o.dst v') w') :
    if Region.wanted o (yielded ops a.tmps) = true then Oper.wp P o a (wr.alloc (.cells C e)).drew K Q else E := by
  subst hC
  refine step_append_own hg s x t e ho i z size bytes ht hi hz hsize hby hzs hsz base v n xs hs (hown.alloc _).drew ⟨wr.heap.size, 0, none⟩ es hes hx ?_ h1 hbytes h63 (by simp; omega) ?_
  · intro j u hj
    have : (wr.alloc (.cells es.toArray e)).cell? ⟨wr.heap.size, j, none⟩ = some u := by simpa using hj
    have e1 : (⟨wr.heap.size, 0, none⟩ : Addr).add j = ⟨wr.heap.size, j, none⟩ := by cases j <;> simp [Addr.add]
    rw [e1]
    exact this
  · intro v' w' h2 h3 h4
    refine hK v' w' h2 ?_ ?_ h4
    · exact (((Below.refl _ _).alloc hbase _).drew).grown h3 (by simp; omega) (fun k hk => (hown.lt k hk).1)
    · intro b hb hne
      rw [h3.block b (by simp; omega) (fun e => hne e.symm)]
      exact Below.heap_alloc _ _ _ hb

/-- A call of a Go function that leaves the world as it was, as one step of a region that draws. -/
theorem step_fn {P : Program} {ops : Array Oper} {o : Oper} {a : Act} {w : World} {K : Act → World → Prop} {Q : Exit → Act → World → Prop} {E : Prop}
    (hg : o.guard = none) (f : FuncId) (x : Operand) (t : TypeId) (ho : o.op = .call { callee := .value (.func f), args := #[x], argTypes := #[t] })
    (he : ∀ args w, (callFunc f args).run P w = .ok (.enter f args) w) (v r : Value) (hx : a.eval x = v) (hc : ∀ w, Calls P f #[v] w fun e w' => e = .returned r ∧ w' = w) (hK : K (a.put o.dst r) w) :
    if Region.wanted o (yielded ops a.tmps) = true then Oper.wp P o a w K Q else E := by
  have hw : Region.wanted o (yielded ops a.tmps) = true := by simp [Region.wanted, hg]
  rw [if_pos hw]
  unfold Oper.wp
  simp [execOp, ho, resolve, invoke, hx, Result.andThen]
  simp [Act.eval, Deferred.ofValue, he]
  rw [Oper.upon_enter]
  refine (hc w).mono ?_
  rintro e w' ⟨rfl, rfl⟩
  exact hK
end Go.Proofs.YtmfeoiblhjfpjaaGreatDoor
/- The law's refs, the reference's Same: walks. -/
namespace Go.Proofs.YtmfeoiblhjfpjaaGreatDoor
open Go.RowKit

theorem tk_get : ∀ (l : List Tk) (k : Nat) (h : k < l.length) (j : Nat), j < 6 → (tkCells l)[k * 6 + j]? = (Tk.cells (l[k]'h))[j]?
  | [], k, h, _, _ => absurd h (Nat.not_lt_zero _)
  | x :: l, 0, _, j, hj => by
    have e : tkCells (x :: l) = Tk.cells x ++ tkCells l := by simp [tkCells]
    rw [e, Nat.zero_mul, Nat.zero_add, List.getElem?_append_left (by simpa [Tk.cells] using hj)]
    rfl
  | x :: l, k + 1, h, j, hj => by
    have e : tkCells (x :: l) = Tk.cells x ++ tkCells l := by simp [tkCells]
    have z : (Tk.cells x).length = 6 := rfl
    rw [e, List.getElem?_append_right (by omega), show (k + 1) * 6 + j - (Tk.cells x).length = k * 6 + j by omega]
    exact tk_get l k (by simpa using h) j hj
/-- The cells of a token in a row. -/
theorem toks_at {w : World} {a : Option Addr} {cap : Nat} {l : List Tk} (h : IsRow w 6 (.slice a l.length cap) l.length (tkCells l)) (k : Nat) (hk : k < l.length) :
    ∃ b off, a = some ⟨b, off, none⟩ ∧ b < w.heap.size ∧ w.cell? ⟨b, off + k * 6, none⟩ = some (.int .i64 l[k].k) ∧ w.cell? ⟨b, off + k * 6 + 1, none⟩ = some (.int .i64 l[k].p) ∧ w.cell? ⟨b, off + k * 6 + 2, none⟩ = some (.string (str l[k].s)) ∧ w.cell? ⟨b, off + k * 6 + 3, none⟩ = some (.int .i64 l[k].vk) ∧ w.cell? ⟨b, off + k * 6 + 4, none⟩ = some (.int .i64 l[k].vn) ∧ w.cell? ⟨b, off + k * 6 + 5, none⟩ = some (.string (str l[k].vs)) := by
  obtain ⟨b, off, cap', hv, hlt, _, _, hc⟩ := h.open (by omega)
  simp only [Value.slice.injEq] at hv
  have g := fun j hj u hu => hc (k * 6 + j) u ((tk_get l k hk j hj).trans hu)
  refine ⟨b, off, hv.1, hlt, ?_, ?_, ?_, ?_, ?_, ?_⟩
  · exact g 0 (by decide) _ rfl
  · rw [Nat.add_assoc]; exact g 1 (by decide) _ rfl
  · rw [Nat.add_assoc]; exact g 2 (by decide) _ rfl
  · rw [Nat.add_assoc]; exact g 3 (by decide) _ rfl
  · rw [Nat.add_assoc]; exact g 4 (by decide) _ rfl
  · rw [Nat.add_assoc]; exact g 5 (by decide) _ rfl
theorem info_rtok : (Tryz.prog.info? 47).map (fun i => (i.zero, i.size, i.bytes)) = some (some (.agg #[.int .i64 0, .int .i64 0, .string ⟨#[]⟩, .int .i64 0, .int .i64 0, .string ⟨#[]⟩]), 6, 64) := by kernel_rfl
set_option maxRecDepth 100000 in
set_option maxHeartbeats 2000000 in
/-- refs: the same tokens, in a row of the call's own. -/
theorem refs7_any (v : Value) (l : List Tk) (w : World) (h : IsRow w 6 v l.length (tkCells l)) (hl : l.length ≤ 100000) :
    Calls Tryz.prog 8 #[v] w fun e w' => ∃ v', e = .returned v' ∧ w'.ownsRow w.heap.size 47 6 v' l.length (tkCells l) ∧ Below w.heap.size w w' := by
  obtain ⟨a0, cap0, rfl⟩ := h.form
  obtain ⟨i0, hi0, hz0, hz1, hz2⟩ := info_parts info_rtok
  go_enter Tryz.func8, Tryz.ntmps8
  go_wp2
  go_loopw [3, 4] (fun t i wr => ∃ k : Nat, k ≤ l.length ∧ i = .int .i64 k ∧ wr.ownsRow w.heap.size 47 6 t k (tkCells (l.take k)) ∧ Below w.heap.size w wr) (fun _ i _ => l.length - (intOf i).toNat)
  case atStart => exact ⟨0, Nat.zero_le _, rfl, World.ownsRow_nil _ _ _ _, Below.refl _ _⟩
  case round =>
    obtain ⟨k, hk, rfl, hown, hb⟩ := hrel
    by_cases hlt : k < l.length
    · obtain ⟨b, off, rfl, hbl, c0, c1, c2, c3, c4, c5⟩ := toks_at (h.below hb) k hlt
      have hi : (k : Int) < l.length := by omega
      have HF : Hid (tkCells (l.take k) ++ Tk.cells l[k] = tkCells (l.take (k + 1))) := by show _ = _; rw [List.take_succ_eq_append_getElem hlt, tkCells_snoc]
      have HO : Hid (wr.ownsRow w.heap.size 47 6 u3 k (tkCells (l.take k))) := hown
      have h1c : ∀ u ∈ Tk.cells l[k], u.oneCell' = true := by intro u hu; simp [Tk.cells] at hu; rcases hu with rfl | rfl | rfl | rfl | rfl | rfl <;> rfl
      have hb1 : (k + 1) * 64 ≤ 140737488355328 := by omega
      have hb2 : k + 1 ≤ maxLen := by unfold maxLen; omega
      have hb3 : w.heap.size ≤ wr.heap.size := hb.size
      have HBr : Hid (Below w.heap.size w wr) := hb
      clear hown
      go_wp2
      go_region_law (refine step_appd rfl (.tmp 11) (.tmp 33) 33 47 rfl i0 _ 6 64 Tryz.underlying33 hi0 hz0 hz1 hz2 rfl (by decide) w.heap.size u3 k (tkCells (l.take k)) rfl HO.out (Tk.cells l[k]) rfl _ rfl rfl h1c hb1 hb2 hb3 ?_; intro v3 w3 hown3 hbw3 hst3 hform; obtain ⟨g3, c3, rfl⟩ := hform)
      all_goals go_wp2
      all_goals
        go_roundw
        case rel => exact ⟨k + 1, by omega, by go_num, by rw [← HF.out]; exact hown3, HBr.out.trans hbw3⟩
        case measure => simp [intOf]; omega
    · have hk' : k = l.length := by omega
      subst hk'
      have e : l.take l.length = l := List.take_of_length_le (Nat.le_refl _)
      rw [e] at hown
      have H1 : Hid (wr.ownsRow w.heap.size 47 6 u3 l.length (tkCells l)) := hown
      clear hown
      go_wp2
      go_ret
      exact ⟨_, rfl, H1.out, hb⟩
set_option maxRecDepth 100000 in
set_option maxHeartbeats 4000000 in
/-- Same, but for the places, of tokens that are the same but for their places. -/
theorem same7_any (v1 v2 : Value) (l m : List Tk) (w : World) (h1 : IsRow w 6 v1 l.length (tkCells l)) (h2 : IsRow w 6 v2 m.length (tkCells m)) (hl : l.length ≤ 100000)
    (hlm : m.length = l.length) (hs : ∀ (k : Nat) (h : k < l.length) (h' : k < m.length), l[k].k = m[k].k ∧ l[k].s = m[k].s ∧ l[k].vk = m[k].vk ∧ l[k].vn = m[k].vn ∧ l[k].vs = m[k].vs) :
    Calls Tryz.prog 7 #[v1, v2, .bool true] w fun e w' => e = .returned (.bool true) ∧ Below w.heap.size w w' := by
  obtain ⟨a1, cap1, rfl⟩ := h1.form
  obtain ⟨a2, cap2, rfl⟩ := h2.form
  have hlm' : (m.length : Int) = l.length := by omega
  go_enter Tryz.func7, Tryz.ntmps7
  go_wp2
  go_loopw [7] (fun i wr => ∃ k : Nat, k ≤ l.length ∧ i = .int .i64 k ∧ Below w.heap.size w wr) (fun i _ => l.length - (intOf i).toNat)
  case atStart => exact ⟨0, Nat.zero_le _, rfl, Below.refl _ _⟩
  case round =>
    obtain ⟨k, hk, rfl, hb⟩ := hrel
    by_cases hlt : k < l.length
    · obtain ⟨b, off, rfl, hbl, c0, c1, c2, c3, c4, c5⟩ := toks_at (h1.below hb) k hlt
      obtain ⟨b', off', rfl, hbl', d0, d1, d2, d3, d4, d5⟩ := toks_at (h2.below hb) k (by omega)
      obtain ⟨e1, e2, e3, e4, e5⟩ := hs k hlt (by omega)
      rw [← e1] at d0
      rw [← e2] at d2
      rw [← e3] at d3
      rw [← e4] at d4
      rw [← e5] at d5
      have hi : (k : Int) < l.length := by omega
      clear hs e1 e2 e3 e4 e5
      generalize str l[k].s = S at *
      generalize str l[k].vs = VS at *
      generalize l[k].k = K at *
      generalize l[k].vk = VK at *
      generalize l[k].vn = VN at *
      generalize l[k].p = PP at *
      generalize m[k].p = PQ at *
      go_wp2
      go_region
      all_goals go_wp2
      all_goals go_roundw
      case rel => exact ⟨k + 1, by omega, by go_num, hb.drew⟩
      case measure => simp [intOf]; omega
    · have hk' : k = l.length := by omega
      subst hk'
      go_wp2
      go_ret
      exact ⟨rfl, hb⟩
end Go.Proofs.YtmfeoiblhjfpjaaGreatDoor
/- lex.show, lex.Show: walks. -/
namespace Go.Proofs.YtmfeoiblhjfpjaaGreatDoor
open Go.RowKit

/-- What stands in the variables that lexing and showing read. -/
structure VEP (w : World) : Prop where
  v : VE w
  p : P10 w
theorem VEP.below {w w' : World} (h : VEP w) (hb : Below w.heap.size w w') : VEP w' := ⟨h.v.below hb, P10_below h.p hb⟩
theorem chk_ok7 {k n : Int} {s : List UInt8} (h : okL k n s) : chkV k n (str s) = true := by
  rcases h with ⟨rfl, rfl, h1, h2⟩ | ⟨rfl, rfl, h1, h2⟩ | ⟨rfl, rfl, h1⟩ | ⟨rfl, rfl, h1⟩
  · unfold chkV
    rw [if_pos rfl, Bool.and_eq_true, decide_eq_true_eq, decide_eq_true_eq]
    exact ⟨rfl, h1, h2⟩
  · unfold chkV
    rw [if_neg (by decide), if_pos rfl, Bool.and_eq_true, Bool.and_eq_true, decide_eq_true_eq, decide_eq_true_eq, str_size, str_data]
    exact ⟨rfl, h1, h2⟩
  · unfold chkV
    rw [if_neg (by decide), if_neg (by decide), if_pos rfl, Bool.and_eq_true, decide_eq_true_eq, decide_eq_true_eq]
    exact ⟨rfl, h1⟩
  · unfold chkV
    rw [if_neg (by decide), if_neg (by decide), if_neg (by decide), if_pos rfl, Bool.and_eq_true, decide_eq_true_eq, decide_eq_true_eq, str_size]
    exact ⟨rfl, h1⟩
theorem shw_is7 {k n : Int} {s : ByteArray} (h : chkV k n s = true) : shwV k n s = str (shwL k n s.data.toList) := by
  unfold shwV shwL
  rw [if_pos h]
  by_cases k1 : k = 1
  · rw [if_pos k1, if_pos k1]
  rw [if_neg k1, if_neg k1]
  by_cases k3 : k = 3
  · rw [if_pos k3, if_pos k3]
    by_cases hn : n = 1
    · rw [if_pos (by rw [hn]; rfl), if_pos hn]; rfl
    · rw [if_neg (by simpa using hn), if_neg hn]; rfl
  rw [if_neg k3, if_neg k3]
  by_cases k4 : k = 4
  · rw [if_pos k4, if_pos k4]
  · rw [if_neg k4, if_neg k4]
    rfl
theorem ok_size {k n : Int} {s : List UInt8} (h : okL k n s) : s.length ≤ 1000 := by
  rcases h with ⟨rfl, rfl, h1, h2⟩ | ⟨rfl, rfl, h1, h2⟩ | ⟨rfl, rfl, h1⟩ | ⟨rfl, rfl, h1⟩
  all_goals first | (simp; done) | omega
set_option maxRecDepth 100000 in
theorem show_tk (t : Tk) (w : World) (hk : t.k = 1 ∨ t.k = 2 ∧ okL t.vk t.vn t.vs ∨ t.k = 3) (h : VEP w) :
    Calls Tryz.prog 15 #[tv t.k t.p (str t.s) t.vk t.vn (str t.vs)] w fun e w' => e = .returned (.string (str (shTk t))) ∧ Below w.heap.size w w' := by
  obtain ⟨k, p, s, vk, vn, vs⟩ := t
  rcases hk with rfl | ⟨rfl, hok⟩ | rfl
  · have e : shTk ⟨1, p, s, vk, vn, vs⟩ = s := rfl
    rw [e]
    go_enter Tryz.func15, Tryz.ntmps15
    go_wp2
    go_ret
    exact ⟨rfl, al_below6 w _⟩
  · have e : shTk ⟨2, p, s, vk, vn, vs⟩ = shwL vk vn vs := rfl
    have hok : okL vk vn vs := hok
    rw [e]
    have HS : Hid (∀ w, VEP w → Calls Tryz.prog 24 #[vv vk vn (str vs)] w fun e w' => e = .returned (.string (str (shwL vk vn vs))) ∧ Below w.heap.size w w') := fun w h => by
      have := show_any vk vn (str vs) w (by have := ok_size hok; rw [str_size]; omega) h.v.u h.v.t h.p
      rw [shw_is7 (chk_ok7 hok), str_data] at this
      exact this
    go_enter Tryz.func15, Tryz.ntmps15
    go_wp2_with fail
    refine (HS.out _ (h.below (al_below6 w _))).mono ?_
    rintro e w1 ⟨rfl, hb1⟩
    have HB : Hid (Below w.heap.size w w1) := (al_below6 w _).trans (hb1.mono (by simp))
    clear hb1
    go_wp2
    go_ret
    exact ⟨rfl, HB.out⟩
  · have e : shTk ⟨3, p, s, vk, vn, vs⟩ = s := rfl
    rw [e]
    go_enter Tryz.func15, Tryz.ntmps15
    go_wp2
    go_ret
    exact ⟨rfl, al_below6 w _⟩
theorem info_st7 : (Tryz.prog.info? 9).map (fun i => (i.zero, i.size, i.bytes)) = some (some (.string ⟨#[]⟩), 1, 16) := by kernel_rfl
theorem sc_take (l : List Tk) (k : Nat) (hk : k < l.length) : sCells ((l.take (k + 1)).map shTk) = sCells ((l.take k).map shTk) ++ [.string (str (shTk l[k]))] := by
  unfold sCells
  rw [List.take_succ_eq_append_getElem hk, List.map_append, List.map_append]
  rfl
set_option maxRecDepth 100000 in
set_option maxHeartbeats 2000000 in
theorem show_all (v : Value) (l : List Tk) (w : World) (hr : IsRow w 6 v l.length (tkCells l)) (hl : l.length ≤ 300) (hk : ∀ t ∈ l, t.k = 1 ∨ t.k = 2 ∧ okL t.vk t.vn t.vs ∨ t.k = 3) (hs : ∀ t ∈ l, (shTk t).length ≤ 2000) (h : VEP w) :
    Calls Tryz.prog 6 #[v] w fun e w' => e = .returned (.string (str (joinT l))) ∧ Below w.heap.size w w' := by
  obtain ⟨a0, cap0, rfl⟩ := hr.form
  rw [joinT_join]
  have HR : Hid (IsRow w 6 (.slice a0 l.length cap0) l.length (tkCells l)) := hr
  have HK : Hid (∀ t ∈ l, t.k = 1 ∨ t.k = 2 ∧ okL t.vk t.vn t.vs ∨ t.k = 3) := hk
  have HJ : Hid ((Lib.join (l.map shTk) [32]).length ≤ 1000000) := by
    have := joinT_len 2000 l hs
    rw [joinT_join] at this
    have h2 : l.length * (2000 + 1) ≤ 300 * 2001 := Nat.mul_le_mul_right _ hl
    show _ ≤ _
    omega
  clear hr hk hs
  obtain ⟨i0, hi0, hz0, hz1, hz2⟩ := info_parts info_st7
  have hb2 : i0.bytes * l.length ≤ 281474976710656 := by rw [hz2]; omega
  have hb3 : l.length ≤ maxLen := by unfold maxLen; omega
  go_enter Tryz.func6, Tryz.ntmps6
  go_wp2_with (at_make; go_loud (refine wpList_make_own _ rfl (.const (.int .i64 0)) (.tmp 7) 42 rfl w.heap.size 9 i0 _ 1 Tryz.underlying42 hi0 hz0 hz1 .i64 .i64 _ l.length rfl rfl rfl hb2 hb3 (Nat.le_refl _) ?_; intro w1 hown1 hg1))
  have hB1 : Below w.heap.size w w1 := (Below.refl _ _).grown hg1 (Nat.le_refl _) (fun k hk => by cases hk)
  clear hg1
  go_wp2_with fail
  go_loopw [3, 11] (fun o i wr => ∃ k : Nat, k ≤ l.length ∧ i = .int .i64 (k : Int) ∧ wr.ownsRow w.heap.size 9 1 o k (sCells ((l.take k).map shTk)) ∧ Below w.heap.size w wr) (fun _ i _ => l.length - (intOf i).toNat)
  case atStart => exact ⟨0, Nat.zero_le _, rfl, hown1, hB1⟩
  case round =>
    obtain ⟨k, hkl, rfl, hown, hB⟩ := hrel
    have hsz := hB.size
    by_cases hlk : k < l.length
    · have dk : decide ((k : Int) < l.length) = true := by simp; omega
      obtain ⟨b, off, rfl, hlt, k0, k1, k2, k3, k4, k5⟩ := toks_at (HR.out.below hB) k hlk
      have HSh : Hid (∀ w, VEP w → Calls Tryz.prog 15 #[tv l[k].k l[k].p (str l[k].s) l[k].vk l[k].vn (str l[k].vs)] w fun e w' => e = .returned (.string (str (shTk l[k]))) ∧ Below w.heap.size w w') := fun w h => show_tk l[k] w (HK.out _ (List.getElem_mem hlk)) h
      have HT : Hid (sCells ((l.take (k + 1)).map shTk) = sCells ((l.take k).map shTk) ++ [.string (str (shTk l[k]))]) := sc_take l k hlk
      have hVr : VEP wr := h.below hB
      obtain ⟨tk, htk⟩ : ∃ tk, tk = l[k] := ⟨_, rfl⟩
      rw [← htk] at HSh HT k0 k1 k2 k3 k4 k5
      clear htk
      obtain ⟨tk1, tk2, tk3, tk4, tk5, tk6⟩ := tk
      simp only at HSh k0 k1 k2 k3 k4 k5
      have HO : Hid (wr.ownsRow w.heap.size 9 1 u3 k (sCells ((l.take k).map shTk))) := hown
      clear hown
      have hA := al_below6 wr (.cells #[.int .i64 tk1, .int .i64 tk2, .string (str tk3), .int .i64 tk4, .int .i64 tk5, .string (str tk6)] 30)
      go_wp2_with fail
      refine (HSh.out _ (hVr.below hA)).mono ?_
      rintro e w3 ⟨rfl, hb3⟩
      have hB3 : Below wr.heap.size wr w3 := hA.trans (hb3.mono (by simp))
      have hs3 := hB3.size
      have HO3 : Hid (w3.ownsRow w.heap.size 9 1 u3 k (sCells ((l.take k).map shTk))) := own_below6 HO.out hB3
      have HW3 : Hid (Below w.heap.size w w3) := hB.trans (hB3.mono hsz)
      generalize str (shTk ⟨tk1, tk2, tk3, tk4, tk5, tk6⟩) = z at *
      clear HSh HO hB hA hb3 hB3 k0 k1 k2 k3 k4 k5
      go_wp2_with (at_builtin; go_loud (refine wpl_app w3 rfl (.tmp 15) (.tmp 18) 42 9 rfl i0 _ 16 Tryz.underlying42 hi0 hz0 hz1 hz2 rfl w.heap.size u3 k _ rfl HO3.out (.string z) rfl rfl (by omega) (by unfold maxLen; omega) (by omega) ?_; intro v4 w4 hown4 hb4 hne4))
      have HO4 : Hid (w4.ownsRow w.heap.size 9 1 v4 (k + 1) (sCells ((l.take (k + 1)).map shTk))) := by show World.ownsRow _ _ _ _ _ _ _; rw [HT.out]; exact hown4
      have HB4 : Hid (Below w.heap.size w w4) := HW3.out.trans hb4
      clear hown4 hb4 HT HO3 HW3
      go_wp2
      go_roundw
      case rel => exact ⟨k + 1, by omega, by simp, HO4.out, HB4.out⟩
      case measure => simp [intOf]; omega
    · have hk' : k = l.length := by omega
      subst hk'
      have dk : decide ((l.length : Int) < l.length) = false := by simp
      rw [List.take_of_length_le (Nat.le_refl _)] at hown
      have HJn : Hid (∀ v w, IsRow w 1 v (l.map shTk).length (sCells (l.map shTk)) → Calls Tryz.prog 16 #[v, .string ⟨#[32]⟩] w fun e w' => e = .returned (.string (str (Lib.join (l.map shTk) [32]))) ∧ Below w.heap.size w w') := fun v w h => join_any v (l.map shTk) w h (by rw [List.length_map]; omega) HJ.out
      have HO : Hid (wr.ownsRow w.heap.size 9 1 u3 l.length (sCells (l.map shTk))) := hown
      clear hown
      go_wp2_with fail
      refine (HJn.out u3 wr (by rw [List.length_map]; exact IsRow.own HO.out)).mono ?_
      rintro e w2 ⟨rfl, hb2⟩
      have HB : Hid (Below w.heap.size w w2) := hB.trans (hb2.mono hsz)
      clear hb2 hB
      go_wp2
      go_ret
      exact ⟨rfl, HB.out⟩
end Go.Proofs.YtmfeoiblhjfpjaaGreatDoor
