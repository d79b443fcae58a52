/- lex.Lex at any text: its walk. -/
import Derived.Test.YtdendpckihckeaaDoorZb11
import Derived.Test.YtdendpckihckeaaDoorZb4
import Derived.Test.YtdendpckihckeaaDoorZb1
import Derived.Lib.Bytealg
import Derived.Test.YtdendpckihckeaaDoorZb10
import Derived.Test.YtdendpckihckeaaDoorZb9
namespace Go.Proofs.YtdendpckihckeaaDoor
open Go.RowKit

theorem own_ne_iter6 {w : World} {base : Nat} {e : TypeId} {sz : Nat} {v : Value} {n : Nat} {xs : List Value} (h : w.ownsRow base e sz v n xs) {k : Nat} {s : ByteArray} {p : Nat} (hk : w.heap[k]? = some (.stringIter s p)) : v.ownBlock ≠ some k := by
  intro e
  rcases h.2 with ⟨hv, _⟩ | ⟨g, cap, cur, hv, _, hg, _⟩
  · rw [hv] at e; cases e
  · rw [hv] at e
    cases e
    rw [hk] at hg
    cases hg
theorem own_iter6 {w : World} {base : Nat} {e : TypeId} {sz : Nat} {v : Value} {n : Nat} {xs : List Value} (h : w.ownsRow base e sz v n xs) {k : Nat} {s : ByteArray} {p : Nat} (hk : w.heap[k]? = some (.stringIter s p)) (p' : Nat) : (w.iterAt k s p').ownsRow base e sz v n xs :=
  h.kept (row := some k) ⟨rfl, rfl, rfl, by rw [Lib.iterAt_size]; exact Nat.le_refl _, fun j _ hj => Lib.iterAt_other w k j s p' (fun e => hj (by rw [e]))⟩ (.inr (own_ne_iter6 h hk))
theorem own_below6 {w w1 : World} {base : Nat} {e : TypeId} {sz : Nat} {v : Value} {n : Nat} {xs : List Value} (h : w.ownsRow base e sz v n xs) (hb : Below w.heap.size w w1) : w1.ownsRow base e sz v n xs :=
  h.kept (row := none) ⟨hb.os, hb.tape, hb.output, hb.size, fun k hk _ => hb.block k hk⟩ (by cases hv : v.ownBlock <;> simp)
theorem al_below6 (w : World) (o : Obj) : Below w.heap.size w (w.alloc o) := (Below.refl _ _).alloc (Nat.le_refl _) _
theorem info_tok : (Tryd.prog.info? 35).map (fun i => (i.zero, i.size, i.bytes)) = some (some (.agg #[.int .i64 0, .int .i64 0, .string ⟨#[]⟩, .int .i64 0, .int .i64 0, .string ⟨#[]⟩]), 6, 64) := by kernel_rfl
/-- What Lex leaves. -/
def LxPost (x : Lx) (w : World) (e : Ending) (w' : World) : Prop :=
  ∃ v, e = .returned (.tuple #[v, .int .i64 x.a, .int .i64 x.e]) ∧ IsRow w' 6 v x.l.length (tkCells x.l) ∧ Below w.heap.size w w'
/-- What holds of Lex's loop at every round. -/
def LxRel (s : ByteArray) (w : World) (k0 : Nat) (t a n l : Value) (wr : World) : Prop :=
  ∃ (pos at' en : Nat) (long : Int) (acc : List Tk), a = .int .i64 (at' : Int) ∧ n = .int .i64 (en : Int) ∧ l = .int .i64 long ∧ wr.ownsRow (k0 + 1) 35 6 t acc.length (tkCells acc) ∧ wr.heap[k0]? = some (.stringIter s pos) ∧ Below w.heap.size w wr ∧
    pos ≤ s.size ∧ at' ≤ pos ∧ acc.length ≤ at' ∧ en ≤ 2 * s.size ∧ -1 ≤ long ∧ long ≤ pos ∧ lxs (s.data.toList.drop pos) pos at' en long acc = lxs s.data.toList 0 0 0 (-1) []
theorem cut_size (l : List UInt8) : (cutL l).z ≤ l.length ∧ ((cutL l).e = 0 ∨ (cutL l).e = 2 ∨ (cutL l).e = 3) := by
  unfold cutL
  split
  · exact ⟨Nat.zero_le _, .inr (.inl rfl)⟩
  split
  · exact ⟨Nat.sub_le _ _, .inl rfl⟩
  split
  · refine ⟨?_, .inl rfl⟩
    show wsz l ≤ _
    unfold wsz
    split
    · exact wgo_le _ _ (Nat.le_refl _)
    · exact Nat.zero_le _
  split
  · refine ⟨?_, .inl rfl⟩
    show msz l ≤ _
    rename_i hm
    unfold msz at hm ⊢
    split
    · rename_i hp
      rcases hp with hp | hp | hp <;> exact pre_len hp
    · rename_i hp
      rw [if_neg hp] at hm
      split at hm
      · rename_i hi
        rw [if_pos hi]
        cases l with
        | nil => exfalso; revert hi; decide
        | cons b t => simp
      · simp at hm
  · exact ⟨Nat.zero_le _, .inr (.inr rfl)⟩
/-- A next round. -/
theorem lx_again {s : ByteArray} {w W W3 : World} {k0 : Nat} {t av nv lv : Value} {pos at' en M : Nat} {long : Int} {acc : List Tk} {X : Lx} (HXX : Hid (lxs s.data.toList 0 0 0 (-1) [] = X))
    (HX : Hid (X = lxs (s.data.toList.drop pos) pos at' en long acc)) (ha : av = .int .i64 (at' : Int)) (hn : nv = .int .i64 (en : Int)) (hl : lv = .int .i64 long) (hit : W.heap[k0]? = some (.stringIter s pos))
    (HB : Hid (Below (k0 + 1) W W3)) (hbw : Below w.heap.size w W) (hk : w.heap.size ≤ k0) (HO : Hid (W3.ownsRow (k0 + 1) 35 6 t acc.length (tkCells acc)))
    (h1 : pos ≤ s.size) (h2 : at' ≤ pos) (h3 : acc.length ≤ at') (h4 : en ≤ 2 * s.size) (h5 : -1 ≤ long) (h6 : long ≤ pos) (hm : Hid (s.size - pos < M)) :
    LxRel s w k0 t av nv lv W3 ∧ s.size - W3.iterPos k0 < M := by
  have hi3 : W3.heap[k0]? = some (.stringIter s pos) := (HB.out.block k0 (Nat.lt_succ_self _)).trans hit
  refine ⟨⟨pos, at', en, long, acc, ha, hn, hl, HO.out, hi3, hbw.trans (HB.out.mono (by omega)), h1, h2, h3, h4, h5, h6, HX.out.symm.trans HXX.out.symm⟩, ?_⟩
  rw [iterPos_of hi3]
  exact hm.out
set_option maxRecDepth 100000 in
set_option maxHeartbeats 8000000 in
theorem lex_any (s : ByteArray) (w : World) (hs : s.size ≤ 1000000) (h : VE w) :
    Calls Tryd.prog 5 #[.string s] w fun e w' => LxPost (lexL s.data.toList) w e w' := by
  obtain ⟨i0, hi0, hz0, hz1, hz2⟩ := info_parts info_tok
  have HVs : Hid (∀ w, UT w → Calls Tryd.prog 10 #[.string s] w fun e w' => e = .returned (.bool (Lib.validD s.data.toList)) ∧ Below w.heap.size w w') := fun w hU => Tryd.utf8_ValidString s w (by omega) hU
  cases hv : Lib.validD s.data.toList
  · have HX : Hid (lexL s.data.toList = ⟨[], 0, 3⟩) := by show _ = _; unfold lexL; rw [if_neg (by rw [hv]; decide)]
    rw [HX.out]
    rw [hv] at HVs
    clear hv HX
    go_enter Tryd.func5, Tryd.ntmps5
    go_wp2_with fail
    refine (HVs.out _ h.u).mono ?_
    rintro e0 w1 ⟨rfl, hb1⟩
    go_wp2
    go_ret3
    exact ⟨_, rfl, IsRow.nil _ _, hb1⟩
  · have HX : Hid (lexL s.data.toList = lxs s.data.toList 0 0 0 (-1) []) := by show _ = _; unfold lexL; rw [if_pos hv]; rfl
    rw [HX.out]
    rw [hv] at HVs
    clear hv HX
    go_enter Tryd.func5, Tryd.ntmps5
    go_wp2_with fail
    refine (HVs.out _ h.u).mono ?_
    rintro e0 w1 ⟨rfl, hb1⟩
    have hs1 := hb1.size
    go_wp2_with fail
    go_loopw [2, 3, 4, 5, 6] (fun t a e n l wr => e = .int .i64 0 ∧ LxRel s w w1.heap.size t a n l wr) (fun _ _ _ _ _ wr => s.size - wr.iterPos w1.heap.size)
    case atStart =>
      exact ⟨rfl, 0, 0, 0, -1, [], rfl, rfl, rfl, World.ownsRow_nil _ _ _ _, World.iter_heap w1 s 0, hb1.alloc hs1 _, Nat.zero_le _, Nat.le_refl _, Nat.le_refl _, Nat.zero_le _, by decide, by decide, rfl⟩
    case round =>
      obtain ⟨rfl, pos, at', en, long, acc, rfl, rfl, rfl, hown, hit, hbw, hps, hat, hac, hen, hl1, hl2, hck⟩ := hrel
      have HC : Hid (lxs (s.data.toList.drop pos) pos at' en long acc = lxs s.data.toList 0 0 0 (-1) []) := hck
      clear hck
      obtain ⟨X, HXX⟩ : ∃ X, Hid (lxs s.data.toList 0 0 0 (-1) [] = X) := ⟨_, rfl⟩
      have hszr : w1.heap.size < wr.heap.size := (Array.getElem?_eq_some_iff.1 hit).1
      by_cases hp : pos < s.size
      · have hnx : ∀ ty, (Instr.next (.pointer (some ⟨w1.heap.size, 0, none⟩)) true ty).run Tryd.prog wr = _ := fun ty => Lib.run_next_any_at wr w1.heap.size s pos ty hit hp
        have hwd := Lib.decode_width_pos s pos hp
        have hit2 := Lib.iterAt_heap wr w1.heap.size s pos (pos + (Utf8.decode s pos).2) hit
        have hbw2 := Lib.below_iterAt hbw (k := w1.heap.size) hs1 s (pos + (Utf8.decode s pos).2)
        have hown2 := own_iter6 hown hit (pos + (Utf8.decode s pos).2)
        have hne2 := own_ne_iter6 hown hit
        have hrl := Lib.rune_le s pos
        have hwl := width_le s pos hp
        have hmeas : Hid (s.size - (pos + (Utf8.decode s pos).2) < s.size - wr.iterPos w1.heap.size) := by
          show _ < _
          rw [iterPos_of hit]; omega
        have hmp : Hid ((wr.iterAt w1.heap.size s (pos + (Utf8.decode s pos).2)).iterPos w1.heap.size = pos + (Utf8.decode s pos).2) := iterPos_of hit2
        have hWs : w1.heap.size < (wr.iterAt w1.heap.size s (pos + (Utf8.decode s pos).2)).heap.size := by rw [Lib.iterAt_size]; exact hszr
        have HS : Hid (X = if en ≤ pos ∧ blankN (Utf8.decode s pos).1 = false then
            if (cutL (s.extract pos s.size).data.toList).e = 3 then ⟨[], at', 3⟩
            else if (cutL (s.extract pos s.size).data.toList).e = 2 then ⟨[], if long < 0 then at' else long, 2⟩
            else if long < 0 ∧ acc.length ≠ 300 then lxs (s.data.toList.drop (pos + (Utf8.decode s pos).2)) (pos + (Utf8.decode s pos).2) (at' + 1) (pos + (cutL (s.extract pos s.size).data.toList).z) long (acc ++ [{ (cutL (s.extract pos s.size).data.toList).t with p := at' }])
            else lxs (s.data.toList.drop (pos + (Utf8.decode s pos).2)) (pos + (Utf8.decode s pos).2) (at' + 1) (pos + (cutL (s.extract pos s.size).data.toList).z) (if long < 0 then at' else long) acc
          else lxs (s.data.toList.drop (pos + (Utf8.decode s pos).2)) (pos + (Utf8.decode s pos).2) (at' + 1) en long acc) := by
          show _ = _
          rw [← HXX.out, ← HC.out, lxs_step (drop_ne s pos hp), Lib.decodeL_drop, List.drop_drop, sub_list]
        have HCt : Hid (∀ w, VE w → Calls Tryd.prog 12 #[.string (s.extract pos s.size)] w fun e w' => e = .returned (ctV (cutL (s.extract pos s.size).data.toList)) ∧ Below w.heap.size w w') := fun w h => cut_any _ w (by rw [ByteArray.size_extract]; omega) (by rw [ByteArray.size_extract]; omega) h
        have hcz := cut_size (s.extract pos s.size).data.toList
        rw [← Lib.size_eq, ByteArray.size_extract] at hcz
        clear HC
        generalize (Utf8.decode s pos).1 = c at *
        generalize (Utf8.decode s pos).2 = d at *
        generalize hW : wr.iterAt w1.heap.size s (pos + d) = W at *
        clear hW
        have HB : Hid (∀ w : World, Calls Tryd.prog 11 #[.int .i32 (c : Int)] w fun e w' => e = .returned (.bool (blankN c)) ∧ w' = w) := fun w => blank_any c w
        have HVE : Hid (VE W) := h.below hbw2
        by_cases hg : pos < en
        · have HR : Hid (LxRel s w w1.heap.size u2 (.int .i64 ((at' : Int) + 1)) (.int .i64 (en : Int)) (.int .i64 long) W) :=
            ⟨pos + d, at' + 1, en, long, acc, by simp, rfl, rfl, hown2, hit2, hbw2, by omega, by omega, by omega, by omega, hl1, by omega, by rw [HXX.out, HS.out, if_neg (by omega)]⟩
          have dg : decide ((en : Int) ≤ pos) = false := by simp; omega
          clear HS HCt hcz hown hown2 HB HVE
          go_wp2
          go_roundw
          case rel => exact ⟨rfl, HR.out⟩
          case measure => rw [hmp.out]; exact hmeas.out
        have dg : decide ((en : Int) ≤ pos) = true := by simp; omega
        cases hbc : blankN c
        rotate_left
        · have HR : Hid (LxRel s w w1.heap.size u2 (.int .i64 ((at' : Int) + 1)) (.int .i64 (en : Int)) (.int .i64 long) W) :=
            ⟨pos + d, at' + 1, en, long, acc, by simp, rfl, rfl, hown2, hit2, hbw2, by omega, by omega, by omega, by omega, hl1, by omega, by rw [HXX.out, HS.out, if_neg (by rw [hbc]; simp)]⟩
          rw [hbc] at HB
          clear HS HCt hcz hown hown2 HVE hbc
          go_wp2_with fail
          refine (HB.out _).mono ?_
          rintro e0 w2 ⟨rfl, hw2⟩
          subst hw2
          go_wp2
          go_roundw
          case rel => exact ⟨rfl, HR.out⟩
          case measure => rw [hmp.out]; exact hmeas.out
        have HS2 := HS.out
        rw [if_pos ⟨by omega, hbc⟩] at HS2
        rw [hbc] at HB
        clear HS hbc
        generalize cutL (s.extract pos s.size).data.toList = x at *
        obtain ⟨⟨k, q, S, vk, vn, vs⟩, z, e⟩ := x
        have HC3 : Hid (∀ w, VE w → Calls Tryd.prog 12 #[.string (s.extract pos s.size)] w fun e0 w' => e0 = .returned (.tuple #[tv k q (str S) vk vn (str vs), .int .i64 (z : Int), .int .i64 e]) ∧ Below w.heap.size w w') := HCt.out
        clear HCt
        simp only at HS2 hcz
        obtain ⟨a0, cap0, hu⟩ := (IsRow.own hown2).form
        subst hu
        rcases hcz with ⟨hz, rfl | rfl | rfl⟩
        · rw [if_neg (by decide), if_neg (by decide)] at HS2
          by_cases hl : long < 0
          · have dl : decide (long < 0) = true := by simpa using hl
            by_cases hn : acc.length = 300
            · rw [if_neg (by omega), if_pos hl] at HS2
              have HS3 : Hid (X = lxs (s.data.toList.drop (pos + d)) (pos + d) (at' + 1) (pos + z) (at' : Int) acc) := HS2
              have dn : ((acc.length : Int) == 300) = true := by rw [beq_iff_eq]; omega
              have da : decide ((at' : Int) < 0) = false := by simp
              clear HS2
              go_wp2_with fail
              refine (HB.out _).mono ?_
              rintro e0 w2 ⟨rfl, hw2⟩
              subst hw2
              go_wp2_with fail
              refine (HC3.out _ HVE.out).mono ?_
              rintro e0 w3 ⟨rfl, hb3⟩
              have hs3 := hb3.size
              have HO3 : Hid ((w3.alloc (.cells #[.int .i64 k, .int .i64 q, .string (str S), .int .i64 vk, .int .i64 vn, .string (str vs)] 35)).ownsRow (w1.heap.size + 1) 35 6 (.slice a0 acc.length cap0) acc.length (tkCells acc)) := own_below6 (own_below6 hown2 hb3) (al_below6 _ _)
              have HBb : Hid (Below (w1.heap.size + 1) w2 (w3.alloc (.cells #[.int .i64 k, .int .i64 q, .string (str S), .int .i64 vk, .int .i64 vn, .string (str vs)] 35))) := (hb3.mono hWs).alloc (by omega) _
              clear hown hown2 hb3
              go_wp2
              rw [hn] at HO3
              have HF := lx_again (av := .int .i64 ((at' : Int) + 1)) (nv := .int .i64 ((pos : Int) + z)) (lv := .int .i64 (at' : Int)) HXX HS3 (by simp) (by simp) rfl hit2 HBb hbw2 hs1 (by rw [hn]; exact HO3) (by omega) (by omega) (by omega) (by omega) (by omega) (by omega) hmeas
              exact ⟨⟨rfl, HF.1⟩, HF.2⟩
            · rw [if_pos ⟨hl, hn⟩] at HS2
              have HS3 : Hid (X = lxs (s.data.toList.drop (pos + d)) (pos + d) (at' + 1) (pos + z) long (acc ++ [⟨k, at', S, vk, vn, vs⟩])) := HS2
              have dn : ((acc.length : Int) == 300) = false := by rw [beq_eq_false_iff_ne]; omega
              clear HS2
              go_wp2_with fail
              refine (HB.out _).mono ?_
              rintro e0 w2 ⟨rfl, hw2⟩
              subst hw2
              go_wp2_with fail
              refine (HC3.out _ HVE.out).mono ?_
              rintro e0 w3 ⟨rfl, hb3⟩
              have hs3 := hb3.size
              have HO3 : Hid ((w3.alloc (.cells #[.int .i64 k, .int .i64 (at' : Int), .string (str S), .int .i64 vk, .int .i64 vn, .string (str vs)] 35)).ownsRow (w1.heap.size + 1) 35 6 (.slice a0 acc.length cap0) acc.length (tkCells acc)) := own_below6 (own_below6 hown2 hb3) (al_below6 _ _)
              have HBb : Hid (Below (w1.heap.size + 1) w2 (w3.alloc (.cells #[.int .i64 k, .int .i64 (at' : Int), .string (str S), .int .i64 vk, .int .i64 vn, .string (str vs)] 35))) := (hb3.mono hWs).alloc (by omega) _
              clear hown hown2 hb3
              go_wp2_with (at_builtin; refine wpln6 _ rfl (.tmp 59) (.tmp 61) 24 35 rfl i0 _ 6 64 Tryd.underlying24 hi0 hz0 hz1 hz2 rfl (by decide) (w1.heap.size + 1) (.slice a0 acc.length cap0) acc.length (tkCells acc) rfl HO3.out (Tk.cells ⟨k, at', S, vk, vn, vs⟩) rfl _ rfl (w3.heap.size + 1) (by simp) rfl (by intro u hu; simp [Tk.cells] at hu; rcases hu with rfl | rfl | rfl | rfl | rfl | rfl <;> rfl) (by omega) (by unfold maxLen; omega) (by simp; omega) ?_; intro v5 w5 hown5 hb5)
              have HO5 : Hid (w5.ownsRow (w1.heap.size + 1) 35 6 v5 (acc ++ [Tk.mk k at' S vk vn vs]).length (tkCells (acc ++ [⟨k, at', S, vk, vn, vs⟩]))) := by
                show World.ownsRow _ _ _ _ _ _ _
                rw [tkCells_snoc, List.length_append]
                exact hown5
              have HB5 : Hid (Below (w1.heap.size + 1) w2 w5) := HBb.out.trans hb5
              have HF := lx_again (av := .int .i64 ((at' : Int) + 1)) (nv := .int .i64 ((pos : Int) + z)) (lv := .int .i64 long) HXX HS3 (by simp) (by simp) rfl hit2 HB5 hbw2 hs1 HO5 (by omega) (by omega) (by simp; omega) (by omega) (by omega) (by omega) hmeas
              exact ⟨⟨rfl, HF.1⟩, HF.2⟩
          · have dl : decide (long < 0) = false := by simpa using hl
            rw [if_neg (by omega), if_neg hl] at HS2
            have HS3 : Hid (X = lxs (s.data.toList.drop (pos + d)) (pos + d) (at' + 1) (pos + z) long acc) := HS2
            clear HS2
            go_wp2_with fail
            refine (HB.out _).mono ?_
            rintro e0 w2 ⟨rfl, hw2⟩
            subst hw2
            go_wp2_with fail
            refine (HC3.out _ HVE.out).mono ?_
            rintro e0 w3 ⟨rfl, hb3⟩
            have hs3 := hb3.size
            have HO3 : Hid ((w3.alloc (.cells #[.int .i64 k, .int .i64 q, .string (str S), .int .i64 vk, .int .i64 vn, .string (str vs)] 35)).ownsRow (w1.heap.size + 1) 35 6 (.slice a0 acc.length cap0) acc.length (tkCells acc)) := own_below6 (own_below6 hown2 hb3) (al_below6 _ _)
            have HBb : Hid (Below (w1.heap.size + 1) w2 (w3.alloc (.cells #[.int .i64 k, .int .i64 q, .string (str S), .int .i64 vk, .int .i64 vn, .string (str vs)] 35))) := (hb3.mono hWs).alloc (by omega) _
            clear hown hown2 hb3
            go_wp2
            have HF := lx_again (av := .int .i64 ((at' : Int) + 1)) (nv := .int .i64 ((pos : Int) + z)) (lv := .int .i64 long) HXX HS3 (by simp) (by simp) rfl hit2 HBb hbw2 hs1 HO3 (by omega) (by omega) (by omega) (by omega) (by omega) (by omega) hmeas
            exact ⟨⟨rfl, HF.1⟩, HF.2⟩
        · rw [if_neg (by decide), if_pos rfl] at HS2
          by_cases hl : long < 0
          · have dl : decide (long < 0) = true := by simpa using hl
            rw [if_pos hl] at HS2
            have HS3 : Hid (X = ⟨[], at', 2⟩) := HS2
            have da : decide (0 ≤ (at' : Int)) = true := by simp
            clear HS2
            go_wp2_with fail
            refine (HB.out _).mono ?_
            rintro e0 w2 ⟨rfl, hw2⟩
            subst hw2
            go_wp2_with fail
            refine (HC3.out _ HVE.out).mono ?_
            rintro e0 w3 ⟨rfl, hb3⟩
            have hs3 := hb3.size
            have HBb : Hid (Below w.heap.size w (w3.alloc (.cells #[.int .i64 k, .int .i64 q, .string (str S), .int .i64 vk, .int .i64 vn, .string (str vs)] 35))) := (hbw2.trans (hb3.mono hbw2.size)).alloc (by omega) _
            clear hown hown2 hb3
            go_wp2
            go_ret3
            exact ⟨_, by rw [HXX.out, HS3.out]; rfl, by rw [HXX.out, HS3.out]; exact IsRow.nil _ _, HBb.out⟩
          · have dl : decide (long < 0) = false := by simpa using hl
            have da : decide (0 ≤ long) = true := by simp; omega
            rw [if_neg hl] at HS2
            have HS3 : Hid (X = ⟨[], long, 2⟩) := HS2
            clear HS2
            go_wp2_with fail
            refine (HB.out _).mono ?_
            rintro e0 w2 ⟨rfl, hw2⟩
            subst hw2
            go_wp2_with fail
            refine (HC3.out _ HVE.out).mono ?_
            rintro e0 w3 ⟨rfl, hb3⟩
            have hs3 := hb3.size
            have HBb : Hid (Below w.heap.size w (w3.alloc (.cells #[.int .i64 k, .int .i64 q, .string (str S), .int .i64 vk, .int .i64 vn, .string (str vs)] 35))) := (hbw2.trans (hb3.mono hbw2.size)).alloc (by omega) _
            clear hown hown2 hb3
            go_wp2
            go_ret3
            exact ⟨_, by rw [HXX.out, HS3.out]; rfl, by rw [HXX.out, HS3.out]; exact IsRow.nil _ _, HBb.out⟩
        · rw [if_pos rfl] at HS2
          have HS3 : Hid (X = ⟨[], at', 3⟩) := HS2
          clear HS2
          go_wp2_with fail
          refine (HB.out _).mono ?_
          rintro e0 w2 ⟨rfl, hw2⟩
          subst hw2
          go_wp2_with fail
          refine (HC3.out _ HVE.out).mono ?_
          rintro e0 w3 ⟨rfl, hb3⟩
          have hs3 := hb3.size
          have HBb : Hid (Below w.heap.size w (w3.alloc (.cells #[.int .i64 k, .int .i64 q, .string (str S), .int .i64 vk, .int .i64 vn, .string (str vs)] 35))) := (hbw2.trans (hb3.mono hbw2.size)).alloc (by omega) _
          clear hown hown2 hb3
          go_wp2
          go_ret3
          exact ⟨_, by rw [HXX.out, HS3.out]; rfl, by rw [HXX.out, HS3.out]; exact IsRow.nil _ _, HBb.out⟩
      · have hnx : ∀ ty, (Instr.next (.pointer (some ⟨w1.heap.size, 0, none⟩)) true ty).run Tryd.prog wr = _ := fun ty => Lib.run_next_end_at wr w1.heap.size s pos ty hit hp
        have HE : Hid (lxs s.data.toList 0 0 0 (-1) [] = lxEnd at' long acc) := by
          show _ = _
          rw [← HC.out, List.drop_of_length_le (by rw [← Lib.size_eq]; omega), lxs_nil]
        by_cases hl : 0 ≤ long
        · have dl : decide (0 ≤ long) = true := by simpa using hl
          have HE2 : Hid (lxs s.data.toList 0 0 0 (-1) [] = ⟨[], long, 2⟩) := HE.out.trans (if_pos hl)
          clear HE HC hown
          go_wp2
          go_ret3
          refine ⟨_, by rw [HE2.out]; rfl, by rw [HE2.out]; exact IsRow.nil _ _, hbw⟩
        · have dl : decide (0 ≤ long) = false := by simpa using hl
          have HE2 : Hid (lxs s.data.toList 0 0 0 (-1) [] = ⟨acc, at', 0⟩) := HE.out.trans (if_neg hl)
          have HO : Hid (IsRow wr 6 u2 acc.length (tkCells acc)) := IsRow.own hown
          clear HE HC hown
          go_wp2
          go_ret3
          refine ⟨u2, by rw [HE2.out]; rfl, by rw [HE2.out]; exact HO.out, hbw⟩
end Go.Proofs.YtdendpckihckeaaDoor
/- The bytes of UTF-8 stand as the runes do: plain, of no program. -/
namespace Go.Proofs.YtdendpckihckeaaDoor
open Go.Lib
set_option maxRecDepth 100000

/-- How rows of runes stand. -/
def cmpR : List Nat → List Nat → Int
  | [], [] => 0
  | [], _ :: _ => -1
  | _ :: _, [] => 1
  | a :: k, b :: l => if a < b then -1 else if b < a then 1 else cmpR k l
theorem cb_lt {m n : Nat} (hn : n < 256) (h : m < n) (x y : List UInt8) : compareBytes (UInt8.ofNat m :: x) (UInt8.ofNat n :: y) = -1 := by
  have e : UInt8.ofNat m < UInt8.ofNat n := by
    rw [UInt8.lt_iff_toNat_lt, toNat_of (by omega), toNat_of hn]
    exact h
  simp [compareBytes, e]
theorem cb_eq (b : UInt8) (x y : List UInt8) : compareBytes (b :: x) (b :: y) = compareBytes x y := by
  simp [compareBytes]
theorem cb_pre : ∀ (p x y : List UInt8), compareBytes (p ++ x) (p ++ y) = compareBytes x y
  | [], _, _ => rfl
  | b :: p, x, y => by rw [List.cons_append, List.cons_append, cb_eq, cb_pre p x y]
/-- Of two first bytes, and what stands behind them. -/
theorem cb_step {m n : Nat} (hn : n < 256) (x y : List UInt8) (h : m < n ∨ (m = n ∧ compareBytes x y = -1)) : compareBytes (UInt8.ofNat m :: x) (UInt8.ofNat n :: y) = -1 := by
  rcases h with h | ⟨rfl, h⟩
  · exact cb_lt hn h x y
  · rw [cb_eq]; exact h
theorem enc_lt {c d : Nat} (hc : scal c) (hd : scal d) (h : c < d) (x y : List UInt8) : compareBytes (enc c ++ x) (enc d ++ y) = -1 := by
  have hd' := hd
  unfold scal at hd'
  by_cases d1 : d < 128
  · rw [enc1 d1, enc1 (by omega)]
    exact cb_lt (by omega) h _ _
  by_cases d2 : d < 2048
  · rw [enc2 (by omega) d2]
    by_cases c1 : c < 128
    · rw [enc1 c1]
      exact cb_lt (by omega) (by omega) _ _
    · rw [enc2 (by omega) (by omega)]
      refine cb_step (by omega) _ _ ?_
      by_cases e : c / 64 = d / 64
      · exact .inr ⟨by omega, cb_step (by omega) _ _ (.inl (by omega))⟩
      · exact .inl (by omega)
  by_cases d3 : d < 65536
  · rw [enc3 (by omega) d3 hd]
    by_cases c1 : c < 128
    · rw [enc1 c1]
      exact cb_lt (by omega) (by omega) _ _
    by_cases c2 : c < 2048
    · rw [enc2 (by omega) (by omega)]
      exact cb_lt (by omega) (by omega) _ _
    · rw [enc3 (by omega) (by omega) hc]
      refine cb_step (by omega) _ _ ?_
      by_cases e : c / 4096 = d / 4096
      · refine .inr ⟨by omega, cb_step (by omega) _ _ ?_⟩
        by_cases e2 : c / 64 % 64 = d / 64 % 64
        · exact .inr ⟨by omega, cb_step (by omega) _ _ (.inl (by omega))⟩
        · exact .inl (by omega)
      · exact .inl (by omega)
  · rw [enc4 (by omega) hd]
    by_cases c1 : c < 128
    · rw [enc1 c1]
      exact cb_lt (by omega) (by omega) _ _
    by_cases c2 : c < 2048
    · rw [enc2 (by omega) (by omega)]
      exact cb_lt (by omega) (by omega) _ _
    by_cases c3 : c < 65536
    · rw [enc3 (by omega) (by omega) hc]
      exact cb_lt (by omega) (by omega) _ _
    · rw [enc4 (by omega) hc]
      refine cb_step (by omega) _ _ ?_
      by_cases e : c / 262144 = d / 262144
      · refine .inr ⟨by omega, cb_step (by omega) _ _ ?_⟩
        by_cases e2 : c / 4096 % 64 = d / 4096 % 64
        · refine .inr ⟨by omega, cb_step (by omega) _ _ ?_⟩
          by_cases e3 : c / 64 % 64 = d / 64 % 64
          · exact .inr ⟨by omega, cb_step (by omega) _ _ (.inl (by omega))⟩
          · exact .inl (by omega)
        · exact .inl (by omega)
      · exact .inl (by omega)
theorem cb_anti : ∀ (a b : List UInt8), compareBytes a b = - compareBytes b a
  | [], [] => rfl
  | [], b :: l => by simp [compareBytes]
  | a :: k, [] => by simp [compareBytes]
  | a :: k, b :: l => by
    simp only [compareBytes]
    by_cases h1 : a < b
    · have h2 : ¬ b < a := UInt8.lt_asymm h1
      simp [h1, h2]
    · by_cases h2 : b < a
      · simp [h1, h2]
      · simp [h1, h2, cb_anti k l]
theorem enc_cons (c : Nat) : ∃ b t, enc c = b :: t := by
  have := enc_len c
  cases h : enc c with
  | nil => rw [h] at this; simp at this
  | cons b t => exact ⟨b, t, rfl⟩
/-- The bytes of runes stand as the runes. -/
theorem cmp_enc : ∀ (a b : List Nat), (∀ c ∈ a, scal c) → (∀ c ∈ b, scal c) → compareBytes (a.flatMap enc) (b.flatMap enc) = cmpR a b
  | [], [], _, _ => rfl
  | [], b :: l, _, _ => by
    obtain ⟨x, t, e⟩ := enc_cons b
    rw [List.flatMap_cons, e]
    rfl
  | a :: k, [], _, _ => by
    obtain ⟨x, t, e⟩ := enc_cons a
    rw [List.flatMap_cons, e]
    rfl
  | a :: k, b :: l, ha, hb => by
    have ih := cmp_enc k l (fun x hx => ha x (List.mem_cons_of_mem _ hx)) (fun x hx => hb x (List.mem_cons_of_mem _ hx))
    rw [List.flatMap_cons, List.flatMap_cons, cmpR]
    by_cases h1 : a < b
    · rw [if_pos h1]
      exact enc_lt (ha a (by simp)) (hb b (by simp)) h1 _ _
    · by_cases h2 : b < a
      · rw [if_neg h1, if_pos h2, cb_anti, enc_lt (hb b (by simp)) (ha a (by simp)) h2]
        rfl
      · have e : a = b := by omega
        subst e
        rw [if_neg h1, if_neg h2, cb_pre, ih]
end Go.Proofs.YtdendpckihckeaaDoor
/- name.compareRunes; Compare and Same of two texts that are the same, folded: walks. -/
namespace Go.Proofs.YtdendpckihckeaaDoor
open Go.RowKit

theorem nan_any (c : Int) (w : World) :
    Calls Tryd.prog 58 #[.int .i32 c] w fun e w' => e = .returned (.bool false) ∧ w' = w := by
  go_enter Tryd.func58, Tryd.ntmps58
  go_wp2
  go_ret
  exact ⟨by simp, rfl⟩
def ordN (a b : Nat) : Int := if a < b then -1 else if b < a then 1 else 0
set_option maxHeartbeats 1000000 in
theorem cmpRune_any (a b : Nat) (w : World) :
    Calls Tryd.prog 43 #[.int .i32 (a : Nat), .int .i32 (b : Nat)] w fun e w' => e = .returned (.int .i64 (ordN a b)) ∧ w' = w := by
  by_cases h1 : a < b
  · have h1' : (a : Int) < b := by omega
    have e : ordN a b = -1 := if_pos h1
    rw [e]
    go_enter Tryd.func43, Tryd.ntmps43
    go_wp2_with (go_at_call 58; refine (nan_any _ _).mono ?_; rintro e w' ⟨rfl, rfl⟩)
    go_ret
    exact ⟨rfl, rfl⟩
  · have h1' : ¬ (a : Int) < b := by omega
    by_cases h2 : b < a
    · have h2' : (b : Int) < a := by omega
      have e : ordN a b = 1 := by rw [ordN, if_neg h1, if_pos h2]
      rw [e]
      go_enter Tryd.func43, Tryd.ntmps43
      go_wp2_with (go_at_call 58; refine (nan_any _ _).mono ?_; rintro e w' ⟨rfl, rfl⟩)
      go_ret
      exact ⟨rfl, rfl⟩
    · have h2' : ¬ (b : Int) < a := by omega
      have e : ordN a b = 0 := by rw [ordN, if_neg h1, if_neg h2]
      rw [e]
      go_enter Tryd.func43, Tryd.ntmps43
      go_wp2_with (go_at_call 58; refine (nan_any _ _).mono ?_; rintro e w' ⟨rfl, rfl⟩)
      go_ret
      exact ⟨rfl, rfl⟩

def smalls (l : List UInt8) : List Nat := (rns l).map smallN
def CrRel (a b : ByteArray) (C : Int) (w : World) (t : Value) (wr : World) : Prop :=
  ∃ (pos : Nat) (B : ByteArray), t = .string B ∧ B.size ≤ b.size ∧ wr.heap[w.heap.size]? = some (.stringIter a pos) ∧ Below w.heap.size w wr ∧ cmpR (smalls (a.data.toList.drop pos)) (smalls B.data.toList) = C
theorem dec_go (B : ByteArray) (h : B.size ≠ 0) : Lib.decodeGo B = Utf8.decode B 0 := if_neg h
theorem smalls_ne (B : ByteArray) (h : B.size ≠ 0) : smalls B.data.toList = smallN (Utf8.decode B 0).1 :: smalls ((B.extract (Utf8.decode B 0).2 B.size).data.toList) := by
  have e := rns_at B 0 (by omega)
  rw [List.drop_zero, Nat.zero_add] at e
  unfold smalls
  rw [e, List.map_cons, ext_list]
theorem smalls_nil (B : ByteArray) (h : B.size = 0) : smalls B.data.toList = [] := by
  have : B.data.toList = [] := List.eq_nil_of_length_eq_zero (by rw [Array.length_toList]; exact h)
  rw [this]
  rfl
theorem wid_le (B : ByteArray) (h : B.size ≠ 0) : (Utf8.decode B 0).2 ≤ B.size := by
  have hne : B.data.toList ≠ [] := by
    intro e
    have := congrArg List.length e
    rw [Array.length_toList] at this
    exact h this
  have h1 := Lib.decodeL_le _ hne
  have e : Lib.decodeL B.data.toList = Utf8.decode B 0 := by have := Lib.decodeL_drop B 0; rwa [List.drop_zero] at this
  rw [e, Array.length_toList] at h1
  exact h1
theorem ext_size (B : ByteArray) (k : Nat) : (B.extract k B.size).size ≤ B.size := by rw [ByteArray.size_extract]; omega

set_option maxRecDepth 100000 in
set_option maxHeartbeats 2000000 in
theorem cmpRunes_any (a b : ByteArray) (w : World) (hT : UT w) :
    Calls Tryd.prog 28 #[.string a, .string b] w fun e w' => e = .returned (.int .i64 (cmpR (smalls a.data.toList) (smalls b.data.toList))) ∧ Below w.heap.size w w' := by
  obtain ⟨C, HC⟩ : ∃ C, Hid (cmpR (smalls a.data.toList) (smalls b.data.toList) = C) := ⟨_, rfl⟩
  rw [HC.out]
  go_enter Tryd.func28, Tryd.ntmps28
  go_wp2
  go_loopw [1] (fun t wr => CrRel a b C w t wr) (fun _ wr => a.size - wr.iterPos w.heap.size)
  case atStart =>
    refine ⟨0, b, rfl, Nat.le_refl _, ?_, (Below.refl _ _).alloc (Nat.le_refl _) _, HC.out⟩
    have := World.iter_heap w a 0
    simpa using this
  case round =>
    obtain ⟨pos, B, rfl, hB, hit, hbw, hck⟩ := hrel
    have HK : Hid (cmpR (smalls (a.data.toList.drop pos)) (smalls B.data.toList) = C) := hck
    clear hck HC
    have hsz : w.heap.size < wr.heap.size := (Array.getElem?_eq_some_iff.1 hit).1
    by_cases hp : pos < a.size
    · have hnx : ∀ ty, (Instr.next (.pointer (some ⟨w.heap.size, 0, none⟩)) true ty).run Tryd.prog wr = _ := fun ty => Lib.run_next_any_at wr w.heap.size a pos ty hit hp
      have hwd := Lib.decode_width_pos a pos hp
      have hit2 := Lib.iterAt_heap wr w.heap.size a pos (pos + (Utf8.decode a pos).2) hit
      have hbw2 := Lib.below_iterAt hbw (k := w.heap.size) (Nat.le_refl _) a (pos + (Utf8.decode a pos).2)
      have hrl := Lib.rune_le a pos
      have hrn : Hid (smalls (a.data.toList.drop pos) = smallN (Utf8.decode a pos).1 :: smalls (a.data.toList.drop (pos + (Utf8.decode a pos).2))) := by show _ = _; unfold smalls; rw [rns_at a pos hp]; rfl
      have hmeas : Hid (a.size - (pos + (Utf8.decode a pos).2) < a.size - wr.iterPos w.heap.size) := by
        show _ < _
        rw [iterPos_of hit]; omega
      generalize (Utf8.decode a pos).1 = c at *
      generalize (Utf8.decode a pos).2 = d at *
      generalize hW : wr.iterAt w.heap.size a (pos + d) = W at *
      have hmW : Hid (W.iterPos w.heap.size = pos + d) := iterPos_of hit2
      have hszW : w.heap.size < W.heap.size := (Array.getElem?_eq_some_iff.1 hit2).1
      clear hW hit hbw
      by_cases h0 : B.size = 0
      · have he := empty_is B h0
        have HR : Hid (1 = C) := by show _ = _; rw [← HK.out, hrn.out, smalls_nil B h0]; rfl
        clear HK hrn
        go_wp2_with fail
        go_ret
        exact ⟨by rw [← HR.out]; rfl, hbw2⟩
      · have he := empty_not B h0
        have hdg := dec_go B h0
        have hsn : Hid _ := smalls_ne B h0
        have hwl := wid_le B h0
        have hrb := Lib.rune_le B 0
        have hex := ext_size B (Utf8.decode B 0).2
        generalize (Utf8.decode B 0) = dc at *
        obtain ⟨x, y⟩ := dc
        simp only at hwl hrb hex
        have HK2 : Hid (cmpR (smallN c :: smalls (a.data.toList.drop (pos + d))) (smallN x :: smalls ((B.extract y B.size).data.toList)) = C) := by show _ = _; rw [← hrn.out, ← hsn.out]; exact HK.out
        clear hrn hsn HK
        go_wp2_with fail
        refine (Tryd.utf8_DecodeRuneInString B _ (Utf8Tabs_below hT hbw2)).mono ?_
        rintro e w3 ⟨rfl, hb3⟩
        rw [show (Lib.decodeGo B).1 = x by rw [hdg], show (Lib.decodeGo B).2 = y by rw [hdg]]
        have hbw3 := hbw2.trans (hb3.mono hbw2.size)
        have hit3 : Hid (w3.heap[w.heap.size]? = some (.stringIter a (pos + d))) := (hb3.block _ hszW).trans hit2
        have hmW3 : Hid (w3.iterPos w.heap.size = pos + d) := iterPos_of hit3.out
        clear hb3 hbw2 hit2 hdg
        by_cases h1 : smallN c < smallN x
        · have ho : ordN (smallN c) (smallN x) = -1 := if_pos h1
          have HR : Hid (-1 = C) := by show _ = _; rw [← HK2.out, cmpR, if_pos h1]
          clear HK2 h1
          go_wp2_with (first | (go_at_call 44; refine (small_any _ _ (by omega) (by omega)).mono ?_; rintro e w' ⟨rfl, rfl⟩; rw [smallZ_nat]) | (go_at_call 43; refine (cmpRune_any _ _ _).mono ?_; rintro e w' ⟨rfl, rfl⟩; rw [ho]))
          go_ret
          exact ⟨by rw [← HR.out]; rfl, hbw3⟩
        · by_cases h2 : smallN x < smallN c
          · have ho : ordN (smallN c) (smallN x) = 1 := by rw [ordN, if_neg h1, if_pos h2]
            have HR : Hid (1 = C) := by show _ = _; rw [← HK2.out, cmpR, if_neg h1, if_pos h2]
            clear HK2 h1 h2
            go_wp2_with (first | (go_at_call 44; refine (small_any _ _ (by omega) (by omega)).mono ?_; rintro e w' ⟨rfl, rfl⟩; rw [smallZ_nat]) | (go_at_call 43; refine (cmpRune_any _ _ _).mono ?_; rintro e w' ⟨rfl, rfl⟩; rw [ho]))
            go_ret
            exact ⟨by rw [← HR.out]; rfl, hbw3⟩
          · have ho : ordN (smallN c) (smallN x) = 0 := by rw [ordN, if_neg h1, if_neg h2]
            have HR : Hid (cmpR (smalls (a.data.toList.drop (pos + d))) (smalls ((B.extract y B.size).data.toList)) = C) := by show _ = _; rw [← HK2.out, cmpR, if_neg h1, if_neg h2]
            clear HK2 h1 h2
            go_wp2_with (first | (go_at_call 44; refine (small_any _ _ (by omega) (by omega)).mono ?_; rintro e w' ⟨rfl, rfl⟩; rw [smallZ_nat]) | (go_at_call 43; refine (cmpRune_any _ _ _).mono ?_; rintro e w' ⟨rfl, rfl⟩; rw [ho]))
            go_roundw
            case rel => exact ⟨pos + d, B.extract y B.size, rfl, by omega, hit3.out, hbw3, HR.out⟩
            case measure => rw [hmW3.out]; exact hmeas.out
    · have hnx : ∀ ty, (Instr.next (.pointer (some ⟨w.heap.size, 0, none⟩)) true ty).run Tryd.prog wr = _ := fun ty => Lib.run_next_end_at wr w.heap.size a pos ty hit hp
      have hn : smalls (a.data.toList.drop pos) = [] := by unfold smalls; rw [rns_end a pos hp]; rfl
      by_cases h0 : B.size = 0
      · have HR : Hid (0 = C) := by show _ = _; rw [← HK.out, hn, smalls_nil B h0]; rfl
        have hz : (B.size : Int) = 0 := by omega
        clear HK hn
        go_wp2_with fail
        go_ret
        exact ⟨by rw [← HR.out]; rfl, hbw⟩
      · have HR : Hid (-1 = C) := by show _ = _; rw [← HK.out, hn, smalls_ne B h0]; rfl
        have hm : min (B.size : Int) 1 = 1 := by omega
        clear HK hn
        go_wp2_with fail
        go_ret
        exact ⟨by rw [← HR.out]; rfl, hbw⟩

set_option maxHeartbeats 1000000 in
theorem same_folded (a b : ByteArray) (w : World) (ha : a.size ≤ 1000000) (hb : b.size ≤ 1000000) (va : Lib.validD a.data.toList = true) (vb : Lib.validD b.data.toList = true) (hne : a ≠ b) (h0 : cmpR (smalls a.data.toList) (smalls b.data.toList) = 0) (hT : UT w) :
    Calls Tryd.prog 13 #[.string a, .string b] w fun e w' => e = .returned (.bool true) ∧ Below w.heap.size w w' := by
  have HC : Hid (∀ w, UT w → Calls Tryd.prog 19 #[.string a, .string b] w fun e w' => e = .returned (.int .i64 0) ∧ Below w.heap.size w w') := by
    show ∀ w, _
    intro w hT
    go_enter Tryd.func19, Tryd.ntmps19
    go_wp2_with fail
    refine (Tryd.utf8_ValidString a _ (by omega) hT).mono ?_
    rintro e w1 ⟨rfl, hb1⟩
    rw [va]
    go_wp2_with fail
    refine (Tryd.utf8_ValidString b _ (by omega) (Utf8Tabs_below hT hb1)).mono ?_
    rintro e w2 ⟨rfl, hb2⟩
    rw [vb]
    have hbb := hb1.trans (hb2.mono hb1.size)
    clear hb1 hb2
    go_wp2_with fail
    refine (cmpRunes_any a b _ (Utf8Tabs_below hT hbb)).mono ?_
    rintro e w3 ⟨rfl, hb3⟩
    rw [h0]
    have hbb3 : Hid (Below w.heap.size w w3) := hbb.trans (hb3.mono hbb.size)
    clear hbb hb3
    go_wp2
    go_ret
    exact ⟨rfl, hbb3.out⟩
  have e2 : (a.toList == b.toList) = false := by
    rw [beq_eq_false_iff_ne, ByteArray.toList_eq, ByteArray.toList_eq]
    exact fun e => hne (ba_eq e)
  clear va vb h0
  go_enter Tryd.func13, Tryd.ntmps13
  go_wp2_with fail
  refine (HC.out _ hT).mono ?_
  rintro e w1 ⟨rfl, hb1⟩
  go_wp2
  go_ret
  exact ⟨rfl, hb1⟩
end Go.Proofs.YtdendpckihckeaaDoor
/- lex.Word, Mark at the example; the law's awake: walks. -/
namespace Go.Proofs.YtdendpckihckeaaDoor
open Go.RowKit

abbrev andS : ByteArray := ⟨#[97, 110, 100]⟩
abbrev ANDS : ByteArray := ⟨#[65, 78, 68]⟩
set_option maxRecDepth 100000 in
theorem word_and (p vk vn : Int) (vs : ByteArray) (w : World) (hT : UT w) :
    Calls Tryd.prog 8 #[tv 1 p andS vk vn vs, .string ANDS] w fun e w' => e = .returned (.bool true) ∧ Below w.heap.size w w' := by
  have HS : Hid (∀ w, UT w → Calls Tryd.prog 13 #[.string andS, .string ANDS] w fun e w' => e = .returned (.bool true) ∧ Below w.heap.size w w') := fun w hT =>
    same_folded andS ANDS w (by decide) (by decide) (by decide +kernel) (by decide +kernel) (by decide) (by decide +kernel) hT
  go_enter Tryd.func8, Tryd.ntmps8
  go_wp2_with fail
  refine (HS.out _ (Utf8Tabs_below hT (al_below6 w _))).mono ?_
  rintro e w1 ⟨rfl, hb1⟩
  have HB : Hid (Below w.heap.size w w1) := (al_below6 w _).trans (hb1.mono (by simp))
  clear hb1
  go_wp2
  go_ret
  exact ⟨rfl, HB.out⟩
set_option maxRecDepth 100000 in
theorem mark_close (p vk vn : Int) (vs : ByteArray) (w : World) :
    Calls Tryd.prog 9 #[tv 3 p ⟨#[125]⟩ vk vn vs, .string ⟨#[125]⟩] w fun e w' => e = .returned (.bool true) ∧ Below w.heap.size w w' := by
  go_enter Tryd.func9, Tryd.ntmps9
  go_wp2
  go_ret
  exact ⟨rfl, al_below6 w _⟩
/-- The page's example. -/
def ex7L : List UInt8 := [97, 32, 62, 61, 32, 45, 53, 32, 97, 110, 100, 32, 98, 32, 105, 110, 32, 123, 34, 120, 34, 125]
def ex7T : List Tk := [⟨1, 0, [97], 0, 0, []⟩, ⟨3, 2, [62, 61], 0, 0, []⟩, ⟨2, 5, [], 1, -5, []⟩, ⟨1, 8, [97, 110, 100], 0, 0, []⟩, ⟨1, 12, [98], 0, 0, []⟩, ⟨1, 14, [105, 110], 0, 0, []⟩, ⟨3, 17, [123], 0, 0, []⟩, ⟨2, 18, [], 2, 0, [120]⟩, ⟨3, 21, [125], 0, 0, []⟩]
theorem ex_lex : lexL ex7L = ⟨ex7T, 22, 0⟩ := by kernel_rfl
abbrev ex7S : ByteArray := ⟨#[97, 32, 62, 61, 32, 45, 53, 32, 97, 110, 100, 32, 98, 32, 105, 110, 32, 123, 34, 120, 34, 125]⟩
set_option maxRecDepth 100000 in
set_option maxHeartbeats 4000000 in
theorem awake7_any (w : World) (h : VE w) :
    Calls Tryd.prog 4 #[] w fun e w' => e = .returned (.bool true) ∧ Below w.heap.size w w' := by
  have HL : Hid (∀ w, VE w → Calls Tryd.prog 5 #[.string ex7S] w fun e w' => LxPost ⟨ex7T, 22, 0⟩ w e w') := fun w h => by
    have := lex_any ex7S w (by decide) h
    rw [show ex7S.data.toList = ex7L from rfl, ex_lex] at this
    exact this
  go_enter Tryd.func4, Tryd.ntmps4
  go_wp2_with fail
  refine (HL.out _ h).mono ?_
  rintro e0 w1 ⟨v, rfl, hrow, hb1⟩
  obtain ⟨b, off, cap, rfl, hlt, _, _, hc⟩ := hrow.open (by decide)
  have k8 : w1.cell? ⟨b, off + 8, none⟩ = some (.string ⟨#[62, 61]⟩) := hc 8 _ rfl
  have k16 : w1.cell? ⟨b, off + 16, none⟩ = some (.int .i64 (-5)) := hc 16 _ rfl
  have k26 : w1.cell? ⟨b, off + 26, none⟩ = some (.string ⟨#[98]⟩) := hc 26 _ rfl
  have k25 : w1.cell? ⟨b, off + 25, none⟩ = some (.int .i64 12) := hc 25 _ rfl
  have k47 : w1.cell? ⟨b, off + 47, none⟩ = some (.string ⟨#[120]⟩) := hc 47 _ rfl
  have k18 : w1.cell? ⟨b, off + 18, none⟩ = some (.int .i64 1) := hc 18 _ rfl
  have k19 : w1.cell? ⟨b, off + 19, none⟩ = some (.int .i64 8) := hc 19 _ rfl
  have k20 : w1.cell? ⟨b, off + 20, none⟩ = some (.string andS) := hc 20 _ rfl
  have k21 : w1.cell? ⟨b, off + 21, none⟩ = some (.int .i64 0) := hc 21 _ rfl
  have k22 : w1.cell? ⟨b, off + 22, none⟩ = some (.int .i64 0) := hc 22 _ rfl
  have k23 : w1.cell? ⟨b, off + 23, none⟩ = some (.string ⟨#[]⟩) := hc 23 _ rfl
  have k48 : w1.cell? ⟨b, off + 48, none⟩ = some (.int .i64 3) := hc 48 _ rfl
  have k49 : w1.cell? ⟨b, off + 49, none⟩ = some (.int .i64 21) := hc 49 _ rfl
  have k50 : w1.cell? ⟨b, off + 50, none⟩ = some (.string ⟨#[125]⟩) := hc 50 _ rfl
  have k51 : w1.cell? ⟨b, off + 51, none⟩ = some (.int .i64 0) := hc 51 _ rfl
  have k52 : w1.cell? ⟨b, off + 52, none⟩ = some (.int .i64 0) := hc 52 _ rfl
  have k53 : w1.cell? ⟨b, off + 53, none⟩ = some (.string ⟨#[]⟩) := hc 53 _ rfl
  have HVE : Hid (UT w1) := (h.below hb1).u
  clear hc hrow HL
  go_wp2_with fail
  refine (word_and 8 0 0 _ w1 HVE.out).mono ?_
  rintro e2 w2 ⟨rfl, hb2⟩
  have m48 : w2.cell? ⟨b, off + 48, none⟩ = some (.int .i64 3) := (hb2.cell (p := ⟨b, off + 48, none⟩) hlt).trans k48
  have m49 : w2.cell? ⟨b, off + 49, none⟩ = some (.int .i64 21) := (hb2.cell (p := ⟨b, off + 49, none⟩) hlt).trans k49
  have m50 : w2.cell? ⟨b, off + 50, none⟩ = some (.string ⟨#[125]⟩) := (hb2.cell (p := ⟨b, off + 50, none⟩) hlt).trans k50
  have m51 : w2.cell? ⟨b, off + 51, none⟩ = some (.int .i64 0) := (hb2.cell (p := ⟨b, off + 51, none⟩) hlt).trans k51
  have m52 : w2.cell? ⟨b, off + 52, none⟩ = some (.int .i64 0) := (hb2.cell (p := ⟨b, off + 52, none⟩) hlt).trans k52
  have m53 : w2.cell? ⟨b, off + 53, none⟩ = some (.string ⟨#[]⟩) := (hb2.cell (p := ⟨b, off + 53, none⟩) hlt).trans k53
  have HB2 : Hid (Below w.heap.size w w2) := hb1.trans (hb2.mono hb1.size)
  clear hb1 hb2 k48 k49 k50 k51 k52 k53
  go_wp2_with fail
  refine (mark_close 21 0 0 _ w2).mono ?_
  rintro e3 w3 ⟨rfl, hb3⟩
  have HB3 : Hid (Below w.heap.size w w3) := HB2.out.trans (hb3.mono HB2.out.size)
  clear hb3
  go_wp2
  go_ret
  exact ⟨rfl, HB3.out⟩
end Go.Proofs.YtdendpckihckeaaDoor
