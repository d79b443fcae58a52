/- lex.Lex at any text: its walk. -/
import Derived.Test.YtjamkfkbajhefaaGreatDoorZk16
import Derived.Test.YtjamkfkbajhefaaGreatDoorZk11
namespace Go.Proofs.YtjamkfkbajhefaaGreatDoor.V
open Go.RowKit

theorem own_ne_iter6 {w : World} {base : Nat} {e : TypeId} {sz : Nat} {v : Value} {n : Nat} {xs : List Value} (h : w.ownsRow base e sz v n xs) {k : Nat} {s : ByteArray} {p : Nat} (hk : w.heap[k]? = some (.stringIter s p)) : v.ownBlock ≠ some k := by
  intro e
  rcases h.2 with ⟨hv, _⟩ | ⟨g, cap, cur, hv, _, hg, _⟩
  · rw [hv] at e; cases e
  · rw [hv] at e
    cases e
    rw [hk] at hg
    cases hg
theorem own_iter6 {w : World} {base : Nat} {e : TypeId} {sz : Nat} {v : Value} {n : Nat} {xs : List Value} (h : w.ownsRow base e sz v n xs) {k : Nat} {s : ByteArray} {p : Nat} (hk : w.heap[k]? = some (.stringIter s p)) (p' : Nat) : (w.iterAt k s p').ownsRow base e sz v n xs :=
  h.kept (row := some k) ⟨rfl, rfl, rfl, by rw [Lib.iterAt_size]; exact Nat.le_refl _, fun j _ hj => Lib.iterAt_other w k j s p' (fun e => hj (by rw [e]))⟩ (.inr (own_ne_iter6 h hk))
theorem own_below6 {w w1 : World} {base : Nat} {e : TypeId} {sz : Nat} {v : Value} {n : Nat} {xs : List Value} (h : w.ownsRow base e sz v n xs) (hb : Below w.heap.size w w1) : w1.ownsRow base e sz v n xs :=
  h.kept (row := none) ⟨hb.os, hb.tape, hb.output, hb.size, fun k hk _ => hb.block k hk⟩ (by cases hv : v.ownBlock <;> simp)
theorem al_below6 (w : World) (o : Obj) : Below w.heap.size w (w.alloc o) := (Below.refl _ _).alloc (Nat.le_refl _) _
theorem info_tok : (Tryz.prog.info? 116).map (fun i => (i.zero, i.size, i.bytes)) = some (some (.agg #[.int .i64 0, .int .i64 0, .string ⟨#[]⟩, .int .i64 0, .int .i64 0, .string ⟨#[]⟩]), 6, 64) := by kernel_rfl
/-- What Lex leaves. -/
def LxPost (x : Lx) (w : World) (e : Ending) (w' : World) : Prop :=
  ∃ v, e = .returned (.tuple #[v, .int .i64 x.a, .int .i64 x.e]) ∧ IsRow w' 6 v x.l.length (tkCells x.l) ∧ Below w.heap.size w w'
/-- What holds of Lex's loop at every round. -/
def LxRel (s : ByteArray) (w : World) (k0 : Nat) (t a n l : Value) (wr : World) : Prop :=
  ∃ (pos at' en : Nat) (long : Int) (acc : List Tk), a = .int .i64 (at' : Int) ∧ n = .int .i64 (en : Int) ∧ l = .int .i64 long ∧ wr.ownsRow (k0 + 1) 116 6 t acc.length (tkCells acc) ∧ wr.heap[k0]? = some (.stringIter s pos) ∧ Below w.heap.size w wr ∧
    pos ≤ s.size ∧ at' ≤ pos ∧ acc.length ≤ at' ∧ en ≤ 2 * s.size ∧ -1 ≤ long ∧ long ≤ pos ∧ lxs (s.data.toList.drop pos) pos at' en long acc = lxs s.data.toList 0 0 0 (-1) []
theorem cut_size (l : List UInt8) : (cutL l).z ≤ l.length ∧ ((cutL l).e = 0 ∨ (cutL l).e = 2 ∨ (cutL l).e = 3) := by
  unfold cutL
  split
  · exact ⟨Nat.zero_le _, .inr (.inl rfl)⟩
  split
  · exact ⟨Nat.sub_le _ _, .inl rfl⟩
  split
  · refine ⟨?_, .inl rfl⟩
    show wsz l ≤ _
    unfold wsz
    split
    · exact wgo_le _ _ (Nat.le_refl _)
    · exact Nat.zero_le _
  split
  · refine ⟨?_, .inl rfl⟩
    show msz l ≤ _
    rename_i hm
    unfold msz at hm ⊢
    split
    · rename_i hp
      rcases hp with hp | hp | hp <;> exact pre_len hp
    · rename_i hp
      rw [if_neg hp] at hm
      split at hm
      · rename_i hi
        rw [if_pos hi]
        cases l with
        | nil => exfalso; revert hi; decide
        | cons b t => simp
      · simp at hm
  · exact ⟨Nat.zero_le _, .inr (.inr rfl)⟩
/-- A next round. -/
theorem lx_again {s : ByteArray} {w W W3 : World} {k0 : Nat} {t av nv lv : Value} {pos at' en M : Nat} {long : Int} {acc : List Tk} {X : Lx} (HXX : Hid (lxs s.data.toList 0 0 0 (-1) [] = X))
    (HX : Hid (X = lxs (s.data.toList.drop pos) pos at' en long acc)) (ha : av = .int .i64 (at' : Int)) (hn : nv = .int .i64 (en : Int)) (hl : lv = .int .i64 long) (hit : W.heap[k0]? = some (.stringIter s pos))
    (HB : Hid (Below (k0 + 1) W W3)) (hbw : Below w.heap.size w W) (hk : w.heap.size ≤ k0) (HO : Hid (W3.ownsRow (k0 + 1) 116 6 t acc.length (tkCells acc)))
    (h1 : pos ≤ s.size) (h2 : at' ≤ pos) (h3 : acc.length ≤ at') (h4 : en ≤ 2 * s.size) (h5 : -1 ≤ long) (h6 : long ≤ pos) (hm : Hid (s.size - pos < M)) :
    LxRel s w k0 t av nv lv W3 ∧ s.size - W3.iterPos k0 < M := by
  have hi3 : W3.heap[k0]? = some (.stringIter s pos) := (HB.out.block k0 (Nat.lt_succ_self _)).trans hit
  refine ⟨⟨pos, at', en, long, acc, ha, hn, hl, HO.out, hi3, hbw.trans (HB.out.mono (by omega)), h1, h2, h3, h4, h5, h6, HX.out.symm.trans HXX.out.symm⟩, ?_⟩
  rw [iterPos_of hi3]
  exact hm.out
set_option maxRecDepth 100000 in
set_option maxHeartbeats 8000000 in
theorem lex_any (s : ByteArray) (w : World) (hs : s.size ≤ 1000000) (h : VE w) :
    Calls Tryz.prog 36 #[.string s] w fun e w' => LxPost (lexL s.data.toList) w e w' := by
  obtain ⟨i0, hi0, hz0, hz1, hz2⟩ := info_parts info_tok
  have HVs : Hid (∀ w, UT w → Calls Tryz.prog 46 #[.string s] w fun e w' => e = .returned (.bool (Lib.validD s.data.toList)) ∧ Below w.heap.size w w') := fun w hU => Tryz.utf8_ValidString s w (by omega) hU
  cases hv : Lib.validD s.data.toList
  · have HX : Hid (lexL s.data.toList = ⟨[], 0, 3⟩) := by show _ = _; unfold lexL; rw [if_neg (by rw [hv]; decide)]
    rw [HX.out]
    rw [hv] at HVs
    clear hv HX
    go_enter Tryz.func36, Tryz.ntmps36
    go_wp2_with fail
    refine (HVs.out _ h.u).mono ?_
    rintro e0 w1 ⟨rfl, hb1⟩
    go_wp2
    go_ret3
    exact ⟨_, rfl, IsRow.nil _ _, hb1⟩
  · have HX : Hid (lexL s.data.toList = lxs s.data.toList 0 0 0 (-1) []) := by show _ = _; unfold lexL; rw [if_pos hv]; rfl
    rw [HX.out]
    rw [hv] at HVs
    clear hv HX
    go_enter Tryz.func36, Tryz.ntmps36
    go_wp2_with fail
    refine (HVs.out _ h.u).mono ?_
    rintro e0 w1 ⟨rfl, hb1⟩
    have hs1 := hb1.size
    go_wp2_with fail
    go_loopw [2, 3, 4, 5, 6] (fun t a e n l wr => e = .int .i64 0 ∧ LxRel s w w1.heap.size t a n l wr) (fun _ _ _ _ _ wr => s.size - wr.iterPos w1.heap.size)
    case atStart =>
      exact ⟨rfl, 0, 0, 0, -1, [], rfl, rfl, rfl, World.ownsRow_nil _ _ _ _, World.iter_heap w1 s 0, hb1.alloc hs1 _, Nat.zero_le _, Nat.le_refl _, Nat.le_refl _, Nat.zero_le _, by decide, by decide, rfl⟩
    case round =>
      obtain ⟨rfl, pos, at', en, long, acc, rfl, rfl, rfl, hown, hit, hbw, hps, hat, hac, hen, hl1, hl2, hck⟩ := hrel
      have HC : Hid (lxs (s.data.toList.drop pos) pos at' en long acc = lxs s.data.toList 0 0 0 (-1) []) := hck
      clear hck
      obtain ⟨X, HXX⟩ : ∃ X, Hid (lxs s.data.toList 0 0 0 (-1) [] = X) := ⟨_, rfl⟩
      have hszr : w1.heap.size < wr.heap.size := (Array.getElem?_eq_some_iff.1 hit).1
      by_cases hp : pos < s.size
      · have hnx : ∀ ty, (Instr.next (.pointer (some ⟨w1.heap.size, 0, none⟩)) true ty).run Tryz.prog wr = _ := fun ty => Lib.run_next_any_at wr w1.heap.size s pos ty hit hp
        have hwd := Lib.decode_width_pos s pos hp
        have hit2 := Lib.iterAt_heap wr w1.heap.size s pos (pos + (Utf8.decode s pos).2) hit
        have hbw2 := Lib.below_iterAt hbw (k := w1.heap.size) hs1 s (pos + (Utf8.decode s pos).2)
        have hown2 := own_iter6 hown hit (pos + (Utf8.decode s pos).2)
        have hne2 := own_ne_iter6 hown hit
        have hrl := Lib.rune_le s pos
        have hwl := width_le s pos hp
        have hmeas : Hid (s.size - (pos + (Utf8.decode s pos).2) < s.size - wr.iterPos w1.heap.size) := by
          show _ < _
          rw [iterPos_of hit]; omega
        have hmp : Hid ((wr.iterAt w1.heap.size s (pos + (Utf8.decode s pos).2)).iterPos w1.heap.size = pos + (Utf8.decode s pos).2) := iterPos_of hit2
        have hWs : w1.heap.size < (wr.iterAt w1.heap.size s (pos + (Utf8.decode s pos).2)).heap.size := by rw [Lib.iterAt_size]; exact hszr
        have HS : Hid (X = if en ≤ pos ∧ blankN (Utf8.decode s pos).1 = false then
            if (cutL (s.extract pos s.size).data.toList).e = 3 then ⟨[], at', 3⟩
            else if (cutL (s.extract pos s.size).data.toList).e = 2 then ⟨[], if long < 0 then at' else long, 2⟩
            else if long < 0 ∧ acc.length ≠ 300 then lxs (s.data.toList.drop (pos + (Utf8.decode s pos).2)) (pos + (Utf8.decode s pos).2) (at' + 1) (pos + (cutL (s.extract pos s.size).data.toList).z) long (acc ++ [{ (cutL (s.extract pos s.size).data.toList).t with p := at' }])
            else lxs (s.data.toList.drop (pos + (Utf8.decode s pos).2)) (pos + (Utf8.decode s pos).2) (at' + 1) (pos + (cutL (s.extract pos s.size).data.toList).z) (if long < 0 then at' else long) acc
          else lxs (s.data.toList.drop (pos + (Utf8.decode s pos).2)) (pos + (Utf8.decode s pos).2) (at' + 1) en long acc) := by
          show _ = _
          rw [← HXX.out, ← HC.out, lxs_step (drop_ne s pos hp), Lib.decodeL_drop, List.drop_drop, sub_list]
        have HCt : Hid (∀ w, VE w → Calls Tryz.prog 65 #[.string (s.extract pos s.size)] w fun e w' => e = .returned (ctV (cutL (s.extract pos s.size).data.toList)) ∧ Below w.heap.size w w') := fun w h => cut_any _ w (by rw [ByteArray.size_extract]; omega) (by rw [ByteArray.size_extract]; omega) h
        have hcz := cut_size (s.extract pos s.size).data.toList
        rw [← Lib.size_eq, ByteArray.size_extract] at hcz
        clear HC
        generalize (Utf8.decode s pos).1 = c at *
        generalize (Utf8.decode s pos).2 = d at *
        generalize hW : wr.iterAt w1.heap.size s (pos + d) = W at *
        clear hW
        have HB : Hid (∀ w : World, Calls Tryz.prog 64 #[.int .i32 (c : Int)] w fun e w' => e = .returned (.bool (blankN c)) ∧ w' = w) := fun w => blank_any c w
        have HVE : Hid (VE W) := h.below hbw2
        by_cases hg : pos < en
        · have HR : Hid (LxRel s w w1.heap.size u2 (.int .i64 ((at' : Int) + 1)) (.int .i64 (en : Int)) (.int .i64 long) W) :=
            ⟨pos + d, at' + 1, en, long, acc, by simp, rfl, rfl, hown2, hit2, hbw2, by omega, by omega, by omega, by omega, hl1, by omega, by rw [HXX.out, HS.out, if_neg (by omega)]⟩
          have dg : decide ((en : Int) ≤ pos) = false := by simp; omega
          clear HS HCt hcz hown hown2 HB HVE
          go_wp2
          go_roundw
          case rel => exact ⟨rfl, HR.out⟩
          case measure => rw [hmp.out]; exact hmeas.out
        have dg : decide ((en : Int) ≤ pos) = true := by simp; omega
        cases hbc : blankN c
        rotate_left
        · have HR : Hid (LxRel s w w1.heap.size u2 (.int .i64 ((at' : Int) + 1)) (.int .i64 (en : Int)) (.int .i64 long) W) :=
            ⟨pos + d, at' + 1, en, long, acc, by simp, rfl, rfl, hown2, hit2, hbw2, by omega, by omega, by omega, by omega, hl1, by omega, by rw [HXX.out, HS.out, if_neg (by rw [hbc]; simp)]⟩
          rw [hbc] at HB
          clear HS HCt hcz hown hown2 HVE hbc
          go_wp2_with fail
          refine (HB.out _).mono ?_
          rintro e0 w2 ⟨rfl, hw2⟩
          subst hw2
          go_wp2
          go_roundw
          case rel => exact ⟨rfl, HR.out⟩
          case measure => rw [hmp.out]; exact hmeas.out
        have HS2 := HS.out
        rw [if_pos ⟨by omega, hbc⟩] at HS2
        rw [hbc] at HB
        clear HS hbc
        generalize cutL (s.extract pos s.size).data.toList = x at *
        obtain ⟨⟨k, q, S, vk, vn, vs⟩, z, e⟩ := x
        have HC3 : Hid (∀ w, VE w → Calls Tryz.prog 65 #[.string (s.extract pos s.size)] w fun e0 w' => e0 = .returned (.tuple #[tv k q (str S) vk vn (str vs), .int .i64 (z : Int), .int .i64 e]) ∧ Below w.heap.size w w') := HCt.out
        clear HCt
        simp only at HS2 hcz
        obtain ⟨a0, cap0, hu⟩ := (IsRow.own hown2).form
        subst hu
        rcases hcz with ⟨hz, rfl | rfl | rfl⟩
        · rw [if_neg (by decide), if_neg (by decide)] at HS2
          by_cases hl : long < 0
          · have dl : decide (long < 0) = true := by simpa using hl
            by_cases hn : acc.length = 300
            · rw [if_neg (by omega), if_pos hl] at HS2
              have HS3 : Hid (X = lxs (s.data.toList.drop (pos + d)) (pos + d) (at' + 1) (pos + z) (at' : Int) acc) := HS2
              have dn : ((acc.length : Int) == 300) = true := by rw [beq_iff_eq]; omega
              have da : decide ((at' : Int) < 0) = false := by simp
              clear HS2
              go_wp2_with fail
              refine (HB.out _).mono ?_
              rintro e0 w2 ⟨rfl, hw2⟩
              subst hw2
              go_wp2_with fail
              refine (HC3.out _ HVE.out).mono ?_
              rintro e0 w3 ⟨rfl, hb3⟩
              have hs3 := hb3.size
              have HO3 : Hid ((w3.alloc (.cells #[.int .i64 k, .int .i64 q, .string (str S), .int .i64 vk, .int .i64 vn, .string (str vs)] 116)).ownsRow (w1.heap.size + 1) 116 6 (.slice a0 acc.length cap0) acc.length (tkCells acc)) := own_below6 (own_below6 hown2 hb3) (al_below6 _ _)
              have HBb : Hid (Below (w1.heap.size + 1) w2 (w3.alloc (.cells #[.int .i64 k, .int .i64 q, .string (str S), .int .i64 vk, .int .i64 vn, .string (str vs)] 116))) := (hb3.mono hWs).alloc (by omega) _
              clear hown hown2 hb3
              go_wp2
              rw [hn] at HO3
              have HF := lx_again (av := .int .i64 ((at' : Int) + 1)) (nv := .int .i64 ((pos : Int) + z)) (lv := .int .i64 (at' : Int)) HXX HS3 (by simp) (by simp) rfl hit2 HBb hbw2 hs1 (by rw [hn]; exact HO3) (by omega) (by omega) (by omega) (by omega) (by omega) (by omega) hmeas
              exact ⟨⟨rfl, HF.1⟩, HF.2⟩
            · rw [if_pos ⟨hl, hn⟩] at HS2
              have HS3 : Hid (X = lxs (s.data.toList.drop (pos + d)) (pos + d) (at' + 1) (pos + z) long (acc ++ [⟨k, at', S, vk, vn, vs⟩])) := HS2
              have dn : ((acc.length : Int) == 300) = false := by rw [beq_eq_false_iff_ne]; omega
              clear HS2
              go_wp2_with fail
              refine (HB.out _).mono ?_
              rintro e0 w2 ⟨rfl, hw2⟩
              subst hw2
              go_wp2_with fail
              refine (HC3.out _ HVE.out).mono ?_
              rintro e0 w3 ⟨rfl, hb3⟩
              have hs3 := hb3.size
              have HO3 : Hid ((w3.alloc (.cells #[.int .i64 k, .int .i64 (at' : Int), .string (str S), .int .i64 vk, .int .i64 vn, .string (str vs)] 116)).ownsRow (w1.heap.size + 1) 116 6 (.slice a0 acc.length cap0) acc.length (tkCells acc)) := own_below6 (own_below6 hown2 hb3) (al_below6 _ _)
              have HBb : Hid (Below (w1.heap.size + 1) w2 (w3.alloc (.cells #[.int .i64 k, .int .i64 (at' : Int), .string (str S), .int .i64 vk, .int .i64 vn, .string (str vs)] 116))) := (hb3.mono hWs).alloc (by omega) _
              clear hown hown2 hb3
              go_wp2_with (at_builtin; refine wpln6 _ rfl (.tmp 59) (.tmp 61) 76 116 rfl i0 _ 6 64 Tryz.underlying76 hi0 hz0 hz1 hz2 rfl (by decide) (w1.heap.size + 1) (.slice a0 acc.length cap0) acc.length (tkCells acc) rfl HO3.out (Tk.cells ⟨k, at', S, vk, vn, vs⟩) rfl _ rfl (w3.heap.size + 1) (by simp) rfl (by intro u hu; simp [Tk.cells] at hu; rcases hu with rfl | rfl | rfl | rfl | rfl | rfl <;> rfl) (by omega) (by unfold maxLen; omega) (by simp; omega) ?_; intro v5 w5 hown5 hb5)
              have HO5 : Hid (w5.ownsRow (w1.heap.size + 1) 116 6 v5 (acc ++ [Tk.mk k at' S vk vn vs]).length (tkCells (acc ++ [⟨k, at', S, vk, vn, vs⟩]))) := by
                show World.ownsRow _ _ _ _ _ _ _
                rw [tkCells_snoc, List.length_append]
                exact hown5
              have HB5 : Hid (Below (w1.heap.size + 1) w2 w5) := HBb.out.trans hb5
              have HF := lx_again (av := .int .i64 ((at' : Int) + 1)) (nv := .int .i64 ((pos : Int) + z)) (lv := .int .i64 long) HXX HS3 (by simp) (by simp) rfl hit2 HB5 hbw2 hs1 HO5 (by omega) (by omega) (by simp; omega) (by omega) (by omega) (by omega) hmeas
              exact ⟨⟨rfl, HF.1⟩, HF.2⟩
          · have dl : decide (long < 0) = false := by simpa using hl
            rw [if_neg (by omega), if_neg hl] at HS2
            have HS3 : Hid (X = lxs (s.data.toList.drop (pos + d)) (pos + d) (at' + 1) (pos + z) long acc) := HS2
            clear HS2
            go_wp2_with fail
            refine (HB.out _).mono ?_
            rintro e0 w2 ⟨rfl, hw2⟩
            subst hw2
            go_wp2_with fail
            refine (HC3.out _ HVE.out).mono ?_
            rintro e0 w3 ⟨rfl, hb3⟩
            have hs3 := hb3.size
            have HO3 : Hid ((w3.alloc (.cells #[.int .i64 k, .int .i64 q, .string (str S), .int .i64 vk, .int .i64 vn, .string (str vs)] 116)).ownsRow (w1.heap.size + 1) 116 6 (.slice a0 acc.length cap0) acc.length (tkCells acc)) := own_below6 (own_below6 hown2 hb3) (al_below6 _ _)
            have HBb : Hid (Below (w1.heap.size + 1) w2 (w3.alloc (.cells #[.int .i64 k, .int .i64 q, .string (str S), .int .i64 vk, .int .i64 vn, .string (str vs)] 116))) := (hb3.mono hWs).alloc (by omega) _
            clear hown hown2 hb3
            go_wp2
            have HF := lx_again (av := .int .i64 ((at' : Int) + 1)) (nv := .int .i64 ((pos : Int) + z)) (lv := .int .i64 long) HXX HS3 (by simp) (by simp) rfl hit2 HBb hbw2 hs1 HO3 (by omega) (by omega) (by omega) (by omega) (by omega) (by omega) hmeas
            exact ⟨⟨rfl, HF.1⟩, HF.2⟩
        · rw [if_neg (by decide), if_pos rfl] at HS2
          by_cases hl : long < 0
          · have dl : decide (long < 0) = true := by simpa using hl
            rw [if_pos hl] at HS2
            have HS3 : Hid (X = ⟨[], at', 2⟩) := HS2
            have da : decide (0 ≤ (at' : Int)) = true := by simp
            clear HS2
            go_wp2_with fail
            refine (HB.out _).mono ?_
            rintro e0 w2 ⟨rfl, hw2⟩
            subst hw2
            go_wp2_with fail
            refine (HC3.out _ HVE.out).mono ?_
            rintro e0 w3 ⟨rfl, hb3⟩
            have hs3 := hb3.size
            have HBb : Hid (Below w.heap.size w (w3.alloc (.cells #[.int .i64 k, .int .i64 q, .string (str S), .int .i64 vk, .int .i64 vn, .string (str vs)] 116))) := (hbw2.trans (hb3.mono hbw2.size)).alloc (by omega) _
            clear hown hown2 hb3
            go_wp2
            go_ret3
            exact ⟨_, by rw [HXX.out, HS3.out]; rfl, by rw [HXX.out, HS3.out]; exact IsRow.nil _ _, HBb.out⟩
          · have dl : decide (long < 0) = false := by simpa using hl
            have da : decide (0 ≤ long) = true := by simp; omega
            rw [if_neg hl] at HS2
            have HS3 : Hid (X = ⟨[], long, 2⟩) := HS2
            clear HS2
            go_wp2_with fail
            refine (HB.out _).mono ?_
            rintro e0 w2 ⟨rfl, hw2⟩
            subst hw2
            go_wp2_with fail
            refine (HC3.out _ HVE.out).mono ?_
            rintro e0 w3 ⟨rfl, hb3⟩
            have hs3 := hb3.size
            have HBb : Hid (Below w.heap.size w (w3.alloc (.cells #[.int .i64 k, .int .i64 q, .string (str S), .int .i64 vk, .int .i64 vn, .string (str vs)] 116))) := (hbw2.trans (hb3.mono hbw2.size)).alloc (by omega) _
            clear hown hown2 hb3
            go_wp2
            go_ret3
            exact ⟨_, by rw [HXX.out, HS3.out]; rfl, by rw [HXX.out, HS3.out]; exact IsRow.nil _ _, HBb.out⟩
        · rw [if_pos rfl] at HS2
          have HS3 : Hid (X = ⟨[], at', 3⟩) := HS2
          clear HS2
          go_wp2_with fail
          refine (HB.out _).mono ?_
          rintro e0 w2 ⟨rfl, hw2⟩
          subst hw2
          go_wp2_with fail
          refine (HC3.out _ HVE.out).mono ?_
          rintro e0 w3 ⟨rfl, hb3⟩
          have hs3 := hb3.size
          have HBb : Hid (Below w.heap.size w (w3.alloc (.cells #[.int .i64 k, .int .i64 q, .string (str S), .int .i64 vk, .int .i64 vn, .string (str vs)] 116))) := (hbw2.trans (hb3.mono hbw2.size)).alloc (by omega) _
          clear hown hown2 hb3
          go_wp2
          go_ret3
          exact ⟨_, by rw [HXX.out, HS3.out]; rfl, by rw [HXX.out, HS3.out]; exact IsRow.nil _ _, HBb.out⟩
      · have hnx : ∀ ty, (Instr.next (.pointer (some ⟨w1.heap.size, 0, none⟩)) true ty).run Tryz.prog wr = _ := fun ty => Lib.run_next_end_at wr w1.heap.size s pos ty hit hp
        have HE : Hid (lxs s.data.toList 0 0 0 (-1) [] = lxEnd at' long acc) := by
          show _ = _
          rw [← HC.out, List.drop_of_length_le (by rw [← Lib.size_eq]; omega), lxs_nil]
        by_cases hl : 0 ≤ long
        · have dl : decide (0 ≤ long) = true := by simpa using hl
          have HE2 : Hid (lxs s.data.toList 0 0 0 (-1) [] = ⟨[], long, 2⟩) := HE.out.trans (if_pos hl)
          clear HE HC hown
          go_wp2
          go_ret3
          refine ⟨_, by rw [HE2.out]; rfl, by rw [HE2.out]; exact IsRow.nil _ _, hbw⟩
        · have dl : decide (0 ≤ long) = false := by simpa using hl
          have HE2 : Hid (lxs s.data.toList 0 0 0 (-1) [] = ⟨acc, at', 0⟩) := HE.out.trans (if_neg hl)
          have HO : Hid (IsRow wr 6 u2 acc.length (tkCells acc)) := IsRow.own hown
          clear HE HC hown
          go_wp2
          go_ret3
          refine ⟨u2, by rw [HE2.out]; rfl, by rw [HE2.out]; exact HO.out, hbw⟩
end Go.Proofs.YtjamkfkbajhefaaGreatDoor.V
/- filter, where its first predicate is none; Parse: walks. -/
namespace Go.Proofs.YtjamkfkbajhefaaGreatDoor.F
open Go.RowKit

def toFt (t : V.Tk) : Ft := ⟨t.k, t.p, V.str t.s, t.vk, t.vn, V.str t.vs⟩
theorem toFt_cells (l : List V.Tk) : V.tkCells l = ftCells (l.map toFt) := by
  unfold V.tkCells ftCells
  rw [List.flatMap_map]
  rfl
/-- What lexing leaves for the reader. -/
def Ws (w0 : World) (R : Nat) (l : List Ft) (z : Int) : Prop := R < w0.heap.size ∧ Rd w0 R l z w0 ∧ ∀ W, Sr R w0 W → FW W
def PaQ (D : List Pd) (at_ er : Int) (w : World) (e : Ending) (w' : World) : Prop := ∃ a c F, e = .returned (.tuple #[.slice a F.length c, .int .i64 at_, .int .i64 er]) ∧ IsFl w' (.slice a F.length c) F ∧ F.map (·.y) = D ∧ Below w.heap.size w w'
set_option maxRecDepth 100000 in
set_option maxHeartbeats 4000000 in
theorem parse_ok (s : ByteArray) (w : World) (hs : s.size ≤ 1000000) (hV : V.VE w) (hp : V.P10 w) (l : List Ft) (z : Int) (hz : (V.lexL s.data.toList).e = 0) (hza : (V.lexL s.data.toList).a = z) (hlx : (V.lexL s.data.toList).l.map toFt = l) (D : List Pd) (hF : ∀ w0 R, Ws w0 R l z → Calls Tryz.prog 37 #[.pointer (some ⟨R, 0, none⟩)] w0 fun e w' => ∃ T, FlQ w0 R T z D 0 0 w0 e w') :
    Calls Tryz.prog 16 #[.string s] w fun e w' => PaQ D z 0 w e w' := by
  have HL : Hid (Calls Tryz.prog 36 #[.string s] w fun e w' => ∃ a c, e = .returned (.tuple #[.slice a l.length c, .int .i64 z, .int .i64 0]) ∧ IsRow w' 6 (.slice a l.length c) l.length (ftCells l) ∧ Below w.heap.size w w') := by
    refine (V.lex_any s w hs hV).mono ?_
    rintro e w' ⟨v, rfl, hr, hb⟩
    have hll : (V.lexL s.data.toList).l.length = l.length := by rw [← hlx, List.length_map]
    rw [toFt_cells, hlx, hll] at hr
    obtain ⟨a, c, rfl⟩ := hr.form
    exact ⟨a, c, by rw [hz, hza], hr, hb⟩
  have HV : Hid (∀ W, Below w.heap.size w W → FW W) := fun W hb => ⟨(hV.below hb).u, (hV.below hb).t, V.P10_below hp hb⟩
  have HF : Hid _ := hF
  clear hz hza hlx hF hV hp hs
  go_enter Tryz.func16, Tryz.ntmps16
  go_wp2_with fail
  refine HL.out.mono ?_
  rintro e w1 ⟨ra, rc, rfl, hr, hb⟩
  obtain ⟨w2, hw2⟩ : ∃ w2, w2 = w1.alloc (.cells #[.slice ra l.length rc, .int .i64 z] 81) := ⟨_, rfl⟩
  have HW : Hid (Ws w2 w1.heap.size l z) := by
    have hB : ∀ W, Sr w1.heap.size w2 W → Below w1.heap.size w1 W := fun W hW => by
      have h1 : Below w1.heap.size w1 w2 := by rw [hw2]; exact al_f _ _
      exact h1.trans (hW.below h1.size (Nat.le_refl _))
    refine ⟨by rw [hw2]; simp, ⟨ra, rc, by rw [hw2]; exact nw_at _ _, fun W hW => hr.below (hB W hW)⟩, fun W hW => HV.out W (hb.trans ((hB W hW).mono hb.size))⟩
  have HB2 : Hid (∀ W, Sr w1.heap.size w2 W → Below w.heap.size w W) := fun W hW => by
    have h1 : Below w1.heap.size w1 w2 := by rw [hw2]; exact al_f _ _
    exact hb.trans ((h1.trans (hW.below h1.size (Nat.le_refl _))).mono hb.size)
  clear hr hb HL HV
  go_wp2_with fail
  rw [← hw2]
  clear hw2
  refine (HF.out w2 w1.heap.size HW.out).mono ?_
  rintro e w3 ⟨T, a, c, F, rfl, hfl, hmp, hb, hrd⟩
  have HFl : Hid (IsFl w3 (.slice a D.length c) F) := hfl
  have HLn : Hid (F.length = D.length) := by show _ = _; rw [← hmp, List.length_map]
  have HMp : Hid (F.map (·.y) = D) := hmp
  have HB3 : Hid (Below w.heap.size w w3) := HB2.out w3 hb
  clear hfl hmp hb hrd HW HF
  go_wp2
  go_ret3
  refine ⟨a, c, F, by rw [HLn.out]; rfl, ?_, HMp.out, HB3.out.trans (Below.mono (al_f w3 _) HB3.out.size)⟩
  rw [HLn.out]
  exact HFl.out.below (al_f w3 _)
end Go.Proofs.YtjamkfkbajhefaaGreatDoor.F
/- Parse of the example's text. -/
namespace Go.Proofs.YtjamkfkbajhefaaGreatDoor.F
open Go.RowKit

abbrev tx4 : ByteArray := ⟨#[97, 32, 62, 32, 51, 32, 97, 110, 100, 32, 104, 97, 115, 32, 65]⟩
abbrev tk4 : List Ft := [⟨1, 0, ⟨#[97]⟩, 0, 0, ⟨#[]⟩⟩, ⟨3, 2, ⟨#[62]⟩, 0, 0, ⟨#[]⟩⟩, ⟨2, 4, ⟨#[]⟩, 1, 3, ⟨#[]⟩⟩, ⟨1, 6, ⟨#[97, 110, 100]⟩, 0, 0, ⟨#[]⟩⟩, ⟨1, 10, ⟨#[104, 97, 115]⟩, 0, 0, ⟨#[]⟩⟩, ⟨1, 14, ⟨#[65]⟩, 0, 0, ⟨#[]⟩⟩]
theorem lx4 : (V.lexL tx4.data.toList).e = 0 ∧ (V.lexL tx4.data.toList).a = 15 ∧ (V.lexL tx4.data.toList).l.map toFt = tk4 := by
  refine ⟨by kernel_rfl, by kernel_rfl, by kernel_rfl⟩
abbrev d4 : List Pd := [⟨⟨#[97]⟩, 6, [⟨1, 3, ⟨#[]⟩⟩]⟩, ⟨⟨#[65]⟩, 1, []⟩]
def pc4 : Nat → Pc
  | 0 => .word 0 ⟨#[97]⟩
  | _ => .word 10 ⟨#[104, 97, 115]⟩
def ls4 : Nat → List Ft
  | 0 => tk4.drop 1
  | _ => tk4.drop 5
def ms4 : Nat → List Ft
  | 0 => tk4.drop 3
  | _ => []
def D4 : Nat → Pd
  | 0 => ⟨⟨#[97]⟩, 6, [⟨1, 3, ⟨#[]⟩⟩]⟩
  | _ => ⟨⟨#[65]⟩, 1, []⟩
def at4 : Nat → Int
  | 1 => 14
  | _ => 0
theorem filter4 (w0 : World) (R : Nat) (h : Ws w0 R tk4 15) : Calls Tryz.prog 37 #[.pointer (some ⟨R, 0, none⟩)] w0 fun e w' => ∃ T, FlQ w0 R T 15 d4 0 0 w0 e w' := by
  obtain ⟨hR, hRd, hT⟩ := h
  have hP : ∀ j, j < 2 → ∀ W, Sr R w0 W → Rd w0 R (ls4 j) 15 W → Calls Tryz.prog 69 #[.pointer (some ⟨R, 0, none⟩), (pc4 j).v, .bool false] W fun e w' => PrQ w0 R (ms4 j) 15 (D4 j).n (D4 j).o ((D4 j).l, at4 j, 0) W e w' := by
    intro j hj W hs hr
    rcases (by omega : j = 0 ∨ j = 1) with rfl | rfl
    · exact pred_ask w0 R (ls4 0) 15 W hs hr hR (pc4 0) ⟨#[97]⟩ 0 (by show ByteArray.size _ ≤ _; decide) (by kernel_rfl) (by kernel_rfl) (ms4 0) 6 ([⟨1, 3, ⟨#[]⟩⟩], 0, 0)
        (fun W a r => behind_mark w0 R (ls4 0) 15 6 W a r hR (by decide) 2 ⟨#[62]⟩ rfl (by kernel_rfl) (by decide)) hT
    · exact pred_has w0 R (ls4 1) 15 W hs hr hR (pc4 1) ⟨#[65]⟩ 14 (by show ByteArray.size _ ≤ _; decide) (by show ByteArray.size _ ≤ _; decide) (by kernel_rfl) (by kernel_rfl) (by decide) hT
  have := filter_ok w0 R tk4 15 w0 (Sr.refl _ _) hRd hR (by decide) hT 2 (by decide) (by decide) pc4 ls4 ms4 D4 at4 rfl rfl (by show ByteArray.size _ ≤ _; decide) (by kernel_rfl) hP
    (fun j hj => by rcases (by omega : j = 0 ∨ j = 1) with rfl | rfl
                    · exact ⟨by decide, by show ByteArray.size _ ≤ _; decide⟩
                    · exact ⟨by decide, trivial⟩)
    (fun j hj => by obtain rfl : j = 0 := by omega
                    exact ⟨by kernel_rfl, rfl, rfl⟩) rfl
  exact this.mono fun e w' h => ⟨_, h⟩
theorem parse4 (w : World) (hV : V.VE w) (hp : V.P10 w) : Calls Tryz.prog 16 #[.string tx4] w fun e w' => PaQ d4 15 0 w e w' :=
  parse_ok tx4 w (by decide) hV hp tk4 15 lx4.1 lx4.2.1 lx4.2.2 d4 filter4
end Go.Proofs.YtjamkfkbajhefaaGreatDoor.F
