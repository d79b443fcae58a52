/- LinkFull: for every input the law returns true. -/
import Derived.Test.YtiokcepaamlphaaLnR
namespace Go.Proofs.Ytiokcepaamlphaa
open Go.RowKit Go.ChangeMaps

theorem St.app {w0 w w' : World} {l : List (Tg w0.heap.size)} {v v' : Value} {O O' : List Pk} (h : St w0 (pkT _ v O :: l) w) (ho : OwnW w' w0.heap.size v' O') (hg : w.grownBy w' v.ownBlock) (hat : v'.ownBlock = v.ownBlock ∨ v'.ownBlock = some w.heap.size) : St w0 (pkT _ v' O' :: l) w' := by
  refine h.step (t' := pkT _ v' O') ⟨hg.os, hg.tape, hg.output, hg.size, fun k hk hn => hg.block k hk fun e => hn e.symm, fun k hf => ?_⟩ ho
  rcases hat with h1 | h1
  · exact .inl (h1.symm.trans hf)
  · have : some w.heap.size = some k := h1.symm.trans hf
    cases this; exact .inr (Nat.le_refl _)
theorem St.appS {w0 w w' : World} {l : List (Tg w0.heap.size)} {v v' : Value} {O O' : List ByteArray} (h : St w0 (strT _ v O :: l) w) (ho : w'.ownsRow w0.heap.size 9 1 v' O'.length (O'.map .string)) (hg : w.grownBy w' v.ownBlock) (hat : v'.ownBlock = v.ownBlock ∨ v'.ownBlock = some w.heap.size) : St w0 (strT _ v' O' :: l) w' := by
  refine h.step (t' := strT _ v' O') ⟨hg.os, hg.tape, hg.output, hg.size, fun k hk hn => hg.block k hk fun e => hn e.symm, fun k hf => ?_⟩ ho
  rcases hat with h1 | h1
  · exact .inl (h1.symm.trans hf)
  · have : some w.heap.size = some k := h1.symm.trans hf
    cases this; exact .inr (Nat.le_refl _)
/-- A packet of a row, cell by cell. -/
theorem OwnW.atj {w : World} {base b n cap : Nat} {l : List Pk} (h : OwnW w base (.slice (some ⟨b, 0, none⟩) n cap) l) (j : Nat) (hj : j < l.length) : w.cell? ⟨b, j * 7, none⟩ = some (.int .i64 l[j].f) ∧ w.cell? ⟨b, j * 7 + 1, none⟩ = some (.int .i64 l[j].t) ∧ w.cell? ⟨b, j * 7 + 2, none⟩ = some (.int .i64 l[j].fl) ∧ w.cell? ⟨b, j * 7 + 3, none⟩ = some (.int .i64 l[j].tl) ∧ w.cell? ⟨b, j * 7 + 4, none⟩ = some (.int .i64 l[j].sq) ∧ w.cell? ⟨b, j * 7 + 5, none⟩ = some (.int .i64 l[j].ak) ∧ w.cell? ⟨b, j * 7 + 6, none⟩ = some (.string l[j].x) := by
  rcases h with ⟨h, _⟩ | ⟨g, cap', cur, e, hb, hg, hc, hm, hs, ht⟩
  · cases h
  cases e
  have hcell : ∀ i, i < 7 → w.cell? ⟨b, j * 7 + i, none⟩ = (enP l[j])[i]? := fun i hi => by
    have e := pCells_get l j hj i hi
    rw [cell_of_row w b _ cur _ (0, 0) hg, ← e, ← ht, List.getElem?_take, if_pos (by omega)]
    simp
  exact ⟨hcell 0 (by omega), hcell 1 (by omega), hcell 2 (by omega), hcell 3 (by omega), hcell 4 (by omega), hcell 5 (by omega), hcell 6 (by omega)⟩
abbrev x120 : ByteArray := ⟨#[120]⟩
/-- The sender, with so many texts from a number on; the receiver. -/
def fa (b n : Nat) : Lk := ⟨⟨1, 1, 2, 1, 1⟩, List.replicate n x120, b, min 8 n, 1, []⟩
def fb (i : Nat) : Lk := ⟨⟨2, 1, 1, 1, 1⟩, [], 1, 0, 1 + (i : Int), []⟩
def fp1 (i : Nat) : Pk := ⟨1, 2, 1, 1, 1 + (i : Int), 0, x120⟩
def fq1 (i : Nat) : Pk := ⟨2, 1, 1, 1, 0, 1 + (i : Int), ⟨#[]⟩⟩
def ff (k : Nat) : List Pk := (List.range (min k 8)).map fp1
theorem fa0 : A0 = fa 1 0 := rfl
theorem fb0 : B0 = fb 0 := rfl
theorem fa_ok (b n : Nat) (hb : 1 ≤ b) (hb2 : b ≤ 1000) (hn : n ≤ 64) : LkOk (fa b n) := by
  have e : (fa b n).q.length = n := by simp [fa]
  exact ⟨by show (1 : Int) ≤ b; omega, by rw [e]; show (b : Int) + n ≤ _; omega, by show min 8 n ≤ 8; omega, by rw [e]; show min 8 n ≤ n; omega, by rw [e]; exact hn, by show (1 : Int) ≤ 1; decide, by show (1 : Int) ≤ 1099511627775; decide⟩
theorem fb_ok (i : Nat) (hi : i ≤ 1000) : LkOk (fb i) := ⟨by show (1 : Int) ≤ 1; decide, by show (1 : Int) + 0 ≤ 1099511627775; decide, by show 0 ≤ 8; decide, by show 0 ≤ 0; decide, by show 0 ≤ 64; decide, by show (1 : Int) ≤ 1 + i; omega, by show 1 + (i : Int) ≤ _; omega⟩
theorem rep_snoc (n : Nat) : List.replicate n x120 ++ [x120] = List.replicate (n + 1) x120 := by
  rw [List.replicate_succ']
theorem fa_send (n : Nat) (hn : n < 64) : sndE (fa 1 n) x120 = 0 ∧ sndL (fa 1 n) x120 = fa 1 (n + 1) ∧ sndO (fa 1 n) x120 = if n < 8 then [fp1 n] else [] := by
  have e : (fa 1 n).q.length = n := by simp [fa]
  have h0 : sndE (fa 1 n) x120 = 0 := by
    unfold sndE
    rw [if_neg (by decide), e, if_neg (by show ¬ 1099511627774 < (1 : Int) + n; omega), if_neg (by omega)]
  have hq : addQ (fa 1 n) x120 = ⟨⟨1, 1, 2, 1, 1⟩, List.replicate (n + 1) x120, 1, min 8 n, 1, []⟩ := by
    show (⟨_, List.replicate n x120 ++ [x120], _, _, _, _⟩ : Lk) = _
    rw [rep_snoc]; rfl
  have hk : goK (addQ (fa 1 n) x120) = if n < 8 then 1 else 0 := by
    rw [hq]; unfold goK
    dsimp only
    rw [List.length_replicate]
    split <;> omega
  refine ⟨h0, ?_, ?_⟩
  · unfold sndL
    rw [if_pos h0]
    show goO (addQ (fa 1 n) x120) (goK (addQ (fa 1 n) x120)) = _
    rw [hk, hq]
    unfold goO fa
    dsimp only
    congr 1
    split <;> omega
  · unfold sndO
    rw [if_pos h0, hk]
    split
    · rename_i h8
      rw [pks_succ, show pks (addQ (fa 1 n) x120) (fa 1 n).o 0 = [] from rfl, List.nil_append, hq]
      show [pkL _ (1 + ((min 8 n + 0 : Nat) : Int)) ((List.replicate (n + 1) x120).getD (min 8 n + 0) ⟨#[]⟩)] = _
      rw [show min 8 n + 0 = n by omega, List.getD_eq_getElem?_getD, List.getElem?_replicate, if_pos (by omega)]
      rfl
    · rfl
theorem fa_full : sndE (fa 1 64) x120 = 6 ∧ sndL (fa 1 64) x120 = fa 1 64 ∧ sndO (fa 1 64) x120 = [] := by
  have e : (fa 1 64).q.length = 64 := by simp [fa]
  have h0 : sndE (fa 1 64) x120 = 6 := by
    unfold sndE
    rw [if_neg (by decide), e, if_neg (by show ¬ 1099511627774 < (1 : Int) + 64; omega), if_pos (by omega)]
  refine ⟨h0, ?_, ?_⟩
  · unfold sndL; rw [h0]; rfl
  · unfold sndO; rw [h0]; rfl
/-- What each send does. -/
theorem fa_all (k : Nat) : sndE (fa 1 (min k 64)) x120 = (if k < 64 then 0 else 6) ∧ sndL (fa 1 (min k 64)) x120 = fa 1 (min (k + 1) 64) ∧ sndO (fa 1 (min k 64)) x120 = (if k < 8 then [fp1 k] else []) := by
  by_cases h : k < 64
  · obtain ⟨h1, h2, h3⟩ := fa_send k h
    rw [show min k 64 = k by omega, show min (k + 1) 64 = k + 1 by omega, if_pos h]
    exact ⟨h1, h2, h3⟩
  · rw [show min k 64 = 64 by omega, show min (k + 1) 64 = 64 by omega, if_neg h, if_neg (by omega)]
    exact fa_full
theorem ff_succ (k : Nat) : ff k ++ (if k < 8 then [fp1 k] else []) = ff (k + 1) := by
  unfold ff
  split
  · rw [show min (k + 1) 8 = min k 8 + 1 by omega, List.range_succ, List.map_append, show min k 8 = k by omega]; rfl
  · rw [List.append_nil, show min (k + 1) 8 = min k 8 by omega]
theorem fb_take (i : Nat) (hi : i ≤ 1000) : lookE (fb i) (fp1 i) = 0 ∧ tkO (fb i) (fp1 i) = [fq1 i] ∧ tkL (fb i) (fp1 i) = fb (i + 1) := by
  have hc : chkP (fp1 i) = true := by
    unfold chkP fp1 nodeB cntB seqB
    dsimp only
    simp only [Bool.and_eq_true, decide_eq_true_eq, Bool.or_eq_true, Bool.not_eq_true', decide_eq_false_iff_not]
    refine ⟨by decide, by decide, by decide, by decide, by decide, ⟨by omega, by omega⟩, by decide, by decide, .inr (by omega)⟩
  have h0 : lookE (fb i) (fp1 i) = 0 := by unfold lookE; rw [if_pos ⟨hc, rfl, rfl⟩, if_pos ⟨rfl, rfl⟩]
  have hs : ¬ (fp1 i).sq = 0 := by show ¬ 1 + (i : Int) = 0; omega
  have hA : tkA (fb i) (fp1 i) = fb i := by unfold tkA ackL; rw [if_neg]; rintro ⟨h1, h2⟩; exact absurd (show (1 : Int) ≤ 0 from h1) (by decide)
  have hR : tkR (fb i) (fp1 i) = ⟨⟨2, 1, 1, 1, 1⟩, [], 1, 0, 1 + (i : Int), [(1 + (i : Int), x120)]⟩ := by
    unfold tkR
    rw [hA]
    unfold arrL
    rw [if_pos ⟨⟨by show 1 + (i : Int) ≤ 1 + (i : Int); omega, by show 1 + (i : Int) < 1 + (i : Int) + 8; omega⟩, rfl⟩]
    rfl
  have hat : atE [(1 + (i : Int), x120)] (1 + (i : Int)) = some x120 := by simp [atE]
  have hdr : dropE [(1 + (i : Int), x120)] (1 + (i : Int)) = [] := by simp [dropE]
  have hB : tkB (fb i) (fp1 i) = fb (i + 1) := by
    unfold tkB hndL
    rw [hR]
    show (hnd 1 _).2 = _
    rw [hnd_go (s := x120) (by show 1 + (i : Int) < _; omega) hat]
    dsimp only
    rw [hdr]
    show (⟨_, _, _, _, _, _⟩ : Lk) = _
    unfold fb
    rw [show (1 + (i : Int) + 1) = 1 + ((i + 1 : Nat) : Int) by omega]
  have hk : goK (fb (i + 1)) = 0 := rfl
  refine ⟨h0, ?_, ?_⟩
  · unfold tkO
    rw [if_pos h0, if_neg hs, hB, if_pos hk]
    unfold pkL fb fq1
    dsimp only
    rw [show 1 + ((i + 1 : Nat) : Int) - 1 = 1 + (i : Int) by omega]
  · unfold tkL
    rw [if_pos h0, if_neg hs, hB]
    rfl
theorem fa_take (i m : Nat) (hi : i ≤ 7) (hm : 52 ≤ m) (hm2 : m ≤ 64) : lookE (fa (i + 1) m) (fq1 i) = 0 ∧ (tkO (fa (i + 1) m) (fq1 i)).length = 1 ∧ tkL (fa (i + 1) m) (fq1 i) = fa (i + 2) (m - 1) := by
  have hc : chkP (fq1 i) = true := by
    unfold chkP fq1 nodeB cntB seqB
    dsimp only
    simp only [Bool.and_eq_true, decide_eq_true_eq, Bool.or_eq_true, Bool.not_eq_true', decide_eq_false_iff_not]
    refine ⟨by decide, by decide, by decide, by decide, by decide, by decide, ⟨by omega, by omega⟩, by decide, .inl (by decide)⟩
  have h0 : lookE (fa (i + 1) m) (fq1 i) = 0 := by unfold lookE; rw [if_pos ⟨hc, rfl, rfl⟩, if_pos ⟨rfl, rfl⟩]
  have hs : (fq1 i).sq = 0 := rfl
  have hn : ackN (fa (i + 1) m) (fq1 i).ak = 1 := by
    unfold ackN
    show (1 + (i : Int) - ((i + 1 : Nat) : Int) + 1).toNat = 1
    omega
  have hA : tkA (fa (i + 1) m) (fq1 i) = ⟨⟨1, 1, 2, 1, 1⟩, List.replicate (m - 1) x120, ((i + 2 : Nat) : Int), 7, 1, []⟩ := by
    unfold tkA ackL
    rw [if_pos ⟨by show ((i + 1 : Nat) : Int) ≤ 1 + (i : Int); omega, by show 1 + (i : Int) < ((i + 1 : Nat) : Int) + ((min 8 m : Nat) : Int); omega⟩, hn]
    show (⟨_, (List.replicate m x120).drop 1, 1 + (i : Int) + 1, min 8 m - 1, _, _⟩ : Lk) = _
    rw [List.drop_replicate, show (1 + (i : Int) + 1) = ((i + 2 : Nat) : Int) by omega, show min 8 m - 1 = 7 by omega]
    rfl
  have hk : goK (tkA (fa (i + 1) m) (fq1 i)) = 1 := by
    rw [hA]; unfold goK
    dsimp only
    rw [List.length_replicate]
    omega
  refine ⟨h0, ?_, ?_⟩
  · unfold tkO
    rw [if_pos h0, if_pos hs, pks_len, hk]
  · unfold tkL
    rw [if_pos h0, if_pos hs]
    show goO _ (goK _) = _
    rw [hk, hA]
    unfold goO fa
    dsimp only
    congr 1
    omega
set_option maxRecDepth 100000 in
set_option maxHeartbeats 4000000 in
theorem linkFull_walk (many acks : Int) (w : World) : Calls Try.prog 8 #[.int .i64 many, .int .i64 acks] w fun e w' => e = .returned (.bool true) ∧ Below w.heap.size w w' := by
  have HAw : Hid (∀ w, Calls Try.prog 11 #[] w fun e w' => e = .returned (.bool true) ∧ Below w.heap.size w w') := awake13_any
  have HEn : Hid (Calls Try.prog 34 #[.int .i64 1] w fun e w' => e = .returned (.tuple #[eV (edA 1), eV (edB 1)]) ∧ Below w.heap.size w w') := ends13_any 1 w
  have HNw : Hid (∀ (l : List (Tg w.heap.size)) w', St w l w' → ∀ me lf pe pl fi : Int, mayX ⟨me, lf, pe, pl, fi⟩ = true → Calls Try.prog 9 #[.agg #[.int .i64 me, .int .i64 lf, .int .i64 pe, .int .i64 pl, .int .i64 fi]] w' fun e w'' => ∃ g m, e = .returned (lP g) ∧ St w (linkT _ g m (.slice none 0 0) (newL ⟨me, lf, pe, pl, fi⟩) :: l) w'' ∧ Below w'.heap.size w' w'') := fun l w' h me lf pe pl fi hm => newE_any h ⟨me, lf, pe, pl, fi⟩ hm
  have HA1 : Hid (∀ w, Calls Try.prog 33 #[.int .i64 many, .int .i64 20] w fun e w' => e = .returned (.int .i64 (atN many 20 : Int)) ∧ w' = w) := fun w => at_any many 20 (by decide) (by decide) w
  have HA2 : Hid (∀ w, Calls Try.prog 33 #[.int .i64 acks, .int .i64 9] w fun e w' => e = .returned (.int .i64 (atN acks 9 : Int)) ∧ w' = w) := fun w => at_any acks 9 (by decide) (by decide) w
  have hm1 := atN_lt many 20 (by decide)
  have hm2 := atN_lt acks 9 (by decide)
  generalize atN many 20 = M0 at *
  generalize atN acks 9 = C at *
  go_enter Try.func8, Try.ntmps8
  go_wp2_with fail
  refine HEn.out.mono ?_
  rintro e w1 ⟨rfl, hb1⟩
  dsimp only [eV, edA, edB]
  have hbx := bx2_new w1 1
  have hbb : Below w.heap.size w ((w1.alloc (.cells (eA (edA 1)) 23)).alloc (.cells (eA (edB 1)) 23)) := (hb1.trans ((al_b w1 _).mono hb1.size)).trans ((al_b _ _).mono (by have := hb1.size; simp; omega))
  have hT0 : St w [] ((w1.alloc (.cells (eA (edA 1)) 23)).alloc (.cells (eA (edB 1)) 23)) := ⟨fun _ h => by simp at h, List.Pairwise.nil, hbb⟩
  have HX : Hid (Bx2 w1.heap.size 1 ((w1.alloc (.cells (eA (edA 1)) 23)).alloc (.cells (eA (edB 1)) 23))) := hbx
  have HT : Hid (St w [] ((w1.alloc (.cells (eA (edA 1)) 23)).alloc (.cells (eA (edB 1)) 23))) := hT0
  dsimp only [eA, edA, edB] at HX HT
  clear hbx hbb hT0 hb1
  go_wp2_with fail
  generalize ((w1.alloc (.cells #[.int .i64 1, .int .i64 1, .int .i64 2, .int .i64 1, .int .i64 1] 23)).alloc (.cells #[.int .i64 2, .int .i64 1, .int .i64 1, .int .i64 1, .int .i64 1] 23)) = W at *
  generalize w1.heap.size = H at *
  go_cut [7, 8] (fun p q wx => Two w 1 [] p q wx)
  case first =>
    obtain ⟨⟨x0, x1, x2, x3, x4⟩, y0, y1, y2, y3, y4⟩ := HX.out.cells
    have hT1 : St w [] W.drew := HT.out.drew
    have HXc : Hid (∀ w2, Below W.heap.size W w2 → _) := fun w2 hb => (HX.out.below hb).cells
    go_region_with (go_at_call 9; refine (HNw.out _ _ (by with_reducible assumption) _ _ _ _ _ (by decide)).mono ?_; rintro e wz ⟨g, m, rfl, T, hb⟩; first | (have hc := HXc.out _ (below_ud hb); obtain ⟨⟨a0, a1, a2, a3, a4⟩, b0, b1, b2, b3, b4⟩ := hc) | skip)
    all_goals (try go_wp2_with fail)
    all_goals go_meet
    all_goals first | exact Two.ab (by with_reducible assumption) | exact Two.ba (by with_reducible assumption)
  case rest =>
    obtain ⟨ga, ma, gb, mb, rfl, rfl, T1⟩ := hcut
    have HT1 : Hid (St w [linkT _ ga ma (.slice none 0 0) (fa 1 0), linkT _ gb mb (.slice none 0 0) (fb 0)] wc) := T1
    clear T1 HX HT HNw HEn
    go_wp2_with fail
    refine (HA1.out _).mono ?_
    rintro e w2 ⟨rfl, rfl⟩
    obtain ⟨N, hN1, hN2, hN3⟩ : ∃ N : Nat, 60 ≤ N ∧ N ≤ 79 ∧ IntKind.i64.wrap (60 + (M0 : Int)) = (N : Int) := ⟨60 + M0, by omega, by omega, by rw [wrapI (by omega) (by omega)]; omega⟩
    clear HA1
    go_wp2_with fail
    refine (HA2.out _).mono ?_
    rintro e w2 ⟨rfl, rfl⟩
    clear HA2
    go_wp2_with fail
    refine (HAw.out _).mono ?_
    rintro e w3 ⟨rfl, hb3⟩
    have HT3 : Hid (St w [linkT _ ga ma (.slice none 0 0) (fa 1 0), pkT _ (.slice none 0 0) (ff 0), linkT _ gb mb (.slice none 0 0) (fb 0)] w3) := by
      have h1 := HT1.out.below hb3
      have h2 : St w [pkT _ (.slice none 0 0) (ff 0), linkT _ ga ma (.slice none 0 0) (fa 1 0), linkT _ gb mb (.slice none 0 0) (fb 0)] w3 := h1.new (Below.refl _ _) (t := pkT _ (.slice none 0 0) (ff 0)) (.inl ⟨rfl, rfl⟩) fun k hk => by simp [pkT, Value.ownBlock] at hk
      exact h2.rot2
    clear hb3 HT1 HAw
    go_wp2_with fail
    go_loopw [9, 10, 11, 12] (fun v i _ _ wr => ∃ k : Nat, k ≤ N ∧ i = .int .i64 (k : Int) ∧ Hid (∃ va, St w [linkT _ ga ma va (fa 1 (min k 64)), pkT _ v (ff k), linkT _ gb mb (.slice none 0 0) (fb 0)] wr)) (fun _ i _ _ _ => N - (intOf i).toNat)
    case atStart => exact ⟨0, Nat.zero_le _, rfl, _, HT3.out⟩
    case round =>
      obtain ⟨k, hk, rfl, HR⟩ := hrel
      clear HT3
      by_cases hlk : k < N
      · have dk : decide (k < N) = true := by simp; omega
        have wk : IntKind.i64.wrap ((k : Int) + 1) = (k : Int) + 1 := wrapI (by omega) (by omega)
        obtain ⟨va, T⟩ := HR.out
        obtain ⟨f1, f2, f3⟩ := fa_all k
        have C1 : Hid (Calls Try.prog 14 #[lP ga, .string x120] wr fun e w' => ∃ r vq', e = .returned (.tuple #[r, .int .i64 (if k < 64 then 0 else 6)]) ∧ St w [pkT _ r (if k < 8 then [fp1 k] else []), linkT _ ga ma vq' (fa 1 (min (k + 1) 64)), pkT _ u9 (ff k), linkT _ gb mb (.slice none 0 0) (fb 0)] w') := by
          have := T.send (fa_ok 1 (min k 64) (by decide) (by decide) (by omega)) x120 (by decide)
          rw [f1, f2, f3] at this
          exact this
        have hfl : (ff k).length ≤ 8 := by simp [ff]; omega
        have HFS : Hid (ff k ++ (if k < 8 then [fp1 k] else []) = ff (k + 1)) := ff_succ k
        clear T HR f1 f2 f3
        go_wp2_with fail
        refine C1.out.mono ?_
        rintro e w4 ⟨r, va4, rfl, T4⟩
        have HT4 : Hid (St w [pkT _ u9 (ff k), linkT _ ga ma va4 (fa 1 (min (k + 1) 64)), linkT _ gb mb (.slice none 0 0) (fb 0)] w4) := T4.tl.rot2
        have hr4 : IsRow w4 7 r (if k < 8 then [fp1 k] else []).length (pCells (if k < 8 then [fp1 k] else [])) := (show OwnW w4 _ r _ from T4.hd).row
        have HR4 : Hid (IsRow w4 7 r (if k < 8 then [fp1 k] else []).length (pCells (if k < 8 then [fp1 k] else []))) := hr4
        have hz4 : w.heap.size ≤ w4.heap.size := T4.to.size
        obtain ⟨ra, rcap, rfl⟩ := hr4.form
        clear hr4 T4 C1
        by_cases h8 : k < 8
        · have d8 : decide ((8 : Int) ≤ (k : Int)) = false := by simp; omega
          have d64 : decide ((k : Int) < 64) = true := by simp; omega
          rw [if_pos h8] at *
          rw [if_pos (show k < 64 by omega)]
          dsimp only [List.length_singleton, List.length_cons, List.length_nil, Nat.zero_add] at *
          go_wp2_with (at_builtin; go_loud (refine wpl_apps _ rfl (.tmp 67) (.tmp 68) rfl w.heap.size u9 (.slice ra 1 rcap) (ff k) [fp1 k] rfl rfl HT4.out.hd HR4.out (by simp; omega) hz4 ?_); intro v7 w7 hown7 hgrow7 hat7)
          have HF7 : Hid (∃ va, St w [linkT _ ga ma va (fa 1 (min (k + 1) 64)), pkT _ v7 (ff (k + 1)), linkT _ gb mb (.slice none 0 0) (fb 0)] w7) := by
            refine ⟨va4, ?_⟩
            rw [← HFS.out]
            exact (HT4.out.app hown7 hgrow7 hat7).rot2
          clear hown7 hgrow7 hat7 HT4 HR4
          go_wp2
          go_roundw
          case rel => exact ⟨k + 1, by omega, by simp, HF7⟩
          case measure => simp [intOf]; omega
        · have d8 : decide ((8 : Int) ≤ (k : Int)) = true := by simp; omega
          rw [if_neg h8] at *
          dsimp only [List.length_nil] at *
          by_cases h64 : k < 64
          · have d64 : decide ((k : Int) < 64) = true := by simp; omega
            rw [if_pos h64]
            go_wp2_with (at_builtin; go_loud (refine wpl_apps _ rfl (.tmp 67) (.tmp 68) rfl w.heap.size u9 (.slice ra 0 rcap) (ff k) [] rfl rfl HT4.out.hd HR4.out (by simp; omega) hz4 ?_); intro v7 w7 hown7 hgrow7 hat7)
            have HF7 : Hid (∃ va, St w [linkT _ ga ma va (fa 1 (min (k + 1) 64)), pkT _ v7 (ff (k + 1)), linkT _ gb mb (.slice none 0 0) (fb 0)] w7) := by
              refine ⟨va4, ?_⟩
              rw [← HFS.out]
              exact (HT4.out.app hown7 hgrow7 hat7).rot2
            clear hown7 hgrow7 hat7 HT4 HR4
            go_wp2
            go_roundw
            case rel => exact ⟨k + 1, by omega, by simp, HF7⟩
            case measure => simp [intOf]; omega
          · have d64 : decide ((k : Int) < 64) = false := by simp; omega
            rw [if_neg h64]
            go_wp2_with (at_builtin; go_loud (refine wpl_apps _ rfl (.tmp 67) (.tmp 68) rfl w.heap.size u9 (.slice ra 0 rcap) (ff k) [] rfl rfl HT4.out.hd HR4.out (by simp; omega) hz4 ?_); intro v7 w7 hown7 hgrow7 hat7)
            have HF7 : Hid (∃ va, St w [linkT _ ga ma va (fa 1 (min (k + 1) 64)), pkT _ v7 (ff (k + 1)), linkT _ gb mb (.slice none 0 0) (fb 0)] w7) := by
              refine ⟨va4, ?_⟩
              rw [← HFS.out]
              exact (HT4.out.app hown7 hgrow7 hat7).rot2
            clear hown7 hgrow7 hat7 HT4 HR4
            go_wp2
            go_roundw
            case rel => exact ⟨k + 1, by omega, by simp, HF7⟩
            case measure => simp [intOf]; omega
      · have hk' : k = N := by omega
        subst hk'
        have hfe : ff k = ff 8 := by unfold ff; rw [show min k 8 = min 8 8 by omega]
        rw [hfe] at HR
        obtain ⟨va, T⟩ := HR.out
        obtain ⟨b9, cap9, h9, -⟩ := (show OwnW wr _ u9 (fp1 0 :: _) from T.tl.hd).first
        have e8 : u9 = .slice (some ⟨b9, 0, none⟩) 8 cap9 := h9
        subst e8
        have HR9 : Hid (∃ va vb, St w [linkT _ ga ma va (fa 1 (min k 64)), linkT _ gb mb vb (fb 0), pkT _ (.slice (some ⟨b9, 0, none⟩) 8 cap9) (ff 8)] wr) := ⟨va, _, (T.rot3).rot2⟩
        clear T hfe h9 HR
        go_wp2_with fail
        go_loopw [13, 14, 15, 16, 17, 18, 19] (fun i _ _ _ _ _ _ wr => ∃ j : Nat, j ≤ C ∧ i = .int .i64 (j : Int) ∧ Hid (∃ va vb, St w [linkT _ ga ma va (fa (j + 1) (min k 64 - j)), linkT _ gb mb vb (fb j), pkT _ (.slice (some ⟨b9, 0, none⟩) 8 cap9) (ff 8)] wr)) (fun i _ _ _ _ _ _ _ => C - (intOf i).toNat)
        case atStart => exact ⟨0, Nat.zero_le _, rfl, HR9.out⟩
        case round =>
          obtain ⟨j, hj, rfl, HJ⟩ := hrel
          clear HR9
          obtain ⟨va, vb, T⟩ := HJ.out
          by_cases hlj : j < C
          · have dj : decide (j < C) = true := by simp; omega
            have wj : IntKind.i64.wrap ((j : Int) + 1) = (j : Int) + 1 := wrapI (by omega) (by omega)
            obtain ⟨z0, z1, z2, z3, z4, z5, z6⟩ := OwnW.atj (show OwnW wr _ (.slice (some ⟨b9, 0, none⟩) 8 cap9) (ff 8) from T.tl.tl.hd) j (by simp [ff]; omega)
            have ej : ∀ h, (ff 8)[j]'h = fp1 j := fun h => by simp [ff]
            rw [ej] at z0 z1 z2 z3 z4 z5 z6
            dsimp only [fp1] at z0 z1 z2 z3 z4 z5 z6
            clear ej
            obtain ⟨f1, f2, f3⟩ := fb_take j (by omega)
            have C1 : Hid (Calls Try.prog 18 #[lP gb, .agg #[.int .i64 1, .int .i64 2, .int .i64 1, .int .i64 1, .int .i64 (1 + (j : Int)), .int .i64 0, .string x120]] wr fun e w' => ∃ tr r vq', e = .returned (.tuple #[tr, r, .int .i64 0]) ∧ St w [strT _ tr (tkT (fb j) (fp1 j)), pkT _ r [fq1 j], linkT _ gb mb vq' (fb (j + 1)), linkT _ ga ma va (fa (j + 1) (min k 64 - j)), pkT _ (.slice (some ⟨b9, 0, none⟩) 8 cap9) (ff 8)] w') := by
              have := T.rot2.take (fb_ok j (by omega)) (by show (0 : Nat) ≤ 900; decide) (fp1 j) (by show (1 : Nat) ≤ _; decide)
              rw [f1, f2, f3] at this
              exact this
            have i1 : (0 : Int) ≤ (j : Int) := by omega
            have i2 : (j : Int) < 8 := by omega
            clear T HJ f1 f2 f3
            go_wp2_with fail
            refine C1.out.mono ?_
            rintro e w4 ⟨tr, r, vb4, rfl, T4⟩
            obtain ⟨rb, rcap, rfl, y0, y1, y2, y3, y4, y5, y6⟩ := (show OwnW w4 _ r [fq1 j] from T4.tl.hd).first
            dsimp only [fq1, List.length_nil, Nat.zero_add] at y0 y1 y2 y3 y4 y5 y6 ⊢
            obtain ⟨g1, g2, g3⟩ := fa_take j (min k 64 - j) (by omega) (by omega) (by omega)
            have C2 : Hid (Calls Try.prog 18 #[lP ga, .agg #[.int .i64 2, .int .i64 1, .int .i64 1, .int .i64 1, .int .i64 0, .int .i64 (1 + (j : Int)), .string ⟨#[]⟩]] w4 fun e w' => ∃ tr r vq', e = .returned (.tuple #[tr, r, .int .i64 0]) ∧ St w [strT _ tr (tkT (fa (j + 1) (min k 64 - j)) (fq1 j)), pkT _ r (tkO (fa (j + 1) (min k 64 - j)) (fq1 j)), linkT _ ga ma vq' (fa (j + 2) (min k 64 - j - 1)), linkT _ gb mb vb4 (fb (j + 1)), pkT _ (.slice (some ⟨b9, 0, none⟩) 8 cap9) (ff 8)] w') := by
              have := (T4.tl.tl.rot2).take (fa_ok (j + 1) (min k 64 - j) (by omega) (by omega) (by omega)) (by show (0 : Nat) ≤ 900; decide) (fq1 j) (by show (0 : Nat) ≤ _; decide)
              rw [g1, g3] at this
              exact this
            clear T4 C1 g1 g3 z0 z1 z2 z3 z4 z5 z6
            go_wp2_with fail
            refine C2.out.mono ?_
            rintro e w5 ⟨tr5, r5, va5, rfl, T5⟩
            obtain ⟨ra5, rcap5, hr5⟩ := (show OwnW w5 _ r5 _ from T5.tl.hd).form
            rw [g2] at hr5
            subst hr5
            have HJ5 : Hid (∃ va vb, St w [linkT _ ga ma va (fa (j + 1 + 1) (min k 64 - (j + 1))), linkT _ gb mb vb (fb (j + 1)), pkT _ (.slice (some ⟨b9, 0, none⟩) 8 cap9) (ff 8)] w5) := ⟨va5, vb4, by rw [show min k 64 - (j + 1) = min k 64 - j - 1 by omega]; exact T5.tl.tl⟩
            clear T5 C2 g2 y0 y1 y2 y3 y4 y5 y6
            go_wp2
            go_roundw
            case rel => exact ⟨j + 1, by omega, by simp, HJ5⟩
            case measure => simp [intOf]; omega
          · have hj' : j = C := by omega
            subst hj'
            have HL : Hid (Calls Try.prog 23 #[lP ga] wr fun e w' => e = .returned (.int .i64 ((min k 64 - j : Nat) : Int)) ∧ w' = wr) := by
              have := left_any (show LinkV _ wr ga ma va (fa (j + 1) (min k 64 - j)) from T.hd)
              rw [show (fa (j + 1) (min k 64 - j)).q.length = min k 64 - j by simp [fa]] at this
              exact this
            have HBs : Hid (Calls Try.prog 24 #[lP ga] wr fun e w' => e = .returned (.int .i64 ((j + 1 : Nat) : Int)) ∧ w' = wr) := base_any (show LinkV _ wr ga ma va (fa (j + 1) (min k 64 - j)) from T.hd)
            have HBe : Hid (Below w.heap.size w wr) := T.to
            have wm : IntKind.i64.wrap (((min k 64 : Nat) : Int) - (j : Int)) = ((min k 64 - j : Nat) : Int) := by rw [wrapI (by omega) (by omega)]; omega
            have wb : IntKind.i64.wrap (1 + (j : Int)) = ((j + 1 : Nat) : Int) := by rw [wrapI (by omega) (by omega)]; omega
            clear T HJ
            go_wp2_with fail
            refine HL.out.mono ?_
            rintro e w6 ⟨rfl, rfl⟩
            go_wp2_with fail
            refine HBs.out.mono ?_
            rintro e w6 ⟨rfl, rfl⟩
            go_wp2
            go_ret
            exact ⟨rfl, HBe.out⟩
end Go.Proofs.Ytiokcepaamlphaa
