/- The reference's Split and part: walks. -/
import Derived.Test.YtfbnlkgopncejaaGreatDoorNN
import Derived.Test.YtfbnlkgopncejaaGreatDoorNT
namespace Go.Proofs.YtfbnlkgopncejaaGreatDoor
open Go.RowKit

/-- The slice v has as many elements as qs, each a slice of a row of qs. -/
def RowsOf (w : World) (v : Value) (qs : List (List Nat)) : Prop :=
  ∃ vs : List Value, IsRow w 1 v qs.length vs ∧ ∀ (i : Nat) (q : List Nat), qs[i]? = some q → ∃ u, vs[i]? = some u ∧ IsRow w 1 u q.length (icells q)
theorem RowsOf.below {w w' : World} {v : Value} {qs : List (List Nat)} (h : RowsOf w v qs) (hb : Below w.heap.size w w') : RowsOf w' v qs := by
  obtain ⟨vs, h1, h2⟩ := h
  refine ⟨vs, h1.below hb, fun i q hq => ?_⟩
  obtain ⟨u, hu, hr⟩ := h2 i q hq
  exact ⟨u, hu, hr.below hb⟩
/-- One of them. -/
theorem RowsOf.at {w : World} {v : Value} {qs : List (List Nat)} (h : RowsOf w v qs) (i : Nat) (hi : i < qs.length) :
    ∃ b off cap u, v = .slice (some ⟨b, off, none⟩) qs.length cap ∧ b < w.heap.size ∧ w.cell? ⟨b, off + i, none⟩ = some u ∧ IsRow w 1 u (qs[i]'hi).length (icells (qs[i]'hi)) := by
  obtain ⟨vs, h1, h2⟩ := h
  obtain ⟨b, off, cap, hv, hlt, _, _, hc⟩ := h1.open (by omega)
  obtain ⟨u, hu, hr⟩ := h2 i _ (List.getElem?_eq_getElem hi)
  exact ⟨b, off, cap, u, hv, hlt, hc i u hu, hr⟩
theorem RowsOf.form {w : World} {v : Value} {qs : List (List Nat)} (h : RowsOf w v qs) : ∃ a cap, v = .slice a qs.length cap := by
  obtain ⟨vs, h1, _⟩ := h
  exact h1.form

theorem owns_same {w w' : World} {base : Nat} {e : TypeId} {sz : Nat} {v : Value} {n : Nat} {xs : List Value} (h : w.ownsRow base e sz v n xs) (hk : ∀ g, v.ownBlock = some g → w'.heap[g]? = w.heap[g]?) : w'.ownsRow base e sz v n xs := by
  refine ⟨h.1, ?_⟩
  rcases h.2 with hn | ⟨g, cap, cur, rfl, hb, hgg, rest⟩
  · exact .inl hn
  · exact .inr ⟨g, cap, cur, rfl, hb, (hk g rfl).trans hgg, rest⟩
theorem owns_base {w : World} {base base' : Nat} {e : TypeId} {sz : Nat} {v : Value} {n : Nat} {xs : List Value} (h : w.ownsRow base e sz v n xs) (hb : base' ≤ base) : w.ownsRow base' e sz v n xs := by
  refine ⟨h.1, ?_⟩
  rcases h.2 with hn | ⟨g, cap, cur, rfl, hb1, rest⟩
  · exact .inl hn
  · exact .inr ⟨g, cap, cur, rfl, Nat.le_trans hb hb1, rest⟩
/-- Rows of other types lie in other blocks. -/
theorem owns_other {w : World} {base base' : Nat} {e e' : TypeId} {sz sz' : Nat} {v v' : Value} {n n' : Nat} {xs xs' : List Value} (h : w.ownsRow base e sz v n xs) (h' : w.ownsRow base' e' sz' v' n' xs') (hne : e ≠ e') (g : Nat) (hg : v.ownBlock = some g) : v'.ownBlock ≠ some g := by
  intro hg'
  rcases h.2 with ⟨rfl, _⟩ | ⟨g1, cap, cur, rfl, _, hgg, _⟩
  · simp [Value.ownBlock] at hg
  rcases h'.2 with ⟨rfl, _⟩ | ⟨g2, cap', cur', rfl, _, hgg', _⟩
  · simp [Value.ownBlock] at hg'
  simp [Value.ownBlock] at hg hg'
  subst hg
  subst hg'
  rw [hgg] at hgg'
  simp at hgg'
  exact hne hgg'.2

/-- Rows that are left as they are, in blocks below N. -/
def Froz (w : World) (base N : Nat) (qs : List (List Nat)) (vs : List Value) : Prop :=
  ∀ (i : Nat) (q : List Nat), qs[i]? = some q → ∃ u, vs[i]? = some u ∧ w.ownsRow base 3 1 u q.length (icells q) ∧ ∀ g, u.ownBlock = some g → g < N
theorem Froz.kept {w w' : World} {base N N' : Nat} {qs : List (List Nat)} {vs : List Value} (h : Froz w base N qs vs) (hN : N ≤ N') (hk : ∀ (u : Value) (n : Nat) (xs : List Value), w.ownsRow base 3 1 u n xs → ∀ g, u.ownBlock = some g → g < N → w'.heap[g]? = w.heap[g]?) : Froz w' base N' qs vs := by
  intro i q hq
  obtain ⟨u, hu, ho, hl⟩ := h i q hq
  exact ⟨u, hu, owns_same ho (fun g hg => hk u _ _ ho g hg (hl g hg)), fun g hg => Nat.lt_of_lt_of_le (hl g hg) hN⟩
theorem Froz.snoc {w : World} {base N : Nat} {qs : List (List Nat)} {vs : List Value} (h : Froz w base N qs vs) (hl : vs.length = qs.length) {q : List Nat} {u : Value} (ho : w.ownsRow base 3 1 u q.length (icells q)) (hg : ∀ g, u.ownBlock = some g → g < N) : Froz w base N (qs ++ [q]) (vs ++ [u]) := by
  intro i p hp
  by_cases hi : i < qs.length
  · rw [List.getElem?_append_left hi] at hp
    obtain ⟨u', hu', h2, h3⟩ := h i p hp
    exact ⟨u', by rw [List.getElem?_append_left (by omega)]; exact hu', h2, h3⟩
  · have hlt : i < (qs ++ [q]).length := (List.getElem?_eq_some_iff.1 hp).1
    rw [List.length_append, List.length_singleton] at hlt
    have : i = qs.length := by omega
    subst this
    rw [List.getElem?_append_right (Nat.le_refl _), Nat.sub_self] at hp
    simp at hp
    subst hp
    exact ⟨u, by rw [List.getElem?_append_right (by omega)]; simp [hl], ho, hg⟩
theorem Froz.rows {w : World} {base N : Nat} {qs : List (List Nat)} {vs : List Value} {v : Value} (h : Froz w base N qs vs) (ho : w.ownsRow base 68 1 v qs.length vs) : RowsOf w v qs :=
  ⟨vs, IsRow.own ho, fun i q hq => by
    obtain ⟨u, hu, h2, _⟩ := h i q hq
    exact ⟨u, hu, IsRow.own h2⟩⟩

theorem info_ints : (Tryz.prog.info? 68).map (fun i => (i.zero, i.size, i.bytes)) = some (some (.slice none 0 0), 1, 24) := by kernel_rfl
/-- What Split leaves. -/
def RwPost (qs : List (List Nat)) (w : World) (e : Ending) (w' : World) : Prop :=
  ∃ v, e = .returned v ∧ RowsOf w' v qs ∧ Below w.heap.size w w'
def SpRel (l : List Nat) (w : World) (o t i : Value) (wr : World) : Prop :=
  ∃ (k N : Nat) (qs : List (List Nat)) (acc : List Nat) (vs : List Value), k ≤ l.length ∧ i = .int .i64 k ∧ w.heap.size ≤ N ∧ N ≤ wr.heap.size ∧ wr.ownsRow w.heap.size 68 1 o qs.length vs ∧ wr.ownsRow N 3 1 t acc.length (icells acc) ∧ Froz wr w.heap.size N qs vs ∧ Below w.heap.size w wr ∧ qs ++ cutR (acc ++ l.drop k) = cutR l ∧ 46 ∉ acc ∧ qs.length ≤ k ∧ acc.length ≤ k
theorem cut_point {acc r : List Nat} (h : 46 ∉ acc) : cutR (acc ++ 46 :: r) = acc :: cutR r := by
  have e : cutR (46 :: r) = [] :: cutR r := by rw [cutR, if_pos rfl]
  have := cut_app acc (46 :: r) h [] (cutR r) e
  simpa using this
theorem cut_last {acc : List Nat} (h : 46 ∉ acc) : cutR acc = [acc] := by
  have := cut_app acc [] h [] [] rfl
  simpa using this
theorem drop_at {l : List Nat} {k : Nat} (h : k < l.length) : l.drop k = l[k] :: l.drop (k + 1) := List.drop_eq_getElem_cons h

set_option maxRecDepth 100000 in
set_option maxHeartbeats 2000000 in
theorem refSplit_any (v0 : Value) (l : List Nat) (w : World) (h0 : IsRow w 1 v0 l.length (icells l)) (hl : l.length ≤ 1000000) :
    Calls Tryz.prog 84 #[v0] w fun e w' => RwPost (cutR l) w e w' := by
  obtain ⟨i0, hi0, hz0, hz1, hz2⟩ := info_parts info_int
  obtain ⟨i1, hi1, hy0, hy1, hy2⟩ := info_parts info_ints
  obtain ⟨a0, cap0, rfl⟩ := h0.form
  go_enter Tryz.func84, Tryz.ntmps84
  go_wp2
  go_loopw [3, 4, 5] (fun o t i wr => SpRel l w o t i wr) (fun _ _ i _ => l.length - (RowKit.intOf i).toNat)
  case atStart => exact ⟨0, w.heap.size, [], [], [], Nat.zero_le _, rfl, Nat.le_refl _, Nat.le_refl _, World.ownsRow_nil _ _ _ _, World.ownsRow_nil _ _ _ _, (fun i q hq => by simp at hq), Below.refl _ _, rfl, by simp, Nat.le_refl _, Nat.le_refl _⟩
  case round =>
    obtain ⟨k, N, qs, acc, vs, hk, rfl, hN1, hN2, ho, ht, hf, hb, hck, hno, hql, hal⟩ := hrel
    have HK : Hid (qs ++ cutR (acc ++ l.drop k) = cutR l) := hck
    have HNO : Hid (46 ∉ acc) := hno
    have HF : Hid (Froz wr w.heap.size N qs vs) := hf
    clear hck hno hf
    have hvl : vs.length = qs.length := by have := ho.1; omega
    have hs := hb.size
    obtain ⟨a1, cap1, rfl⟩ := (IsRow.own ht).form
    by_cases hlt : k < l.length
    · obtain ⟨b, off, cap, hvv, hbl, c0⟩ := ints_row (h0.below hb) k hlt
      simp only [Value.slice.injEq] at hvv
      obtain ⟨rfl, -, rfl⟩ := hvv
      have hi : (k : Int) < l.length := by omega
      by_cases h46 : l[k] = 46
      · have h46' : ((l[k] : Int) == 46) = true := by rw [beq_iff_eq]; omega
        have HK2 : Hid ((qs ++ [acc]) ++ cutR ([] ++ l.drop (k + 1)) = cutR l) := by
          show _ = _
          rw [← HK.out, drop_at hlt, h46, cut_point HNO.out]
          simp
        clear HK
        go_wp2_with (at_builtin; refine wpl_apps _ rfl (.tmp 17) (.tmp 19) 119 68 rfl i1 _ 24 Tryz.underlying119 hi1 hy0 hy1 hy2 rfl _ _ _ _ rfl ho (.slice a1 acc.length cap1) _ rfl rfl rfl (by omega) (by unfold maxLen; omega) (by omega) ?_; intro v3 w3 hown3 hb3 hst3)
        have HR : Hid (SpRel l w v3 (.slice none 0 0) (.int .i64 ((k + 1 : Nat) : Int)) w3) := by
          have hs3 := hb3.size
          have hst4 : ∀ (u : Value) (n : Nat) (xs : List Value), wr.ownsRow w.heap.size 3 1 u n xs → ∀ g, u.ownBlock = some g → w3.heap[g]? = wr.heap[g]? := fun u n xs hu g hg => hst3 g (hu.lt g hg).2 (owns_other hu ho (by decide) g hg)
          have ht' := owns_base ht hN1
          refine ⟨k + 1, w3.heap.size, qs ++ [acc], [], vs ++ [.slice a1 acc.length cap1], hlt, rfl, Nat.le_trans hs hs3, Nat.le_refl _, ?_, World.ownsRow_nil _ _ _ _, ?_, hb.trans hb3, HK2.out, by simp, by rw [List.length_append, List.length_singleton]; omega, by simp⟩
          · rw [List.length_append]; exact hown3
          · refine Froz.snoc (HF.out.kept (Nat.le_trans hN2 hs3) (fun u n xs hu g hg _ => hst4 u n xs hu g hg)) hvl (owns_same ht' (hst4 _ _ _ ht')) (fun g hg => Nat.lt_of_lt_of_le (ht'.lt g hg).2 hs3)
        clear hst3 hown3 hb3 ho ht HF HK2
        go_wp2
        go_roundw
        case rel => simpa using HR.out
        case measure => simp [RowKit.intOf]; omega
      · have h46' : ((l[k] : Int) == 46) = false := by rw [beq_eq_false_iff_ne]; omega
        have HK2 : Hid (qs ++ cutR ((acc ++ [l[k]]) ++ l.drop (k + 1)) = cutR l) := by
          show _ = _
          rw [← HK.out, drop_at hlt]
          simp
        have HNO2 : Hid (46 ∉ acc ++ [l[k]]) := by
          show ¬ _
          intro m
          rcases List.mem_append.1 m with m | m
          · exact HNO.out m
          · simp at m; omega
        have HX : Hid (icells acc ++ [Value.int .i64 (l[k] : Nat)] = icells (acc ++ [l[k]])) := by show _ = _; simp [icells]
        clear HK
        go_wp2_with (at_builtin; refine wpl_apps _ rfl (.tmp 21) (.tmp 26) 68 3 rfl i0 _ 8 Tryz.underlying68 hi0 hz0 hz1 hz2 rfl _ _ _ _ rfl ht (.int .i64 (l[k] : Nat)) _ rfl rfl rfl (by omega) (by unfold maxLen; omega) (by omega) ?_; intro v3 w3 hown3 hb3 hst3)
        have HR : Hid (SpRel l w u3 v3 (.int .i64 ((k + 1 : Nat) : Int)) w3) := by
          have hs3 := hb3.size
          refine ⟨k + 1, N, qs, acc ++ [l[k]], vs, hlt, rfl, hN1, Nat.le_trans hN2 hs3, owns_same ho (fun g hg => hst3 g (ho.lt g hg).2 (owns_other ho ht (by decide) g hg)), ?_, HF.out.kept (Nat.le_refl _) (fun u n xs hu g hg hgN => hst3 g (Nat.lt_of_lt_of_le hgN hN2) (fun e => by have := (ht.lt g e).1; omega)), hb.trans (hb3.mono hN1), HK2.out, HNO2.out, by omega, by rw [List.length_append, List.length_singleton]; omega⟩
          rw [← HX.out, List.length_append]
          exact hown3
        clear hst3 hown3 hb3 ho ht HF HK2
        go_wp2
        go_roundw
        case rel => simpa using HR.out
        case measure => simp [RowKit.intOf]; omega
    · have hk' : k = l.length := by omega
      subst hk'
      have HK2 : Hid (qs ++ [acc] = cutR l) := by
        show _ = _
        rw [← HK.out, List.drop_of_length_le (Nat.le_refl _), List.append_nil, cut_last HNO.out]
      clear HK
      go_wp2_with (at_builtin; refine wpl_apps _ rfl (.tmp 28) (.tmp 30) 119 68 rfl i1 _ 24 Tryz.underlying119 hi1 hy0 hy1 hy2 rfl _ _ _ _ rfl ho (.slice a1 acc.length cap1) _ rfl rfl rfl (by omega) (by unfold maxLen; omega) (by omega) ?_; intro v3 w3 hown3 hb3 hst3)
      have HR : Hid (RowsOf w3 v3 (cutR l) ∧ Below w.heap.size w w3) := by
        have hs3 := hb3.size
        have hst4 : ∀ (u : Value) (n : Nat) (xs : List Value), wr.ownsRow w.heap.size 3 1 u n xs → ∀ g, u.ownBlock = some g → w3.heap[g]? = wr.heap[g]? := fun u n xs hu g hg => hst3 g (hu.lt g hg).2 (owns_other hu ho (by decide) g hg)
        have ht' := owns_base ht hN1
        refine ⟨?_, hb.trans hb3⟩
        rw [← HK2.out]
        refine Froz.rows (Froz.snoc (HF.out.kept (Nat.le_trans hN2 hs3) (fun u n xs hu g hg _ => hst4 u n xs hu g hg)) hvl (owns_same ht' (hst4 _ _ _ ht')) (fun g hg => Nat.lt_of_lt_of_le (ht'.lt g hg).2 hs3)) ?_
        rw [List.length_append]
        exact hown3
      clear hst3 hown3 hb3 ho ht HF HK2
      go_wp2
      go_ret
      exact ⟨_, rfl, HR.out.1, HR.out.2⟩

theorem pos_not (n : Nat) : decide (0 < n) = !(n == 0) := by cases n <;> simp
set_option maxRecDepth 100000 in
set_option maxHeartbeats 2000000 in
theorem refPart_any (v : Value) (q : List Nat) (w : World) (h : IsRow w 1 v q.length (icells q)) (hl : q.length ≤ 1000000) :
    Calls Tryz.prog 85 #[v] w fun e w' => e = .returned (.bool (okp true q)) ∧ w' = w := by
  obtain ⟨O, HO⟩ : ∃ O, Hid (okp true q = O) := ⟨_, rfl⟩
  rw [HO.out]
  obtain ⟨a0, cap0, rfl⟩ := h.form
  go_enter Tryz.func85, Tryz.ntmps85
  go_wp2
  go_loopw [3] (fun i wr => ∃ k : Nat, k ≤ q.length ∧ i = .int .i64 k ∧ Hid (okp (k == 0) (q.drop k) = O) ∧ wr = w) (fun i _ => q.length - (RowKit.intOf i).toNat)
  case atStart => exact ⟨0, Nat.zero_le _, rfl, HO, rfl⟩
  case round =>
    obtain ⟨k, hk, rfl, hck, rfl⟩ := hrel
    by_cases hlt : k < q.length
    · obtain ⟨b, off, cap, hvv, hbl, c0⟩ := ints_row h k hlt
      simp only [Value.slice.injEq] at hvv
      obtain ⟨rfl, -, rfl⟩ := hvv
      have hi : (k : Int) < q.length := by omega
      have HK : Hid (okp (k == 0) (q[k] :: q.drop (k + 1)) = O) := by show _ = _; rw [← drop_at hlt]; exact hck.out
      have hk1 : ((k + 1 : Nat) == 0) = false := by simp
      clear hck HO
      generalize q[k] = c at *
      have hlz := letterZ_nat c
      by_cases hb : beginsN c = true
      · have HR : Hid (okp (k + 1 == 0) (q.drop (k + 1)) = O) := by
          show _ = _
          rw [← HK.out, okp, if_pos hb, hk1]
        clear HK
        by_cases hL : letterN c = true
        · rw [hL] at hlz
          clear hb hL
          go_wp2_with (go_at_call 97; refine (refLetter_any _ _).mono ?_; rintro e w' ⟨rfl, rfl⟩; rw [hlz])
          go_roundw
          case rel => exact ⟨k + 1, hlt, by go_num, HR, by trivial⟩
          case measure => simp [RowKit.intOf]; omega
        · have hL' : letterN c = false := by simpa using hL
          rw [hL'] at hlz
          have h95 : c = 95 := by simpa [beginsN, hL'] using hb
          have h95' : ((c : Int) != 95) = false := by rw [bne_eq_false_iff_eq]; omega
          clear hb hL h95
          go_wp2_with (go_at_call 97; refine (refLetter_any _ _).mono ?_; rintro e w' ⟨rfl, rfl⟩; rw [hlz])
          go_roundw
          case rel => exact ⟨k + 1, hlt, by go_num, HR, by trivial⟩
          case measure => simp [RowKit.intOf]; omega
      · have hb' : beginsN c = false := by simpa using hb
        have hL' : letterN c = false := by
          cases e : letterN c
          · rfl
          · exact absurd (by simp [beginsN, e]) hb
        rw [hL'] at hlz
        have h95 : c ≠ 95 := fun e => hb (by simp [beginsN, e])
        have h95' : ((c : Int) != 95) = true := by rw [bne_iff_ne]; omega
        by_cases hk0 : k = 0
        · have hk0' : ((k : Int) == 0) = true := by rw [beq_iff_eq]; omega
          have HR : Hid (false = O) := by show _ = _; rw [← HK.out, okp, if_neg hb, hk0]; simp
          clear HK hb h95 hk0
          go_wp2_with (go_at_call 97; refine (refLetter_any _ _).mono ?_; rintro e w' ⟨rfl, rfl⟩; rw [hlz])
          go_ret
          exact ⟨by rw [← HR.out]; rfl, rfl⟩
        · have hk0' : ((k : Int) == 0) = false := by rw [beq_eq_false_iff_ne]; omega
          have hk0n : (k == 0) = false := by rw [beq_eq_false_iff_ne]; exact hk0
          by_cases hg : c ≠ 45 ∧ ¬ (48 ≤ c ∧ c ≤ 57)
          · have HR : Hid (false = O) := by show _ = _; rw [← HK.out, okp, if_neg hb, hk0n, if_pos hg]; simp
            have h45 : ((c : Int) != 45) = true := by rw [bne_iff_ne]; omega
            by_cases h48 : c < 48
            · have h48' : decide ((c : Int) < 48) = true := by simp; omega
              clear HK hb h95 hg
              go_wp2_with (go_at_call 97; refine (refLetter_any _ _).mono ?_; rintro e w' ⟨rfl, rfl⟩; rw [hlz])
              go_ret
              exact ⟨by rw [← HR.out]; rfl, rfl⟩
            · have h48' : decide ((c : Int) < 48) = false := by simp; omega
              have h57' : decide ((57 : Int) < c) = true := by simp; omega
              clear HK hb h95 hg
              go_wp2_with (go_at_call 97; refine (refLetter_any _ _).mono ?_; rintro e w' ⟨rfl, rfl⟩; rw [hlz])
              go_ret
              exact ⟨by rw [← HR.out]; rfl, rfl⟩
          · have HR : Hid (okp (k + 1 == 0) (q.drop (k + 1)) = O) := by
              show _ = _
              rw [← HK.out, okp, if_neg hb, hk0n, if_neg hg, hk1]
              simp
            by_cases h45 : c = 45
            · have h45' : ((c : Int) != 45) = false := by rw [bne_eq_false_iff_eq]; omega
              clear HK hb h95 hg h45
              go_wp2_with (go_at_call 97; refine (refLetter_any _ _).mono ?_; rintro e w' ⟨rfl, rfl⟩; rw [hlz])
              go_roundw
              case rel => exact ⟨k + 1, hlt, by go_num, HR, by trivial⟩
              case measure => simp [RowKit.intOf]; omega
            · have h45' : ((c : Int) != 45) = true := by rw [bne_iff_ne]; omega
              have h48' : decide ((c : Int) < 48) = false := by simp; omega
              have h57' : decide ((57 : Int) < c) = false := by simp; omega
              clear HK hb h95 hg
              go_wp2_with (go_at_call 97; refine (refLetter_any _ _).mono ?_; rintro e w' ⟨rfl, rfl⟩; rw [hlz])
              go_roundw
              case rel => exact ⟨k + 1, hlt, by go_num, HR, by trivial⟩
              case measure => simp [RowKit.intOf]; omega
    · have hk' : k = q.length := by omega
      subst hk'
      have HR : Hid (decide (0 < q.length) = O) := by
        show _ = _
        rw [← hck.out, List.drop_of_length_le (Nat.le_refl _), okp]
        exact pos_not q.length
      go_wp2
      go_ret
      exact ⟨by rw [← HR.out]; rfl, rfl⟩
end Go.Proofs.YtfbnlkgopncejaaGreatDoor
