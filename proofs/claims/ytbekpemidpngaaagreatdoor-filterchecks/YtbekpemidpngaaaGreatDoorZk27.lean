/- The reference's Bytes, Fold: walks. -/
import Derived.Test.YtbekpemidpngaaaGreatDoorZk1
import Derived.Test.YtbekpemidpngaaaGreatDoorZk2
import Derived.Test.YtbekpemidpngaaaGreatDoorZk26
import Derived.Test.YtbekpemidpngaaaGreatDoorZk4
import Derived.RegionTactic
import Derived.ChangeAlike
import Derived.Deep.QuietTactic
import Derived.BigQuiet
namespace Go.Proofs.YtbekpemidpngaaaGreatDoor
open Go.RowKit

theorem conv1 (w : World) (a : Int) : (convert 124 9 (.slice (some ⟨w.heap.size, 0, none⟩) 1 1)).run Tryz.prog (w.alloc (.cells #[.int .u8 a] 5)) = .ok (.string (strOfNums [a])) (w.alloc (.cells #[.int .u8 a] 5)) :=
  run_convert_bytes_arg (P := Tryz.prog) (w.alloc (.cells #[.int .u8 a] 5)) 124 5 Tryz.underlying124 Tryz.underlying5 w.heap.size 0 1 1 [a] rfl (fun i hi => by
    match i, hi with
    | 0, _ => simp) 9 Tryz.underlying9
theorem conv2 (w : World) (a b : Int) : (convert 124 9 (.slice (some ⟨w.heap.size, 0, none⟩) 2 2)).run Tryz.prog (w.alloc (.cells #[.int .u8 a, .int .u8 b] 5)) = .ok (.string (strOfNums [a, b])) (w.alloc (.cells #[.int .u8 a, .int .u8 b] 5)) :=
  run_convert_bytes_arg (P := Tryz.prog) (w.alloc (.cells #[.int .u8 a, .int .u8 b] 5)) 124 5 Tryz.underlying124 Tryz.underlying5 w.heap.size 0 2 2 [a, b] rfl (fun i hi => by
    match i, hi with
    | 0, _ => simp
    | 1, _ => simp) 9 Tryz.underlying9
theorem conv3 (w : World) (a b c : Int) : (convert 124 9 (.slice (some ⟨w.heap.size, 0, none⟩) 3 3)).run Tryz.prog (w.alloc (.cells #[.int .u8 a, .int .u8 b, .int .u8 c] 5)) = .ok (.string (strOfNums [a, b, c])) (w.alloc (.cells #[.int .u8 a, .int .u8 b, .int .u8 c] 5)) :=
  run_convert_bytes_arg (P := Tryz.prog) (w.alloc (.cells #[.int .u8 a, .int .u8 b, .int .u8 c] 5)) 124 5 Tryz.underlying124 Tryz.underlying5 w.heap.size 0 3 3 [a, b, c] rfl (fun i hi => by
    match i, hi with
    | 0, _ => simp
    | 1, _ => simp
    | 2, _ => simp) 9 Tryz.underlying9
theorem conv4 (w : World) (a b c d : Int) : (convert 124 9 (.slice (some ⟨w.heap.size, 0, none⟩) 4 4)).run Tryz.prog (w.alloc (.cells #[.int .u8 a, .int .u8 b, .int .u8 c, .int .u8 d] 5)) = .ok (.string (strOfNums [a, b, c, d])) (w.alloc (.cells #[.int .u8 a, .int .u8 b, .int .u8 c, .int .u8 d] 5)) :=
  run_convert_bytes_arg (P := Tryz.prog) (w.alloc (.cells #[.int .u8 a, .int .u8 b, .int .u8 c, .int .u8 d] 5)) 124 5 Tryz.underlying124 Tryz.underlying5 w.heap.size 0 4 4 [a, b, c, d] rfl (fun i hi => by
    match i, hi with
    | 0, _ => simp
    | 1, _ => simp
    | 2, _ => simp
    | 3, _ => simp) 9 Tryz.underlying9

theorem str_nums (l : List Nat) (xs : List Int) (h : xs = l.map fun (x : Nat) => (x : Int)) : strOfNums xs = str (l.map UInt8.ofNat) := by
  subst h
  unfold strOfNums str
  congr 2
  rw [List.map_map]
  rfl

set_option maxRecDepth 100000 in
set_option maxHeartbeats 2000000 in
theorem refBytes_any (c : Nat) (w : World) (h : scal c) :
    Calls Tryz.prog 119 #[.int .i64 (c : Int)] w fun e w' => e = .returned (.string (str (enc c))) ∧ Below w.heap.size w w' := by
  have hc : c ≤ 1114111 := by unfold scal at h; omega
  by_cases h1 : c < 128
  · have d1 : (c : Int) < 128 := by omega
    have HE : Hid (strOfNums [(c : Int)] = str (enc c)) := by
      show _ = _
      rw [enc1 h1]
      exact str_nums [c] _ rfl
    go_enter Tryz.func119, Tryz.ntmps119
    go_wp2
    rw [conv1]
    go_wp2
    go_ret
    exact ⟨by rw [← HE.out]; rfl, (Below.refl _ _).alloc (Nat.le_refl _) _⟩
  have d1 : decide ((c : Int) < 128) = false := by simp; omega
  by_cases h2 : c < 2048
  · have d2 : (c : Int) < 2048 := by omega
    have HE : Hid (strOfNums [192 + (c : Int) / 64, 128 + (c : Int) % 64] = str (enc c)) := by
      show _ = _
      rw [enc2 (by omega) h2]
      exact str_nums [192 + c / 64, 128 + c % 64] _ (by simp)
    go_enter Tryz.func119, Tryz.ntmps119
    go_wp2
    rw [conv2]
    go_wp2
    go_ret
    exact ⟨by rw [← HE.out]; rfl, (Below.refl _ _).alloc (Nat.le_refl _) _⟩
  have d2 : decide ((c : Int) < 2048) = false := by simp; omega
  by_cases h3 : c < 65536
  · have d3 : (c : Int) < 65536 := by omega
    have HE : Hid (strOfNums [224 + (c : Int) / 4096, 128 + (c : Int) / 64 % 64, 128 + (c : Int) % 64] = str (enc c)) := by
      show _ = _
      rw [enc3 (by omega) h3 h]
      exact str_nums [224 + c / 4096, 128 + c / 64 % 64, 128 + c % 64] _ (by simp)
    go_enter Tryz.func119, Tryz.ntmps119
    go_wp2
    rw [conv3]
    go_wp2
    go_ret
    exact ⟨by rw [← HE.out]; rfl, (Below.refl _ _).alloc (Nat.le_refl _) _⟩
  · have d3 : decide ((c : Int) < 65536) = false := by simp; omega
    have HE : Hid (strOfNums [240 + (c : Int) / 262144, 128 + (c : Int) / 4096 % 64, 128 + (c : Int) / 64 % 64, 128 + (c : Int) % 64] = str (enc c)) := by
      show _ = _
      rw [enc4 (by omega) h]
      exact str_nums [240 + c / 262144, 128 + c / 4096 % 64, 128 + c / 64 % 64, 128 + c % 64] _ (by simp)
    go_enter Tryz.func119, Tryz.ntmps119
    go_wp2
    rw [conv4]
    go_wp2
    go_ret
    exact ⟨by rw [← HE.out]; rfl, (Below.refl _ _).alloc (Nat.le_refl _) _⟩

theorem str_append (a b : List UInt8) : str a ++ str b = str (a ++ b) := ba_eq (by rw [ba_append, str_data, str_data, str_data])
theorem room {A B : ByteArray} (h1 : A.size ≤ 4000000) (h2 : B.size ≤ 4) : ¬ 9223372036854775807 < A.size + B.size := by omega
theorem ints_row {w : World} {v : Value} {l : List Nat} (h : IsRow w 1 v l.length (icells l)) (i : Nat) (hi : i < l.length) :
    ∃ b off cap, v = .slice (some ⟨b, off, none⟩) l.length cap ∧ b < w.heap.size ∧ w.cell? ⟨b, off + i, none⟩ = some (.int .i64 ((l[i]'hi : Nat) : Int)) := by
  obtain ⟨b, off, cap', hv, hlt, _, _, hc⟩ := h.open (by omega)
  exact ⟨b, off, cap', hv, hlt, hc i _ (by simp [icells, hi])⟩

set_option maxRecDepth 100000 in
set_option maxHeartbeats 2000000 in
theorem refFold_any (s : ByteArray) (w : World) (hs : s.size ≤ 1000000) :
    Calls Tryz.prog 90 #[.string s] w fun e w' => e = .returned (.string (str (foldL s.data.toList))) ∧ Below w.heap.size w w' := by
  by_cases hv : Lib.validD s.data.toList = true
  · have HF : Hid (str (((rns s.data.toList).map smallN).flatMap enc) = str (foldL s.data.toList)) := by show _ = _; rw [foldL, if_pos hv]
    have HL : Hid ((rns s.data.toList).length ≤ 1000000) := by
      have h3 := rns_len_le s.data.toList.length s.data.toList
      have e : s.data.toList.length = s.size := Array.length_toList
      have : (rns s.data.toList).length ≤ s.data.toList.length := h3
      show _ ≤ _
      omega
    have HS : Hid (∀ c ∈ rns s.data.toList, scal c) := rns_scal _
    go_enter Tryz.func90, Tryz.ntmps90
    go_wp2_with fail
    refine (refValid_any s _ (by omega)).mono ?_
    rintro e w1 ⟨rfl, hb1⟩
    rw [hv]
    go_wp2_with fail
    refine (refRunes_any s _ hs hv).mono ?_
    rintro e w2 ⟨v2, rfl, hv2, hb2'⟩
    have hb2 := hb1.trans (hb2'.mono hb1.size)
    clear hb1 hb2'
    generalize rns s.data.toList = l at *
    have hll := HL.out
    obtain ⟨a2, cap2, rfl⟩ := hv2.form
    have hs2 := hb2.size
    go_wp2_with fail
    go_loopw [4, 5] (fun o i wr => ∃ k : Nat, k ≤ l.length ∧ i = .int .i64 k ∧ o = .string (str (((l.take k).map smallN).flatMap enc)) ∧ Below w2.heap.size w2 wr) (fun _ i _ => l.length - (RowKit.intOf i).toNat)
    case atStart => exact ⟨0, Nat.zero_le _, rfl, rfl, Below.refl _ _⟩
    case round =>
      obtain ⟨k, hk, rfl, rfl, hb⟩ := hrel
      have hbs := hb.size
      by_cases hlt : k < l.length
      · obtain ⟨b, off, cap, hvv, hbl, c0⟩ := ints_row (hv2.below hb) k hlt
        simp only [Value.slice.injEq] at hvv
        obtain ⟨rfl, _, rfl⟩ := hvv
        have hi : (k : Int) < l.length := by omega
        have hsc : Hid (scal l[k]) := HS.out _ (List.getElem_mem hlt)
        have hcm : l[k] ≤ 1114111 := by have := hsc.out; unfold scal at this; omega
        have HN : Hid (str (((l.take k).map smallN).flatMap enc) ++ str (enc (smallN l[k])) = str (((l.take (k + 1)).map smallN).flatMap enc)) := by
          show _ = _
          rw [str_append, List.take_succ_eq_append_getElem hlt, List.map_append, List.flatMap_append]
          simp only [List.map_cons, List.map_nil, List.flatMap_cons, List.flatMap_nil, List.append_nil]
        have hz1 : (str (((l.take k).map smallN).flatMap enc)).size ≤ 4000000 := by
          rw [str_size]
          have h1 := flat_len ((l.take k).map smallN)
          rw [List.length_map, List.length_take] at h1
          omega
        have hz2 : (str (enc (smallN l[k]))).size ≤ 4 := by rw [str_size]; exact enc_len4 _
        have hz3 := room hz1 hz2
        clear hz1 hz2
        generalize hA : str (((l.take k).map smallN).flatMap enc) = A at *
        clear hA
        go_wp2_with fail
        refine (refSmall_any _ _ (by omega) (by omega)).mono ?_
        rintro e w' ⟨rfl, rfl⟩
        rw [smallZ_nat]
        go_wp2_with fail
        refine (refBytes_any _ _ (smallN_scal hsc.out)).mono ?_
        rintro e w3 ⟨rfl, hb3'⟩
        have hb3 : Hid (Below w2.heap.size w2 w3) := hb.trans (hb3'.mono hb.size)
        clear hb hb3' c0
        go_wp2
        go_roundw
        case rel => exact ⟨k + 1, by omega, by go_num, by rw [HN.out], hb3.out⟩
        case measure => simp [RowKit.intOf]; omega
      · have hk' : k = l.length := by omega
        subst hk'
        have HN : Hid (str (((l.take l.length).map smallN).flatMap enc) = str (foldL s.data.toList)) := by show _ = _; rw [← HF.out, List.take_of_length_le (Nat.le_refl _)]
        rw [HN.out]
        go_wp2
        go_ret
        exact ⟨rfl, hb2.trans (hb.mono hs2)⟩
  · have hv' : Lib.validD s.data.toList = false := by simpa using hv
    have HF : Hid (s = str (foldL s.data.toList)) := by show _ = _; rw [foldL, if_neg hv, str_of]
    go_enter Tryz.func90, Tryz.ntmps90
    go_wp2_with fail
    refine (refValid_any s _ (by omega)).mono ?_
    rintro e w1 ⟨rfl, hb1⟩
    rw [hv']
    go_wp2
    go_ret
    exact ⟨by rw [← HF.out]; rfl, hb1⟩
end Go.Proofs.YtbekpemidpngaaaGreatDoor
/- The reference's Split and part: walks. -/
namespace Go.Proofs.YtbekpemidpngaaaGreatDoor
open Go.RowKit

/-- The slice v has as many elements as qs, each a slice of a row of qs. -/
def RowsOf (w : World) (v : Value) (qs : List (List Nat)) : Prop :=
  ∃ vs : List Value, IsRow w 1 v qs.length vs ∧ ∀ (i : Nat) (q : List Nat), qs[i]? = some q → ∃ u, vs[i]? = some u ∧ IsRow w 1 u q.length (icells q)
theorem RowsOf.below {w w' : World} {v : Value} {qs : List (List Nat)} (h : RowsOf w v qs) (hb : Below w.heap.size w w') : RowsOf w' v qs := by
  obtain ⟨vs, h1, h2⟩ := h
  refine ⟨vs, h1.below hb, fun i q hq => ?_⟩
  obtain ⟨u, hu, hr⟩ := h2 i q hq
  exact ⟨u, hu, hr.below hb⟩
/-- One of them. -/
theorem RowsOf.at {w : World} {v : Value} {qs : List (List Nat)} (h : RowsOf w v qs) (i : Nat) (hi : i < qs.length) :
    ∃ b off cap u, v = .slice (some ⟨b, off, none⟩) qs.length cap ∧ b < w.heap.size ∧ w.cell? ⟨b, off + i, none⟩ = some u ∧ IsRow w 1 u (qs[i]'hi).length (icells (qs[i]'hi)) := by
  obtain ⟨vs, h1, h2⟩ := h
  obtain ⟨b, off, cap, hv, hlt, _, _, hc⟩ := h1.open (by omega)
  obtain ⟨u, hu, hr⟩ := h2 i _ (List.getElem?_eq_getElem hi)
  exact ⟨b, off, cap, u, hv, hlt, hc i u hu, hr⟩
theorem RowsOf.form {w : World} {v : Value} {qs : List (List Nat)} (h : RowsOf w v qs) : ∃ a cap, v = .slice a qs.length cap := by
  obtain ⟨vs, h1, _⟩ := h
  exact h1.form

theorem owns_same {w w' : World} {base : Nat} {e : TypeId} {sz : Nat} {v : Value} {n : Nat} {xs : List Value} (h : w.ownsRow base e sz v n xs) (hk : ∀ g, v.ownBlock = some g → w'.heap[g]? = w.heap[g]?) : w'.ownsRow base e sz v n xs := by
  refine ⟨h.1, ?_⟩
  rcases h.2 with hn | ⟨g, cap, cur, rfl, hb, hgg, rest⟩
  · exact .inl hn
  · exact .inr ⟨g, cap, cur, rfl, hb, (hk g rfl).trans hgg, rest⟩
theorem owns_base {w : World} {base base' : Nat} {e : TypeId} {sz : Nat} {v : Value} {n : Nat} {xs : List Value} (h : w.ownsRow base e sz v n xs) (hb : base' ≤ base) : w.ownsRow base' e sz v n xs := by
  refine ⟨h.1, ?_⟩
  rcases h.2 with hn | ⟨g, cap, cur, rfl, hb1, rest⟩
  · exact .inl hn
  · exact .inr ⟨g, cap, cur, rfl, Nat.le_trans hb hb1, rest⟩
/-- Rows of other types lie in other blocks. -/
theorem owns_other {w : World} {base base' : Nat} {e e' : TypeId} {sz sz' : Nat} {v v' : Value} {n n' : Nat} {xs xs' : List Value} (h : w.ownsRow base e sz v n xs) (h' : w.ownsRow base' e' sz' v' n' xs') (hne : e ≠ e') (g : Nat) (hg : v.ownBlock = some g) : v'.ownBlock ≠ some g := by
  intro hg'
  rcases h.2 with ⟨rfl, _⟩ | ⟨g1, cap, cur, rfl, _, hgg, _⟩
  · simp [Value.ownBlock] at hg
  rcases h'.2 with ⟨rfl, _⟩ | ⟨g2, cap', cur', rfl, _, hgg', _⟩
  · simp [Value.ownBlock] at hg'
  simp [Value.ownBlock] at hg hg'
  subst hg
  subst hg'
  rw [hgg] at hgg'
  simp at hgg'
  exact hne hgg'.2

/-- Rows that are left as they are, in blocks below N. -/
def Froz (w : World) (base N : Nat) (qs : List (List Nat)) (vs : List Value) : Prop :=
  ∀ (i : Nat) (q : List Nat), qs[i]? = some q → ∃ u, vs[i]? = some u ∧ w.ownsRow base 3 1 u q.length (icells q) ∧ ∀ g, u.ownBlock = some g → g < N
theorem Froz.kept {w w' : World} {base N N' : Nat} {qs : List (List Nat)} {vs : List Value} (h : Froz w base N qs vs) (hN : N ≤ N') (hk : ∀ (u : Value) (n : Nat) (xs : List Value), w.ownsRow base 3 1 u n xs → ∀ g, u.ownBlock = some g → g < N → w'.heap[g]? = w.heap[g]?) : Froz w' base N' qs vs := by
  intro i q hq
  obtain ⟨u, hu, ho, hl⟩ := h i q hq
  exact ⟨u, hu, owns_same ho (fun g hg => hk u _ _ ho g hg (hl g hg)), fun g hg => Nat.lt_of_lt_of_le (hl g hg) hN⟩
theorem Froz.snoc {w : World} {base N : Nat} {qs : List (List Nat)} {vs : List Value} (h : Froz w base N qs vs) (hl : vs.length = qs.length) {q : List Nat} {u : Value} (ho : w.ownsRow base 3 1 u q.length (icells q)) (hg : ∀ g, u.ownBlock = some g → g < N) : Froz w base N (qs ++ [q]) (vs ++ [u]) := by
  intro i p hp
  by_cases hi : i < qs.length
  · rw [List.getElem?_append_left hi] at hp
    obtain ⟨u', hu', h2, h3⟩ := h i p hp
    exact ⟨u', by rw [List.getElem?_append_left (by omega)]; exact hu', h2, h3⟩
  · have hlt : i < (qs ++ [q]).length := (List.getElem?_eq_some_iff.1 hp).1
    rw [List.length_append, List.length_singleton] at hlt
    have : i = qs.length := by omega
    subst this
    rw [List.getElem?_append_right (Nat.le_refl _), Nat.sub_self] at hp
    simp at hp
    subst hp
    exact ⟨u, by rw [List.getElem?_append_right (by omega)]; simp [hl], ho, hg⟩
theorem Froz.rows {w : World} {base N : Nat} {qs : List (List Nat)} {vs : List Value} {v : Value} (h : Froz w base N qs vs) (ho : w.ownsRow base 138 1 v qs.length vs) : RowsOf w v qs :=
  ⟨vs, IsRow.own ho, fun i q hq => by
    obtain ⟨u, hu, h2, _⟩ := h i q hq
    exact ⟨u, hu, IsRow.own h2⟩⟩

theorem info_ints : (Tryz.prog.info? 138).map (fun i => (i.zero, i.size, i.bytes)) = some (some (.slice none 0 0), 1, 24) := by kernel_rfl
/-- What Split leaves. -/
def RwPost (qs : List (List Nat)) (w : World) (e : Ending) (w' : World) : Prop :=
  ∃ v, e = .returned v ∧ RowsOf w' v qs ∧ Below w.heap.size w w'
def SpRel (l : List Nat) (w : World) (o t i : Value) (wr : World) : Prop :=
  ∃ (k N : Nat) (qs : List (List Nat)) (acc : List Nat) (vs : List Value), k ≤ l.length ∧ i = .int .i64 k ∧ w.heap.size ≤ N ∧ N ≤ wr.heap.size ∧ wr.ownsRow w.heap.size 138 1 o qs.length vs ∧ wr.ownsRow N 3 1 t acc.length (icells acc) ∧ Froz wr w.heap.size N qs vs ∧ Below w.heap.size w wr ∧ qs ++ cutR (acc ++ l.drop k) = cutR l ∧ 46 ∉ acc ∧ qs.length ≤ k ∧ acc.length ≤ k
theorem cut_point {acc r : List Nat} (h : 46 ∉ acc) : cutR (acc ++ 46 :: r) = acc :: cutR r := by
  have e : cutR (46 :: r) = [] :: cutR r := by rw [cutR, if_pos rfl]
  have := cut_app acc (46 :: r) h [] (cutR r) e
  simpa using this
theorem cut_last {acc : List Nat} (h : 46 ∉ acc) : cutR acc = [acc] := by
  have := cut_app acc [] h [] [] rfl
  simpa using this
theorem drop_at {l : List Nat} {k : Nat} (h : k < l.length) : l.drop k = l[k] :: l.drop (k + 1) := List.drop_eq_getElem_cons h

set_option maxRecDepth 100000 in
set_option maxHeartbeats 2000000 in
theorem refSplit_any (v0 : Value) (l : List Nat) (w : World) (h0 : IsRow w 1 v0 l.length (icells l)) (hl : l.length ≤ 1000000) :
    Calls Tryz.prog 117 #[v0] w fun e w' => RwPost (cutR l) w e w' := by
  obtain ⟨i0, hi0, hz0, hz1, hz2⟩ := info_parts info_int
  obtain ⟨i1, hi1, hy0, hy1, hy2⟩ := info_parts info_ints
  obtain ⟨a0, cap0, rfl⟩ := h0.form
  go_enter Tryz.func117, Tryz.ntmps117
  go_wp2
  go_loopw [3, 4, 5] (fun o t i wr => SpRel l w o t i wr) (fun _ _ i _ => l.length - (RowKit.intOf i).toNat)
  case atStart => exact ⟨0, w.heap.size, [], [], [], Nat.zero_le _, rfl, Nat.le_refl _, Nat.le_refl _, World.ownsRow_nil _ _ _ _, World.ownsRow_nil _ _ _ _, (fun i q hq => by simp at hq), Below.refl _ _, rfl, by simp, Nat.le_refl _, Nat.le_refl _⟩
  case round =>
    obtain ⟨k, N, qs, acc, vs, hk, rfl, hN1, hN2, ho, ht, hf, hb, hck, hno, hql, hal⟩ := hrel
    have HK : Hid (qs ++ cutR (acc ++ l.drop k) = cutR l) := hck
    have HNO : Hid (46 ∉ acc) := hno
    have HF : Hid (Froz wr w.heap.size N qs vs) := hf
    clear hck hno hf
    have hvl : vs.length = qs.length := by have := ho.1; omega
    have hs := hb.size
    obtain ⟨a1, cap1, rfl⟩ := (IsRow.own ht).form
    by_cases hlt : k < l.length
    · obtain ⟨b, off, cap, hvv, hbl, c0⟩ := ints_row (h0.below hb) k hlt
      simp only [Value.slice.injEq] at hvv
      obtain ⟨rfl, -, rfl⟩ := hvv
      have hi : (k : Int) < l.length := by omega
      by_cases h46 : l[k] = 46
      · have h46' : ((l[k] : Int) == 46) = true := by rw [beq_iff_eq]; omega
        have HK2 : Hid ((qs ++ [acc]) ++ cutR ([] ++ l.drop (k + 1)) = cutR l) := by
          show _ = _
          rw [← HK.out, drop_at hlt, h46, cut_point HNO.out]
          simp
        clear HK
        go_wp2_with (at_builtin; refine wpl_apps _ rfl (.tmp 17) (.tmp 19) 173 138 rfl i1 _ 24 Tryz.underlying173 hi1 hy0 hy1 hy2 rfl _ _ _ _ rfl ho (.slice a1 acc.length cap1) _ rfl rfl rfl (by omega) (by unfold maxLen; omega) (by omega) ?_; intro v3 w3 hown3 hb3 hst3)
        have HR : Hid (SpRel l w v3 (.slice none 0 0) (.int .i64 ((k + 1 : Nat) : Int)) w3) := by
          have hs3 := hb3.size
          have hst4 : ∀ (u : Value) (n : Nat) (xs : List Value), wr.ownsRow w.heap.size 3 1 u n xs → ∀ g, u.ownBlock = some g → w3.heap[g]? = wr.heap[g]? := fun u n xs hu g hg => hst3 g (hu.lt g hg).2 (owns_other hu ho (by decide) g hg)
          have ht' := owns_base ht hN1
          refine ⟨k + 1, w3.heap.size, qs ++ [acc], [], vs ++ [.slice a1 acc.length cap1], hlt, rfl, Nat.le_trans hs hs3, Nat.le_refl _, ?_, World.ownsRow_nil _ _ _ _, ?_, hb.trans hb3, HK2.out, by simp, by rw [List.length_append, List.length_singleton]; omega, by simp⟩
          · rw [List.length_append]; exact hown3
          · refine Froz.snoc (HF.out.kept (Nat.le_trans hN2 hs3) (fun u n xs hu g hg _ => hst4 u n xs hu g hg)) hvl (owns_same ht' (hst4 _ _ _ ht')) (fun g hg => Nat.lt_of_lt_of_le (ht'.lt g hg).2 hs3)
        clear hst3 hown3 hb3 ho ht HF HK2
        go_wp2
        go_roundw
        case rel => simpa using HR.out
        case measure => simp [RowKit.intOf]; omega
      · have h46' : ((l[k] : Int) == 46) = false := by rw [beq_eq_false_iff_ne]; omega
        have HK2 : Hid (qs ++ cutR ((acc ++ [l[k]]) ++ l.drop (k + 1)) = cutR l) := by
          show _ = _
          rw [← HK.out, drop_at hlt]
          simp
        have HNO2 : Hid (46 ∉ acc ++ [l[k]]) := by
          show ¬ _
          intro m
          rcases List.mem_append.1 m with m | m
          · exact HNO.out m
          · simp at m; omega
        have HX : Hid (icells acc ++ [Value.int .i64 (l[k] : Nat)] = icells (acc ++ [l[k]])) := by show _ = _; simp [icells]
        clear HK
        go_wp2_with (at_builtin; refine wpl_apps _ rfl (.tmp 21) (.tmp 26) 138 3 rfl i0 _ 8 Tryz.underlying138 hi0 hz0 hz1 hz2 rfl _ _ _ _ rfl ht (.int .i64 (l[k] : Nat)) _ rfl rfl rfl (by omega) (by unfold maxLen; omega) (by omega) ?_; intro v3 w3 hown3 hb3 hst3)
        have HR : Hid (SpRel l w u3 v3 (.int .i64 ((k + 1 : Nat) : Int)) w3) := by
          have hs3 := hb3.size
          refine ⟨k + 1, N, qs, acc ++ [l[k]], vs, hlt, rfl, hN1, Nat.le_trans hN2 hs3, owns_same ho (fun g hg => hst3 g (ho.lt g hg).2 (owns_other ho ht (by decide) g hg)), ?_, HF.out.kept (Nat.le_refl _) (fun u n xs hu g hg hgN => hst3 g (Nat.lt_of_lt_of_le hgN hN2) (fun e => by have := (ht.lt g e).1; omega)), hb.trans (hb3.mono hN1), HK2.out, HNO2.out, by omega, by rw [List.length_append, List.length_singleton]; omega⟩
          rw [← HX.out, List.length_append]
          exact hown3
        clear hst3 hown3 hb3 ho ht HF HK2
        go_wp2
        go_roundw
        case rel => simpa using HR.out
        case measure => simp [RowKit.intOf]; omega
    · have hk' : k = l.length := by omega
      subst hk'
      have HK2 : Hid (qs ++ [acc] = cutR l) := by
        show _ = _
        rw [← HK.out, List.drop_of_length_le (Nat.le_refl _), List.append_nil, cut_last HNO.out]
      clear HK
      go_wp2_with (at_builtin; refine wpl_apps _ rfl (.tmp 28) (.tmp 30) 173 138 rfl i1 _ 24 Tryz.underlying173 hi1 hy0 hy1 hy2 rfl _ _ _ _ rfl ho (.slice a1 acc.length cap1) _ rfl rfl rfl (by omega) (by unfold maxLen; omega) (by omega) ?_; intro v3 w3 hown3 hb3 hst3)
      have HR : Hid (RowsOf w3 v3 (cutR l) ∧ Below w.heap.size w w3) := by
        have hs3 := hb3.size
        have hst4 : ∀ (u : Value) (n : Nat) (xs : List Value), wr.ownsRow w.heap.size 3 1 u n xs → ∀ g, u.ownBlock = some g → w3.heap[g]? = wr.heap[g]? := fun u n xs hu g hg => hst3 g (hu.lt g hg).2 (owns_other hu ho (by decide) g hg)
        have ht' := owns_base ht hN1
        refine ⟨?_, hb.trans hb3⟩
        rw [← HK2.out]
        refine Froz.rows (Froz.snoc (HF.out.kept (Nat.le_trans hN2 hs3) (fun u n xs hu g hg _ => hst4 u n xs hu g hg)) hvl (owns_same ht' (hst4 _ _ _ ht')) (fun g hg => Nat.lt_of_lt_of_le (ht'.lt g hg).2 hs3)) ?_
        rw [List.length_append]
        exact hown3
      clear hst3 hown3 hb3 ho ht HF HK2
      go_wp2
      go_ret
      exact ⟨_, rfl, HR.out.1, HR.out.2⟩

theorem pos_not (n : Nat) : decide (0 < n) = !(n == 0) := by cases n <;> simp
set_option maxRecDepth 100000 in
set_option maxHeartbeats 2000000 in
theorem refPart_any (v : Value) (q : List Nat) (w : World) (h : IsRow w 1 v q.length (icells q)) (hl : q.length ≤ 1000000) :
    Calls Tryz.prog 118 #[v] w fun e w' => e = .returned (.bool (okp true q)) ∧ w' = w := by
  obtain ⟨O, HO⟩ : ∃ O, Hid (okp true q = O) := ⟨_, rfl⟩
  rw [HO.out]
  obtain ⟨a0, cap0, rfl⟩ := h.form
  go_enter Tryz.func118, Tryz.ntmps118
  go_wp2
  go_loopw [3] (fun i wr => ∃ k : Nat, k ≤ q.length ∧ i = .int .i64 k ∧ Hid (okp (k == 0) (q.drop k) = O) ∧ wr = w) (fun i _ => q.length - (RowKit.intOf i).toNat)
  case atStart => exact ⟨0, Nat.zero_le _, rfl, HO, rfl⟩
  case round =>
    obtain ⟨k, hk, rfl, hck, rfl⟩ := hrel
    by_cases hlt : k < q.length
    · obtain ⟨b, off, cap, hvv, hbl, c0⟩ := ints_row h k hlt
      simp only [Value.slice.injEq] at hvv
      obtain ⟨rfl, -, rfl⟩ := hvv
      have hi : (k : Int) < q.length := by omega
      have HK : Hid (okp (k == 0) (q[k] :: q.drop (k + 1)) = O) := by show _ = _; rw [← drop_at hlt]; exact hck.out
      have hk1 : ((k + 1 : Nat) == 0) = false := by simp
      clear hck HO
      generalize q[k] = c at *
      have hlz := letterZ_nat c
      by_cases hb : beginsN c = true
      · have HR : Hid (okp (k + 1 == 0) (q.drop (k + 1)) = O) := by
          show _ = _
          rw [← HK.out, okp, if_pos hb, hk1]
        clear HK
        by_cases hL : letterN c = true
        · rw [hL] at hlz
          clear hb hL
          go_wp2_with (go_at_call 150; refine (refLetter_any _ _).mono ?_; rintro e w' ⟨rfl, rfl⟩; rw [hlz])
          go_roundw
          case rel => exact ⟨k + 1, hlt, by go_num, HR, by trivial⟩
          case measure => simp [RowKit.intOf]; omega
        · have hL' : letterN c = false := by simpa using hL
          rw [hL'] at hlz
          have h95 : c = 95 := by simpa [beginsN, hL'] using hb
          have h95' : ((c : Int) != 95) = false := by rw [bne_eq_false_iff_eq]; omega
          clear hb hL h95
          go_wp2_with (go_at_call 150; refine (refLetter_any _ _).mono ?_; rintro e w' ⟨rfl, rfl⟩; rw [hlz])
          go_roundw
          case rel => exact ⟨k + 1, hlt, by go_num, HR, by trivial⟩
          case measure => simp [RowKit.intOf]; omega
      · have hb' : beginsN c = false := by simpa using hb
        have hL' : letterN c = false := by
          cases e : letterN c
          · rfl
          · exact absurd (by simp [beginsN, e]) hb
        rw [hL'] at hlz
        have h95 : c ≠ 95 := fun e => hb (by simp [beginsN, e])
        have h95' : ((c : Int) != 95) = true := by rw [bne_iff_ne]; omega
        by_cases hk0 : k = 0
        · have hk0' : ((k : Int) == 0) = true := by rw [beq_iff_eq]; omega
          have HR : Hid (false = O) := by show _ = _; rw [← HK.out, okp, if_neg hb, hk0]; simp
          clear HK hb h95 hk0
          go_wp2_with (go_at_call 150; refine (refLetter_any _ _).mono ?_; rintro e w' ⟨rfl, rfl⟩; rw [hlz])
          go_ret
          exact ⟨by rw [← HR.out]; rfl, rfl⟩
        · have hk0' : ((k : Int) == 0) = false := by rw [beq_eq_false_iff_ne]; omega
          have hk0n : (k == 0) = false := by rw [beq_eq_false_iff_ne]; exact hk0
          by_cases hg : c ≠ 45 ∧ ¬ (48 ≤ c ∧ c ≤ 57)
          · have HR : Hid (false = O) := by show _ = _; rw [← HK.out, okp, if_neg hb, hk0n, if_pos hg]; simp
            have h45 : ((c : Int) != 45) = true := by rw [bne_iff_ne]; omega
            by_cases h48 : c < 48
            · have h48' : decide ((c : Int) < 48) = true := by simp; omega
              clear HK hb h95 hg
              go_wp2_with (go_at_call 150; refine (refLetter_any _ _).mono ?_; rintro e w' ⟨rfl, rfl⟩; rw [hlz])
              go_ret
              exact ⟨by rw [← HR.out]; rfl, rfl⟩
            · have h48' : decide ((c : Int) < 48) = false := by simp; omega
              have h57' : decide ((57 : Int) < c) = true := by simp; omega
              clear HK hb h95 hg
              go_wp2_with (go_at_call 150; refine (refLetter_any _ _).mono ?_; rintro e w' ⟨rfl, rfl⟩; rw [hlz])
              go_ret
              exact ⟨by rw [← HR.out]; rfl, rfl⟩
          · have HR : Hid (okp (k + 1 == 0) (q.drop (k + 1)) = O) := by
              show _ = _
              rw [← HK.out, okp, if_neg hb, hk0n, if_neg hg, hk1]
              simp
            by_cases h45 : c = 45
            · have h45' : ((c : Int) != 45) = false := by rw [bne_eq_false_iff_eq]; omega
              clear HK hb h95 hg h45
              go_wp2_with (go_at_call 150; refine (refLetter_any _ _).mono ?_; rintro e w' ⟨rfl, rfl⟩; rw [hlz])
              go_roundw
              case rel => exact ⟨k + 1, hlt, by go_num, HR, by trivial⟩
              case measure => simp [RowKit.intOf]; omega
            · have h45' : ((c : Int) != 45) = true := by rw [bne_iff_ne]; omega
              have h48' : decide ((c : Int) < 48) = false := by simp; omega
              have h57' : decide ((57 : Int) < c) = false := by simp; omega
              clear HK hb h95 hg
              go_wp2_with (go_at_call 150; refine (refLetter_any _ _).mono ?_; rintro e w' ⟨rfl, rfl⟩; rw [hlz])
              go_roundw
              case rel => exact ⟨k + 1, hlt, by go_num, HR, by trivial⟩
              case measure => simp [RowKit.intOf]; omega
    · have hk' : k = q.length := by omega
      subst hk'
      have HR : Hid (decide (0 < q.length) = O) := by
        show _ = _
        rw [← hck.out, List.drop_of_length_le (Nat.le_refl _), okp]
        exact pos_not q.length
      go_wp2
      go_ret
      exact ⟨by rw [← HR.out]; rfl, rfl⟩
end Go.Proofs.YtbekpemidpngaaaGreatDoor
/- The reference's Check and Parts: walks. -/
namespace Go.Proofs.YtbekpemidpngaaaGreatDoor
open Go.RowKit

theorem chk_bad : ∀ (cs : List Nat) (p r : Nat) (f : Bool), 65533 ∈ cs → chk p r f cs = 3
  | [], _, _, _ => by simp
  | c :: cs, p, r, f => by
    intro hm
    rcases List.mem_cons.1 hm with e | hm
    · subst e
      have hb : beginsN 65533 = false := by decide
      simp only [chk, hb]
      cases f <;> simp
    · simp only [chk]
      split
      · exact chk_bad cs _ _ _ hm
      split
      · rfl
      split
      · exact chk_bad cs _ _ _ hm
      split
      · rfl
      · exact chk_bad cs _ _ _ hm
theorem check_invalid {l : List UInt8} (h : Lib.validD l = false) : checkL l = 3 := by
  refine chk_bad _ _ _ _ ?_
  rcases Classical.em (65533 ∈ rns l) with g | g
  · exact g
  · have := valid_of_no l.length l (Nat.le_refl _) g
    rw [h] at this
    cases this
theorem check_cut (l : List UInt8) : checkL l = if (cutR (rns l)).all (okp true) = true then (if 5 < (cutR (rns l)).length ∨ 40 < (rns l).length then 2 else 0) else 3 := by
  have h := chk_cut (rns l) 1 0 true
  rw [allok_all (cutR_ne _)] at h
  have e1 : 1 + (cutR (rns l)).length - 1 = (cutR (rns l)).length := by omega
  have e2 : 0 + (rns l).length = (rns l).length := by omega
  rw [e1, e2] at h
  exact h
theorem cut_sum : ∀ cs : List Nat, ∀ q ∈ cutR cs, q.length ≤ cs.length := by
  intro cs q hq
  have := joinR_len (cutR cs) q hq
  rw [join_cut] at this
  exact this
theorem cut_len : ∀ cs : List Nat, (cutR cs).length ≤ cs.length + 1
  | [] => by simp [cutR]
  | c :: cs => by
    have := cut_len cs
    rw [cutR]
    split
    · simp; omega
    · cases h : cutR cs with
      | nil => exact absurd h (cutR_ne cs)
      | cons q qs => rw [h] at this; simp [onto] at this ⊢; omega
theorem rns_le (s : ByteArray) : (rns s.data.toList).length ≤ s.size := by
  have h3 := rns_len_le s.data.toList.length s.data.toList
  have e : s.data.toList.length = s.size := Array.length_toList
  have : (rns s.data.toList).length ≤ s.data.toList.length := h3
  omega
theorem all_take {qs : List (List Nat)} {k : Nat} (h : k < qs.length) (h1 : (qs.take k).all (okp true) = true) (h2 : okp true qs[k] = true) : (qs.take (k + 1)).all (okp true) = true := by
  rw [List.take_succ_eq_append_getElem h, List.all_append, h1]
  simp [h2]
theorem not_all {qs : List (List Nat)} {k : Nat} (h : k < qs.length) (h2 : okp true qs[k] = false) : ¬ qs.all (okp true) = true := by
  intro g
  have := List.all_eq_true.1 g _ (List.getElem_mem h)
  rw [h2] at this
  cases this
theorem isEmpty_of {s : ByteArray} (h : s.size = 0) : s.toList.isEmpty = true := by
  rw [ByteArray.toList_eq]
  have : s.data.toList = [] := List.eq_nil_of_length_eq_zero (by rw [Array.length_toList]; exact h)
  rw [this]; rfl
theorem notEmpty_of {s : ByteArray} (h : s.size ≠ 0) : s.toList.isEmpty = false := by
  rw [ByteArray.toList_eq]
  cases e : s.data.toList with
  | nil => exact absurd (by have := congrArg List.length e; rwa [Array.length_toList] at this) h
  | cons b l => rfl
theorem check_empty {s : ByteArray} (h : s.size = 0) : checkL s.data.toList = 3 := by
  have : s.data.toList = [] := List.eq_nil_of_length_eq_zero (by rw [Array.length_toList]; exact h)
  rw [this]; rfl

set_option maxRecDepth 100000 in
set_option maxHeartbeats 2000000 in
theorem refCheck_any (s : ByteArray) (w : World) (hs : s.size ≤ 900000) :
    Calls Tryz.prog 86 #[.string s] w fun e w' => e = .returned (.int .i64 (checkL s.data.toList)) ∧ Below w.heap.size w w' := by
  by_cases h0 : s.size = 0
  · have he := isEmpty_of h0
    rw [check_empty h0]
    go_enter Tryz.func86, Tryz.ntmps86
    go_wp2
    go_ret
    exact ⟨rfl, Below.refl _ _⟩
  have he := notEmpty_of h0
  by_cases hv : Lib.validD s.data.toList = true
  · obtain ⟨C, HC⟩ : ∃ C, Hid (checkL s.data.toList = C) := ⟨_, rfl⟩
    have HCC : Hid _ := check_cut s.data.toList
    rw [HC.out] at HCC ⊢
    clear HC
    have hll := rns_le s
    have HQ : Hid (∀ q ∈ cutR (rns s.data.toList), q.length ≤ (rns s.data.toList).length) := cut_sum _
    have hq1 := cut_len (rns s.data.toList)
    have HRU : Hid (∀ w, Calls Tryz.prog 91 #[.string s] w fun e w' => RnPost (rns s.data.toList) w e w') := fun w => refRunes_any s w (by omega) hv
    go_enter Tryz.func86, Tryz.ntmps86
    go_wp2_with fail
    refine (refValid_any s _ (by omega)).mono ?_
    rintro e w1 ⟨rfl, hb1⟩
    rw [hv]
    go_wp2_with fail
    refine (HRU.out _).mono ?_
    rintro e w2 ⟨v2, rfl, hv2, hb2'⟩
    have hb2 := hb1.trans (hb2'.mono hb1.size)
    clear hb1 hb2' HRU
    generalize rns s.data.toList = l at *
    go_wp2_with fail
    refine (refSplit_any v2 l _ hv2 (by omega)).mono ?_
    rintro e w3 ⟨v3, rfl, hv3, hb3'⟩
    have hb3 := hb2.trans (hb3'.mono hb2.size)
    obtain ⟨a2, cap2, rfl⟩ := hv2.form
    obtain ⟨a3, cap3, rfl⟩ := hv3.form
    clear hb2 hb3' hv2
    have HV3 : Hid (RowsOf w3 (.slice a3 (cutR l).length cap3) (cutR l)) := hv3
    clear hv3
    generalize cutR l = qs at *
    go_wp2_with fail
    go_loopw [5] (fun i wr => ∃ k : Nat, k ≤ qs.length ∧ i = .int .i64 k ∧ Hid ((qs.take k).all (okp true) = true) ∧ wr = w3) (fun i _ => qs.length - (RowKit.intOf i).toNat)
    case atStart => exact ⟨0, Nat.zero_le _, rfl, rfl, rfl⟩
    case round =>
      obtain ⟨k, hk, rfl, hck, rfl⟩ := hrel
      by_cases hlt : k < qs.length
      · obtain ⟨b, off, cap, u, hvv, hbl, c0, hr⟩ := HV3.out.at k hlt
        simp only [Value.slice.injEq] at hvv
        obtain ⟨rfl, -, rfl⟩ := hvv
        have hi : (k : Int) < qs.length := by omega
        have hql := HQ.out _ (List.getElem_mem hlt)
        by_cases hok : okp true qs[k] = true
        · have HN : Hid ((qs.take (k + 1)).all (okp true) = true) := all_take hlt hck.out hok
          clear hck
          go_wp2_with fail
          refine (refPart_any u _ _ hr (by omega)).mono ?_
          rintro e w4 ⟨rfl, rfl⟩
          rw [hok]
          go_wp2
          go_roundw
          case rel => exact ⟨k + 1, hlt, by go_num, HN, by trivial⟩
          case measure => simp [RowKit.intOf]; omega
        · have hok' : okp true qs[k] = false := by simpa using hok
          have HN : Hid (3 = C) := by show _ = _; rw [HCC.out, if_neg (not_all hlt hok')]
          clear hck HCC
          go_wp2_with fail
          refine (refPart_any u _ _ hr (by omega)).mono ?_
          rintro e w4 ⟨rfl, rfl⟩
          rw [hok']
          go_wp2
          go_ret
          exact ⟨by rw [← HN.out]; rfl, hb3⟩
      · have hk' : k = qs.length := by omega
        subst hk'
        have hall := hck.out
        rw [List.take_of_length_le (Nat.le_refl _)] at hall
        by_cases h40 : 40 < l.length
        · have h40' : decide ((40 : Int) < l.length) = true := by simp; omega
          have HN : Hid (2 = C) := by show _ = _; rw [HCC.out, if_pos hall, if_pos (Or.inr h40)]
          clear hck HCC hall
          go_wp2
          go_ret
          exact ⟨by rw [← HN.out]; rfl, hb3⟩
        · have h40' : decide ((40 : Int) < l.length) = false := by simp; omega
          by_cases h5 : 5 < qs.length
          · have h5' : decide ((5 : Int) < qs.length) = true := by simp; omega
            have HN : Hid (2 = C) := by show _ = _; rw [HCC.out, if_pos hall, if_pos (Or.inl h5)]
            clear hck HCC hall
            go_wp2
            go_ret
            exact ⟨by rw [← HN.out]; rfl, hb3⟩
          · have h5' : decide ((5 : Int) < qs.length) = false := by simp; omega
            have HN : Hid (0 = C) := by show _ = _; rw [HCC.out, if_pos hall, if_neg (by omega)]
            clear hck HCC hall
            go_wp2
            go_ret
            exact ⟨by rw [← HN.out]; rfl, hb3⟩
  · have hv' : Lib.validD s.data.toList = false := by simpa using hv
    rw [check_invalid hv']
    go_enter Tryz.func86, Tryz.ntmps86
    go_wp2_with fail
    refine (refValid_any s _ (by omega)).mono ?_
    rintro e w1 ⟨rfl, hb1⟩
    rw [hv']
    go_wp2
    go_ret
    exact ⟨rfl, hb1⟩

theorem info_str : (Tryz.prog.info? 9).map (fun i => (i.zero, i.size, i.bytes)) = some (some (.string ⟨#[]⟩), 1, 16) := by kernel_rfl
def partB (qs : List (List Nat)) : List (List UInt8) := qs.map (·.flatMap enc)
theorem partB_snoc (qs : List (List Nat)) (q : List Nat) : svals (partB (qs ++ [q])) = svals (partB qs) ++ [.string (str (q.flatMap enc))] := by simp [svals, partB]
theorem str_app (a b : List UInt8) : str a ++ str b = str (a ++ b) := ba_eq (by rw [ba_append, str_data, str_data, str_data])
theorem room4 {A B : ByteArray} (h1 : A.size ≤ 4000000) (h2 : B.size ≤ 4) : ¬ 9223372036854775807 < A.size + B.size := by omega

set_option maxRecDepth 100000 in
set_option maxHeartbeats 4000000 in
theorem refParts_ok (s : ByteArray) (w : World) (hs : s.size ≤ 900000) (hc : checkL s.data.toList = 0) :
    Calls Tryz.prog 87 #[.string s] w fun e w' => PaPost (cutB s.data.toList) w e w' := by
  obtain ⟨is, his, hx0, hx1, hx2⟩ := info_parts info_str
  have hv := valid_of_name hc
  have hll := rns_le s
  have HP : Hid (Parts s.data.toList (cutR (rns s.data.toList))) := parts_of hc
  have HRU : Hid (∀ w, Calls Tryz.prog 91 #[.string s] w fun e w' => RnPost (rns s.data.toList) w e w') := fun w => refRunes_any s w (by omega) hv
  have HCH : Hid (∀ w, Calls Tryz.prog 86 #[.string s] w fun e w' => e = .returned (.int .i64 (checkL s.data.toList)) ∧ Below w.heap.size w w') := fun w => refCheck_any s w (by omega)
  have HCB : Hid (cutB s.data.toList = partB (cutR (rns s.data.toList))) := HP.out.cut
  have HQL : Hid (∀ q ∈ cutR (rns s.data.toList), q.length ≤ 40) := fun q hq => by have := joinR_len _ q hq; have := HP.out.short; omega
  have HSC : Hid (∀ q ∈ cutR (rns s.data.toList), ∀ c ∈ q, scal c) := fun q hq c hcq => HP.out.scals c (joinR_mem _ q hq c hcq)
  have hq5 := HP.out.few
  obtain ⟨PB, HPB⟩ : ∃ PB, Hid (partB (cutR (rns s.data.toList)) = PB) := ⟨_, rfl⟩
  rw [HCB.out, HPB.out]
  go_enter Tryz.func87, Tryz.ntmps87
  go_wp2_with fail
  refine (HCH.out _).mono ?_
  rintro e w1 ⟨rfl, hb1⟩
  rw [hc]
  clear HCH HCB HP
  go_wp2_with fail
  refine (HRU.out _).mono ?_
  rintro e w2 ⟨v2, rfl, hv2, hb2'⟩
  have hb2 := hb1.trans (hb2'.mono hb1.size)
  clear hb1 hb2' HRU
  generalize rns s.data.toList = l at *
  go_wp2_with fail
  refine (refSplit_any v2 l _ hv2 (by omega)).mono ?_
  rintro e w3 ⟨v3, rfl, hv3, hb3'⟩
  have hb3 := hb2.trans (hb3'.mono hb2.size)
  obtain ⟨a3, cap3, rfl⟩ := hv3.form
  clear hb2 hb3' hv2
  have HV3 : Hid (RowsOf w3 (.slice a3 (cutR l).length cap3) (cutR l)) := hv3
  clear hv3
  generalize cutR l = qs at *
  have hs3 := hb3.size
  go_wp2_with fail
  go_loopw [4, 5] (fun o i wr => ∃ k : Nat, k ≤ qs.length ∧ i = .int .i64 k ∧ wr.ownsRow w3.heap.size 9 1 o k (svals (partB (qs.take k))) ∧ Below w3.heap.size w3 wr) (fun _ i _ => qs.length - (RowKit.intOf i).toNat)
  case atStart => exact ⟨0, Nat.zero_le _, rfl, World.ownsRow_nil _ _ _ _, Below.refl _ _⟩
  case round =>
    obtain ⟨k, hk, rfl, ho, hb⟩ := hrel
    have hbs := hb.size
    by_cases hlt : k < qs.length
    · obtain ⟨b, off, cap, u, hvv, hbl, c0, hr⟩ := (HV3.out.below hb).at k hlt
      simp only [Value.slice.injEq] at hvv
      obtain ⟨rfl, -, rfl⟩ := hvv
      have hi : (k : Int) < qs.length := by omega
      have hql := HQL.out _ (List.getElem_mem hlt)
      have HSq : Hid (∀ c ∈ qs[k], scal c) := HSC.out _ (List.getElem_mem hlt)
      have HX : Hid (svals (partB (qs.take k)) ++ [.string (str ((qs[k]).flatMap enc))] = svals (partB (qs.take (k + 1)))) := by
        show _ = _
        rw [List.take_succ_eq_append_getElem hlt, partB_snoc]
      obtain ⟨au, capu, rfl⟩ := hr.form
      generalize qs[k] = q at *
      rename World => wo
      go_wp2_with fail
      go_loopw [6, 7] (fun t j wx => ∃ m : Nat, m ≤ q.length ∧ j = .int .i64 m ∧ t = .string (str ((q.take m).flatMap enc)) ∧ Below wo.heap.size wo wx) (fun _ j _ => q.length - (RowKit.intOf j).toNat)
      case atStart => exact ⟨0, Nat.zero_le _, rfl, rfl, Below.refl _ _⟩
      case round =>
        obtain ⟨m, hm, rfl, rfl, hbx⟩ := hrel
        have c0' := (hbx.cell (p := ⟨b, off + k, none⟩) hbl).trans c0
        have hbxs := hbx.size
        by_cases hlm : m < q.length
        · obtain ⟨b2, off2, cap2, hvv, hbl2, c2⟩ := ints_row (hr.below hbx) m hlm
          simp only [Value.slice.injEq] at hvv
          obtain ⟨rfl, -, rfl⟩ := hvv
          have him : (m : Int) < q.length := by omega
          have hsc : Hid (scal q[m]) := HSq.out _ (List.getElem_mem hlm)
          have HN : Hid (str ((q.take m).flatMap enc) ++ str (enc q[m]) = str ((q.take (m + 1)).flatMap enc)) := by
            show _ = _
            rw [str_app, List.take_succ_eq_append_getElem hlm, List.flatMap_append]
            simp
          have hz1 : (str ((q.take m).flatMap enc)).size ≤ 4000000 := by
            rw [str_size]
            have h1 := flat_len (q.take m)
            rw [List.length_take] at h1
            omega
          have hz2 : (str (enc q[m])).size ≤ 4 := by rw [str_size]; exact enc_len4 _
          have hz3 := room4 hz1 hz2
          clear hz1 hz2
          generalize hA : str ((q.take m).flatMap enc) = A at *
          clear hA
          go_wp2_with fail
          refine (refBytes_any _ _ hsc.out).mono ?_
          rintro e w5 ⟨rfl, hb5'⟩
          have hb5 : Hid (Below wo.heap.size wo w5) := hbx.trans (hb5'.mono hbx.size)
          clear hbx hb5' c0' c2
          go_wp2
          go_roundw
          case rel => exact ⟨m + 1, hlm, by go_num, by rw [HN.out], hb5.out⟩
          case measure => simp [RowKit.intOf]; omega
        · have hm' : m = q.length := by omega
          subst hm'
          have ho2 := owns_below' ho hbx
          have HT : Hid (str ((q.take q.length).flatMap enc) = str (q.flatMap enc)) := by show _ = _; rw [List.take_of_length_le (Nat.le_refl _)]
          rw [HT.out]
          go_wp2_with (at_builtin; refine wpl_apps _ rfl (.tmp 39) (.tmp 41) 93 9 rfl is _ 16 Tryz.underlying93 his hx0 hx1 hx2 rfl _ _ _ _ rfl ho2 (.string (str (q.flatMap enc))) _ rfl rfl rfl (by omega) (by unfold maxLen; omega) (by omega) ?_; intro v6 w6 hown6 hb6 hst6)
          have HO : Hid (w6.ownsRow w3.heap.size 9 1 v6 (k + 1) (svals (partB (qs.take (k + 1))))) := by
            show World.ownsRow _ _ _ _ _ _ _
            rw [← HX.out]
            exact hown6
          have HB : Hid (Below w3.heap.size w3 w6) := (hb.trans (hbx.mono hbs)).trans hb6
          clear hst6 hown6 hb6 ho2
          go_wp2
          go_roundw
          case rel => exact ⟨k + 1, hlt, by go_num, HO.out, HB.out⟩
          case measure => simp [RowKit.intOf]; omega
    · have hk' : k = qs.length := by omega
      subst hk'
      have HO : Hid (IsRow wr 1 u4 PB.length (svals PB)) := by
        have := IsRow.own ho
        rw [List.take_of_length_le (Nat.le_refl _), HPB.out] at this
        have e : PB.length = qs.length := by rw [← HPB.out]; simp [partB]
        rw [e]
        exact this
      go_wp2
      go_ret
      exact ⟨_, rfl, HO.out, hb3.trans (hb.mono hs3)⟩
end Go.Proofs.YtbekpemidpngaaaGreatDoor
/- The reference's SameTexts of the same texts. -/
namespace Go.Proofs.YtbekpemidpngaaaGreatDoor
open Go.RowKit

end Go.Proofs.YtbekpemidpngaaaGreatDoor
