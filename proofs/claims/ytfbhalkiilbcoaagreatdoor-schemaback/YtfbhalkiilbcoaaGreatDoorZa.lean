/- The reference's Letter, Small, Hash: walks. -/
import Derived.Test.YtfbhalkiilbcoaaGreatDoorNB
import Derived.Test.YtfbhalkiilbcoaaGreatDoorND
import Derived.Test.YtfbhalkiilbcoaaGreatDoorZd
import Derived.RegionTactic
import Derived.ChangeAlike
import Derived.Deep.QuietTactic
import Derived.BigQuiet
import Derived.Test.YtfbhalkiilbcoaaGreatDoorNDc
import Derived.Test.YtfbhalkiilbcoaaGreatDoorZf
import Derived.Deep.AppendLies
namespace Go.Proofs.YtfbhalkiilbcoaaGreatDoor
open Go.RowKit

end Go.Proofs.YtfbhalkiilbcoaaGreatDoor
/- The reference's Bytes, Fold: walks. -/
namespace Go.Proofs.YtfbhalkiilbcoaaGreatDoor
open Go.RowKit

theorem conv1 (w : World) (a : Int) : (convert 71 9 (.slice (some ⟨w.heap.size, 0, none⟩) 1 1)).run Tryz.prog (w.alloc (.cells #[.int .u8 a] 5)) = .ok (.string (strOfNums [a])) (w.alloc (.cells #[.int .u8 a] 5)) :=
  run_convert_bytes_arg (P := Tryz.prog) (w.alloc (.cells #[.int .u8 a] 5)) 71 5 Tryz.underlying71 Tryz.underlying5 w.heap.size 0 1 1 [a] rfl (fun i hi => by
    match i, hi with
    | 0, _ => simp) 9 Tryz.underlying9
theorem conv2 (w : World) (a b : Int) : (convert 71 9 (.slice (some ⟨w.heap.size, 0, none⟩) 2 2)).run Tryz.prog (w.alloc (.cells #[.int .u8 a, .int .u8 b] 5)) = .ok (.string (strOfNums [a, b])) (w.alloc (.cells #[.int .u8 a, .int .u8 b] 5)) :=
  run_convert_bytes_arg (P := Tryz.prog) (w.alloc (.cells #[.int .u8 a, .int .u8 b] 5)) 71 5 Tryz.underlying71 Tryz.underlying5 w.heap.size 0 2 2 [a, b] rfl (fun i hi => by
    match i, hi with
    | 0, _ => simp
    | 1, _ => simp) 9 Tryz.underlying9
theorem conv3 (w : World) (a b c : Int) : (convert 71 9 (.slice (some ⟨w.heap.size, 0, none⟩) 3 3)).run Tryz.prog (w.alloc (.cells #[.int .u8 a, .int .u8 b, .int .u8 c] 5)) = .ok (.string (strOfNums [a, b, c])) (w.alloc (.cells #[.int .u8 a, .int .u8 b, .int .u8 c] 5)) :=
  run_convert_bytes_arg (P := Tryz.prog) (w.alloc (.cells #[.int .u8 a, .int .u8 b, .int .u8 c] 5)) 71 5 Tryz.underlying71 Tryz.underlying5 w.heap.size 0 3 3 [a, b, c] rfl (fun i hi => by
    match i, hi with
    | 0, _ => simp
    | 1, _ => simp
    | 2, _ => simp) 9 Tryz.underlying9
theorem conv4 (w : World) (a b c d : Int) : (convert 71 9 (.slice (some ⟨w.heap.size, 0, none⟩) 4 4)).run Tryz.prog (w.alloc (.cells #[.int .u8 a, .int .u8 b, .int .u8 c, .int .u8 d] 5)) = .ok (.string (strOfNums [a, b, c, d])) (w.alloc (.cells #[.int .u8 a, .int .u8 b, .int .u8 c, .int .u8 d] 5)) :=
  run_convert_bytes_arg (P := Tryz.prog) (w.alloc (.cells #[.int .u8 a, .int .u8 b, .int .u8 c, .int .u8 d] 5)) 71 5 Tryz.underlying71 Tryz.underlying5 w.heap.size 0 4 4 [a, b, c, d] rfl (fun i hi => by
    match i, hi with
    | 0, _ => simp
    | 1, _ => simp
    | 2, _ => simp
    | 3, _ => simp) 9 Tryz.underlying9

theorem str_nums (l : List Nat) (xs : List Int) (h : xs = l.map fun (x : Nat) => (x : Int)) : strOfNums xs = str (l.map UInt8.ofNat) := by
  subst h
  unfold strOfNums str
  congr 2
  rw [List.map_map]
  rfl

theorem str_append (a b : List UInt8) : str a ++ str b = str (a ++ b) := ba_eq (by rw [ba_append, str_data, str_data, str_data])
theorem room {A B : ByteArray} (h1 : A.size ≤ 4000000) (h2 : B.size ≤ 4) : ¬ 9223372036854775807 < A.size + B.size := by omega
theorem ints_row {w : World} {v : Value} {l : List Nat} (h : IsRow w 1 v l.length (icells l)) (i : Nat) (hi : i < l.length) :
    ∃ b off cap, v = .slice (some ⟨b, off, none⟩) l.length cap ∧ b < w.heap.size ∧ w.cell? ⟨b, off + i, none⟩ = some (.int .i64 ((l[i]'hi : Nat) : Int)) := by
  obtain ⟨b, off, cap', hv, hlt, _, _, hc⟩ := h.open (by omega)
  exact ⟨b, off, cap', hv, hlt, hc i _ (by simp [icells, hi])⟩

end Go.Proofs.YtfbhalkiilbcoaaGreatDoor
/- The reference's Split and part: walks. -/
namespace Go.Proofs.YtfbhalkiilbcoaaGreatDoor
open Go.RowKit

/-- The slice v has as many elements as qs, each a slice of a row of qs. -/
def RowsOf (w : World) (v : Value) (qs : List (List Nat)) : Prop :=
  ∃ vs : List Value, IsRow w 1 v qs.length vs ∧ ∀ (i : Nat) (q : List Nat), qs[i]? = some q → ∃ u, vs[i]? = some u ∧ IsRow w 1 u q.length (icells q)
theorem RowsOf.below {w w' : World} {v : Value} {qs : List (List Nat)} (h : RowsOf w v qs) (hb : Below w.heap.size w w') : RowsOf w' v qs := by
  obtain ⟨vs, h1, h2⟩ := h
  refine ⟨vs, h1.below hb, fun i q hq => ?_⟩
  obtain ⟨u, hu, hr⟩ := h2 i q hq
  exact ⟨u, hu, hr.below hb⟩
/-- One of them. -/
theorem RowsOf.at {w : World} {v : Value} {qs : List (List Nat)} (h : RowsOf w v qs) (i : Nat) (hi : i < qs.length) :
    ∃ b off cap u, v = .slice (some ⟨b, off, none⟩) qs.length cap ∧ b < w.heap.size ∧ w.cell? ⟨b, off + i, none⟩ = some u ∧ IsRow w 1 u (qs[i]'hi).length (icells (qs[i]'hi)) := by
  obtain ⟨vs, h1, h2⟩ := h
  obtain ⟨b, off, cap, hv, hlt, _, _, hc⟩ := h1.open (by omega)
  obtain ⟨u, hu, hr⟩ := h2 i _ (List.getElem?_eq_getElem hi)
  exact ⟨b, off, cap, u, hv, hlt, hc i u hu, hr⟩
theorem RowsOf.form {w : World} {v : Value} {qs : List (List Nat)} (h : RowsOf w v qs) : ∃ a cap, v = .slice a qs.length cap := by
  obtain ⟨vs, h1, _⟩ := h
  exact h1.form

theorem owns_same {w w' : World} {base : Nat} {e : TypeId} {sz : Nat} {v : Value} {n : Nat} {xs : List Value} (h : w.ownsRow base e sz v n xs) (hk : ∀ g, v.ownBlock = some g → w'.heap[g]? = w.heap[g]?) : w'.ownsRow base e sz v n xs := by
  refine ⟨h.1, ?_⟩
  rcases h.2 with hn | ⟨g, cap, cur, rfl, hb, hgg, rest⟩
  · exact .inl hn
  · exact .inr ⟨g, cap, cur, rfl, hb, (hk g rfl).trans hgg, rest⟩
theorem owns_base {w : World} {base base' : Nat} {e : TypeId} {sz : Nat} {v : Value} {n : Nat} {xs : List Value} (h : w.ownsRow base e sz v n xs) (hb : base' ≤ base) : w.ownsRow base' e sz v n xs := by
  refine ⟨h.1, ?_⟩
  rcases h.2 with hn | ⟨g, cap, cur, rfl, hb1, rest⟩
  · exact .inl hn
  · exact .inr ⟨g, cap, cur, rfl, Nat.le_trans hb hb1, rest⟩
/-- Rows of other types lie in other blocks. -/
theorem owns_other {w : World} {base base' : Nat} {e e' : TypeId} {sz sz' : Nat} {v v' : Value} {n n' : Nat} {xs xs' : List Value} (h : w.ownsRow base e sz v n xs) (h' : w.ownsRow base' e' sz' v' n' xs') (hne : e ≠ e') (g : Nat) (hg : v.ownBlock = some g) : v'.ownBlock ≠ some g := by
  intro hg'
  rcases h.2 with ⟨rfl, _⟩ | ⟨g1, cap, cur, rfl, _, hgg, _⟩
  · simp [Value.ownBlock] at hg
  rcases h'.2 with ⟨rfl, _⟩ | ⟨g2, cap', cur', rfl, _, hgg', _⟩
  · simp [Value.ownBlock] at hg'
  simp [Value.ownBlock] at hg hg'
  subst hg
  subst hg'
  rw [hgg] at hgg'
  simp at hgg'
  exact hne hgg'.2

/-- Rows that are left as they are, in blocks below N. -/
def Froz (w : World) (base N : Nat) (qs : List (List Nat)) (vs : List Value) : Prop :=
  ∀ (i : Nat) (q : List Nat), qs[i]? = some q → ∃ u, vs[i]? = some u ∧ w.ownsRow base 3 1 u q.length (icells q) ∧ ∀ g, u.ownBlock = some g → g < N
theorem Froz.kept {w w' : World} {base N N' : Nat} {qs : List (List Nat)} {vs : List Value} (h : Froz w base N qs vs) (hN : N ≤ N') (hk : ∀ (u : Value) (n : Nat) (xs : List Value), w.ownsRow base 3 1 u n xs → ∀ g, u.ownBlock = some g → g < N → w'.heap[g]? = w.heap[g]?) : Froz w' base N' qs vs := by
  intro i q hq
  obtain ⟨u, hu, ho, hl⟩ := h i q hq
  exact ⟨u, hu, owns_same ho (fun g hg => hk u _ _ ho g hg (hl g hg)), fun g hg => Nat.lt_of_lt_of_le (hl g hg) hN⟩
theorem Froz.snoc {w : World} {base N : Nat} {qs : List (List Nat)} {vs : List Value} (h : Froz w base N qs vs) (hl : vs.length = qs.length) {q : List Nat} {u : Value} (ho : w.ownsRow base 3 1 u q.length (icells q)) (hg : ∀ g, u.ownBlock = some g → g < N) : Froz w base N (qs ++ [q]) (vs ++ [u]) := by
  intro i p hp
  by_cases hi : i < qs.length
  · rw [List.getElem?_append_left hi] at hp
    obtain ⟨u', hu', h2, h3⟩ := h i p hp
    exact ⟨u', by rw [List.getElem?_append_left (by omega)]; exact hu', h2, h3⟩
  · have hlt : i < (qs ++ [q]).length := (List.getElem?_eq_some_iff.1 hp).1
    rw [List.length_append, List.length_singleton] at hlt
    have : i = qs.length := by omega
    subst this
    rw [List.getElem?_append_right (Nat.le_refl _), Nat.sub_self] at hp
    simp at hp
    subst hp
    exact ⟨u, by rw [List.getElem?_append_right (by omega)]; simp [hl], ho, hg⟩
theorem Froz.rows {w : World} {base N : Nat} {qs : List (List Nat)} {vs : List Value} {v : Value} (h : Froz w base N qs vs) (ho : w.ownsRow base 105 1 v qs.length vs) : RowsOf w v qs :=
  ⟨vs, IsRow.own ho, fun i q hq => by
    obtain ⟨u, hu, h2, _⟩ := h i q hq
    exact ⟨u, hu, IsRow.own h2⟩⟩

theorem info_ints : (Tryz.prog.info? 105).map (fun i => (i.zero, i.size, i.bytes)) = some (some (.slice none 0 0), 1, 24) := by kernel_rfl
/-- What Split leaves. -/
def RwPost (qs : List (List Nat)) (w : World) (e : Ending) (w' : World) : Prop :=
  ∃ v, e = .returned v ∧ RowsOf w' v qs ∧ Below w.heap.size w w'
def SpRel (l : List Nat) (w : World) (o t i : Value) (wr : World) : Prop :=
  ∃ (k N : Nat) (qs : List (List Nat)) (acc : List Nat) (vs : List Value), k ≤ l.length ∧ i = .int .i64 k ∧ w.heap.size ≤ N ∧ N ≤ wr.heap.size ∧ wr.ownsRow w.heap.size 105 1 o qs.length vs ∧ wr.ownsRow N 3 1 t acc.length (icells acc) ∧ Froz wr w.heap.size N qs vs ∧ Below w.heap.size w wr ∧ qs ++ cutR (acc ++ l.drop k) = cutR l ∧ 46 ∉ acc ∧ qs.length ≤ k ∧ acc.length ≤ k
theorem cut_point {acc r : List Nat} (h : 46 ∉ acc) : cutR (acc ++ 46 :: r) = acc :: cutR r := by
  have e : cutR (46 :: r) = [] :: cutR r := by rw [cutR, if_pos rfl]
  have := cut_app acc (46 :: r) h [] (cutR r) e
  simpa using this
theorem cut_last {acc : List Nat} (h : 46 ∉ acc) : cutR acc = [acc] := by
  have := cut_app acc [] h [] [] rfl
  simpa using this
theorem drop_at {l : List Nat} {k : Nat} (h : k < l.length) : l.drop k = l[k] :: l.drop (k + 1) := List.drop_eq_getElem_cons h

theorem pos_not (n : Nat) : decide (0 < n) = !(n == 0) := by cases n <;> simp
end Go.Proofs.YtfbhalkiilbcoaaGreatDoor
/- The reference's Check and Parts: walks. -/
namespace Go.Proofs.YtfbhalkiilbcoaaGreatDoor
open Go.RowKit

theorem chk_bad : ∀ (cs : List Nat) (p r : Nat) (f : Bool), 65533 ∈ cs → chk p r f cs = 3
  | [], _, _, _ => by simp
  | c :: cs, p, r, f => by
    intro hm
    rcases List.mem_cons.1 hm with e | hm
    · subst e
      have hb : beginsN 65533 = false := by decide
      simp only [chk, hb]
      cases f <;> simp
    · simp only [chk]
      split
      · exact chk_bad cs _ _ _ hm
      split
      · rfl
      split
      · exact chk_bad cs _ _ _ hm
      split
      · rfl
      · exact chk_bad cs _ _ _ hm
theorem check_invalid {l : List UInt8} (h : Lib.validD l = false) : checkL l = 3 := by
  refine chk_bad _ _ _ _ ?_
  rcases Classical.em (65533 ∈ rns l) with g | g
  · exact g
  · have := valid_of_no l.length l (Nat.le_refl _) g
    rw [h] at this
    cases this
theorem check_cut (l : List UInt8) : checkL l = if (cutR (rns l)).all (okp true) = true then (if 5 < (cutR (rns l)).length ∨ 40 < (rns l).length then 2 else 0) else 3 := by
  have h := chk_cut (rns l) 1 0 true
  rw [allok_all (cutR_ne _)] at h
  have e1 : 1 + (cutR (rns l)).length - 1 = (cutR (rns l)).length := by omega
  have e2 : 0 + (rns l).length = (rns l).length := by omega
  rw [e1, e2] at h
  exact h
theorem cut_sum : ∀ cs : List Nat, ∀ q ∈ cutR cs, q.length ≤ cs.length := by
  intro cs q hq
  have := joinR_len (cutR cs) q hq
  rw [join_cut] at this
  exact this
theorem cut_len : ∀ cs : List Nat, (cutR cs).length ≤ cs.length + 1
  | [] => by simp [cutR]
  | c :: cs => by
    have := cut_len cs
    rw [cutR]
    split
    · simp; omega
    · cases h : cutR cs with
      | nil => exact absurd h (cutR_ne cs)
      | cons q qs => rw [h] at this; simp [onto] at this ⊢; omega
theorem rns_le (s : ByteArray) : (rns s.data.toList).length ≤ s.size := by
  have h3 := rns_len_le s.data.toList.length s.data.toList
  have e : s.data.toList.length = s.size := Array.length_toList
  have : (rns s.data.toList).length ≤ s.data.toList.length := h3
  omega
theorem all_take {qs : List (List Nat)} {k : Nat} (h : k < qs.length) (h1 : (qs.take k).all (okp true) = true) (h2 : okp true qs[k] = true) : (qs.take (k + 1)).all (okp true) = true := by
  rw [List.take_succ_eq_append_getElem h, List.all_append, h1]
  simp [h2]
theorem not_all {qs : List (List Nat)} {k : Nat} (h : k < qs.length) (h2 : okp true qs[k] = false) : ¬ qs.all (okp true) = true := by
  intro g
  have := List.all_eq_true.1 g _ (List.getElem_mem h)
  rw [h2] at this
  cases this
theorem isEmpty_of {s : ByteArray} (h : s.size = 0) : s.toList.isEmpty = true := by
  rw [ByteArray.toList_eq]
  have : s.data.toList = [] := List.eq_nil_of_length_eq_zero (by rw [Array.length_toList]; exact h)
  rw [this]; rfl
theorem notEmpty_of {s : ByteArray} (h : s.size ≠ 0) : s.toList.isEmpty = false := by
  rw [ByteArray.toList_eq]
  cases e : s.data.toList with
  | nil => exact absurd (by have := congrArg List.length e; rwa [Array.length_toList] at this) h
  | cons b l => rfl
theorem check_empty {s : ByteArray} (h : s.size = 0) : checkL s.data.toList = 3 := by
  have : s.data.toList = [] := List.eq_nil_of_length_eq_zero (by rw [Array.length_toList]; exact h)
  rw [this]; rfl

theorem info_str : (Tryz.prog.info? 9).map (fun i => (i.zero, i.size, i.bytes)) = some (some (.string ⟨#[]⟩), 1, 16) := by kernel_rfl
def partB (qs : List (List Nat)) : List (List UInt8) := qs.map (·.flatMap enc)
theorem partB_snoc (qs : List (List Nat)) (q : List Nat) : svals (partB (qs ++ [q])) = svals (partB qs) ++ [.string (str (q.flatMap enc))] := by simp [svals, partB]
theorem str_app (a b : List UInt8) : str a ++ str b = str (a ++ b) := ba_eq (by rw [ba_append, str_data, str_data, str_data])
theorem room4 {A B : ByteArray} (h1 : A.size ≤ 4000000) (h2 : B.size ≤ 4) : ¬ 9223372036854775807 < A.size + B.size := by omega

end Go.Proofs.YtfbhalkiilbcoaaGreatDoor
/- The reference's SameTexts of the same texts. -/
namespace Go.Proofs.YtfbhalkiilbcoaaGreatDoor
open Go.RowKit

theorem texts_at {w : World} {a : Option Addr} {cap : Nat} {l : List (List UInt8)} (h : IsRow w 1 (.slice a l.length cap) l.length (svals l)) (i : Nat) (hi : i < l.length) :
    ∃ b off, a = some ⟨b, off, none⟩ ∧ b < w.heap.size ∧ w.cell? ⟨b, off + i, none⟩ = some (.string (str (l[i]'hi))) := by
  obtain ⟨b, off, cap', hv, hlt, _, _, hc⟩ := h.open (by omega)
  simp only [Value.slice.injEq] at hv
  exact ⟨b, off, hv.1, hlt, hc i _ (by simp [svals, hi])⟩
end Go.Proofs.YtfbhalkiilbcoaaGreatDoor
/- The reference's Compare and Under: walks. -/
namespace Go.Proofs.YtfbhalkiilbcoaaGreatDoor
open Go.RowKit

def nums (l : List UInt8) : List Nat := l.map (·.toNat)
theorem cmp_nums : ∀ (a b : List UInt8), cmpR (nums a) (nums b) = Lib.compareBytes a b
  | [], [] => rfl
  | [], b :: l => rfl
  | a :: k, [] => rfl
  | a :: k, b :: l => by
    have ih := cmp_nums k l
    unfold nums at ih ⊢
    simp only [List.map_cons, cmpR, Lib.compareBytes, ih, UInt8.lt_iff_toNat_lt]
theorem cmpR_nil_left (m : List Nat) (h : 0 < m.length) : cmpR [] m = -1 := by
  cases m with
  | nil => simp at h
  | cons => rfl
theorem cmpR_nil_right (m : List Nat) (h : 0 < m.length) : cmpR m [] = 1 := by
  cases m with
  | nil => simp at h
  | cons => rfl
theorem nums_take (s : ByteArray) (k : Nat) (h : k < s.size) : icells (nums (s.data.toList.take k)) ++ [Value.int .i64 ((s[k].toNat : Nat) : Int)] = icells (nums (s.data.toList.take (k + 1))) := by
  rw [take_byte s k h]
  simp [icells, nums]
theorem nums_len (s : ByteArray) (k : Nat) (h : k ≤ s.size) : (nums (s.data.toList.take k)).length = k := by
  unfold nums
  rw [List.length_map, List.length_take, Array.length_toList]
  have : s.data.size = s.size := rfl
  omega

/-- What the last loop of Compare leaves, of two rows. -/
def CmPost (l m : List Nat) (w : World) (e : Ending) (w' : World) : Prop := e = .returned (.int .i64 (cmpR l m)) ∧ Below w.heap.size w w'
theorem row_read {w : World} {a : Option Addr} {cap : Nat} {l : List Nat} (h : IsRow w 1 (.slice a l.length cap) l.length (icells l)) (i : Nat) (hi : i < l.length) :
    ∃ b off, a = some ⟨b, off, none⟩ ∧ b < w.heap.size ∧ w.cell? ⟨b, off + i, none⟩ = some (.int .i64 ((l[i]'hi : Nat) : Int)) := by
  obtain ⟨b, off, cap', hv, hlt, hc⟩ := ints_row h i hi
  simp only [Value.slice.injEq] at hv
  exact ⟨b, off, hv.1, hlt, hc⟩

theorem conv_u8 (b : UInt8) : IntKind.i64.wrap (b.toNat : Int) = ((b.toNat : Nat) : Int) := by
  have := b.toNat_lt
  rw [IntKind.wrap_i64]
  omega
theorem nums_all (s : ByteArray) : (nums s.data.toList).length = s.size := by
  unfold nums
  rw [List.length_map, Array.length_toList]
  rfl
end Go.Proofs.YtfbhalkiilbcoaaGreatDoor
/- The reference's Compare where one text is not UTF-8: its walk. -/
namespace Go.Proofs.YtfbhalkiilbcoaaGreatDoor
open Go.RowKit

end Go.Proofs.YtfbhalkiilbcoaaGreatDoor
/- The reference's Check of a value (VS over again beside the names), its Simple, same, may: walks. -/
namespace Go.Proofs.YtfbhalkiilbcoaaGreatDoor
open Go.RowKit

theorem results_r1 {fn : Func} {p : Tmp} (h : fn.results = #[.cell p 83]) (tmps : Array Value) (W : World) (b : Nat) (hp : tmps.getD p undef = .pointer (some ⟨b, 0, none⟩)) {k n : Int} {s : ByteArray} (c0 : W.cell? ⟨b, 0, none⟩ = some (.int .i64 k)) (c1 : W.cell? ⟨b, 1, none⟩ = some (.int .i64 n)) (c2 : W.cell? ⟨b, 2, none⟩ = some (.string s)) :
    (results fn tmps).run Tryz.prog W = .ok (vv k n s) W := by
  have e1 : (results fn tmps).run Tryz.prog W = ((asAddr (tmps.getD p undef)).run Tryz.prog W).andThen fun a w₁ => (loadVar 83 a).run Tryz.prog w₁ := by
    simp only [results, h]
    simp [Sem.run_bind, Result.andThen]
  rw [e1, hp]
  have e : (asAddr (.pointer (some ⟨b, 0, none⟩))).run Tryz.prog W = .ok ⟨b, 0, none⟩ W := rfl
  rw [e]
  simp only [Result.andThen]
  go_simp
theorem eq_str (A B : List UInt8) : ((str A).toList == (str B).toList) = decide (A = B) := by
  rw [ByteArray.toList_eq, ByteArray.toList_eq, str_data, str_data, Bool.eq_iff_iff]; simp
end Go.Proofs.YtfbhalkiilbcoaaGreatDoor
/- The reference's Check of fields, its Find: walks. -/
namespace Go.Proofs.YtfbhalkiilbcoaaGreatDoor
open Go.RowKit

/-- A field and the one ahead of it, where they lie. -/
def CR (b o o2 : Nat) (x y : Fd) (w0 w : World) : Prop := (w.cell? ⟨b, o, none⟩ = some (.string x.n) ∧ w.cell? ⟨b, o + 1, none⟩ = some (.int .i64 x.k) ∧ w.cell? ⟨b, o + 2, none⟩ = some (.bool x.m) ∧ w.cell? ⟨b, o2, none⟩ = some (.string y.n)) ∧ b < w.heap.size ∧ Below w0.heap.size w0 w
theorem CR_call {b o o2 : Nat} {x y : Fd} {w0 W w' : World} (hb : Below W.heap.size W w') (h : CR b o o2 x y w0 W) : CR b o o2 x y w0 w' := by
  obtain ⟨⟨c0, c1, c2, c3⟩, l, B⟩ := h
  exact ⟨⟨(hb.cell (p := ⟨b, o, none⟩) l).trans c0, (hb.cell (p := ⟨b, o + 1, none⟩) l).trans c1, (hb.cell (p := ⟨b, o + 2, none⟩) l).trans c2, (hb.cell (p := ⟨b, o2, none⟩) l).trans c3⟩, Nat.lt_of_lt_of_le l hb.size, B.trans (hb.mono B.size)⟩
theorem CR_drew {b o o2 : Nat} {x y : Fd} {w0 W : World} (h : CR b o o2 x y w0 W) : CR b o o2 x y w0 W.drew := CR_call (Below.refl _ _).drew h
def NmR (l : List Fd) : Prop := ∀ x ∈ l, x.n.size ≤ 200000
theorem allF (l : List Fd) (h : ∀ (k : Nat) (h : k < l.length), okF l k h) : chkF l = decide (l.length ≤ 24) := by unfold chkF; rw [decide_eq_true h, Bool.and_true]
/-- The place of the first field of a name; below 0: none. -/
def FiR (l : List Fd) (s : ByteArray) (r : Int) : Prop := (∃ (k : Nat) (h : k < l.length), r = k ∧ getF l s = some l[k]) ∨ (r = -1 ∧ getF l s = none)
end Go.Proofs.YtfbhalkiilbcoaaGreatDoor
/- The law's Attrs; the reference's Get, its Attrs: walks. -/
namespace Go.Proofs.YtfbhalkiilbcoaaGreatDoor
open Go.RowKit

/-- A row of attributes, handed back. -/
def RaPost (l : List At) (w : World) (e : Ending) (w' : World) : Prop := ∃ v, e = .returned v ∧ IsRow w' 4 v l.length (aCells l) ∧ Below w.heap.size w w'
theorem info_ra : (Tryz.prog.info? 85).map (fun i => (i.zero, i.size, i.bytes)) = some (some (.agg #[.string ⟨#[]⟩, .int .i64 0, .int .i64 0, .string ⟨#[]⟩]), 4, 48) := by kernel_rfl
theorem a_take (l : List At) (k : Nat) (hk : k < l.length) : aCells (l.take (k + 1)) = aCells (l.take k) ++ enA l[k] := by
  rw [List.take_succ_eq_append_getElem hk, aCells, List.flatMap_append]
  simp [aCells]
set_option maxRecDepth 100000 in
set_option maxHeartbeats 4000000 in
theorem attrsR_any (v : Value) (l : List At) (w : World) (hr : IsRow w 4 v l.length (aCells l)) (hl : l.length ≤ 1000000) :
    Calls Tryz.prog 19 #[v] w fun e w' => RaPost l w e w' := by
  obtain ⟨a0, cap0, rfl⟩ := hr.form
  have HR : Hid (IsRow w 4 (.slice a0 l.length cap0) l.length (aCells l)) := hr
  clear hr
  obtain ⟨i0, hi0, hz0, hz1, hz2⟩ := info_parts info_ra
  go_enter Tryz.func19, Tryz.ntmps19
  go_wp2_with fail
  go_loopw [3, 4] (fun r i wr => ∃ k : Nat, k ≤ l.length ∧ i = .int .i64 (k : Int) ∧ Hid (wr.ownsRow w.heap.size 85 4 r k (aCells (l.take k))) ∧ Below w.heap.size w wr) (fun _ i _ => l.length - (intOf i).toNat)
  case atStart => exact ⟨0, Nat.zero_le _, rfl, World.ownsRow_nil _ _ _ _, Below.refl _ _⟩
  case round =>
    obtain ⟨k, hk, rfl, HO, hB⟩ := hrel
    have hsz := hB.size
    by_cases hlk : k < l.length
    · have dk : decide ((k : Int) < l.length) = true := by simp; omega
      obtain ⟨b, off, rfl, hlt, hcap, hc⟩ := a_at HR.out (by omega)
      obtain ⟨k0, k1, k2, k3⟩ := hc k hlk
      have ck0 := (hB.cell (p := ⟨b, off + k * 4, none⟩) hlt).trans k0
      have ck1 := (hB.cell (p := ⟨b, off + k * 4 + 1, none⟩) hlt).trans k1
      have ck2 := (hB.cell (p := ⟨b, off + k * 4 + 2, none⟩) hlt).trans k2
      have ck3 := (hB.cell (p := ⟨b, off + k * 4 + 3, none⟩) hlt).trans k3
      have HTh : Hid (aCells (l.take (k + 1)) = aCells (l.take k) ++ enA l[k]) := a_take l k hlk
      have hne : some b ≠ u3.ownBlock := fun e => by have := (HO.out.lt b e.symm).1; omega
      have hbw : b < wr.heap.size := by omega
      have HBr : Hid (Below w.heap.size w wr) := hB
      generalize l[k]'hlk = x at *
      obtain ⟨an, ak, av, as'⟩ := x
      dsimp only at *
      have q1 : (0 : Int) ≤ (k : Int) := by omega
      have q2 : (k : Int) < (l.length : Int) := by omega
      clear hc k0 k1 k2 k3 hB
      go_wp2_with fail
      go_region_held3 (fun w' => w'.cell? ⟨b, off + k * 4, none⟩ = some (.string an) ∧ w'.cell? ⟨b, off + k * 4 + 1, none⟩ = some (.int .i64 ak) ∧ w'.cell? ⟨b, off + k * 4 + 2, none⟩ = some (.int .i64 av) ∧ w'.cell? ⟨b, off + k * 4 + 3, none⟩ = some (.string as'))
        (first
          | go_keep
          | (go_split_ands
             refine ⟨?_, ?_, ?_, ?_⟩
             all_goals (rw [hgrow.cell_far _ (by simp; omega) hne]; assumption)))
        ((refine step_append_lies _ (by rfl) _ _ _ (by rfl) w.heap.size 85 i0 _ 4 48 Tryz.underlying40 hi0 hz0 hz1 hz2 rfl (by omega) u3 k (aCells (l.take k)) (by rfl) ((HO.out.alloc _).drew)
            ⟨wr.heap.size, 0, none⟩ 1 1 [.string an, .int .i64 ak, .int .i64 av, .string as'] (by rfl) (by rfl) (World.news_of_block (cs := #[.string an, .int .i64 ak, .int .i64 av, .string as']) (t := 85) (fr := (0, 0)) (heap_alloc_new wr _)) (by simp [Value.oneCell'])
            (by omega) (by unfold maxLen; omega) (by omega) (by simp; omega) (wr.heap.size + 1) (by simp) ?_; intro gg cap w1 hown1 hgrow hat hlt1))
      have HO2 : Hid (w1.ownsRow w.heap.size 85 4 (.slice (some ⟨gg, 0, none⟩) (k + 1) cap) (k + 1) (aCells (l.take (k + 1)))) := by
        show World.ownsRow _ _ _ _ _ _ _
        rw [HTh.out]; exact hown1
      have HB2 : Hid (Below w.heap.size w w1) := (HBr.out.trans ((al_b wr _).drew.mono hsz)).grown hgrow (by simp; omega) (fun k hk => (HO.out.lt k hk).1)
      clear hown1 hgrow hat hlt1 HTh HO
      go_wp2
      go_roundw
      case rel => exact ⟨k + 1, by omega, by simp, HO2, HB2.out⟩
      case measure => simp [intOf]; omega
    · have hk' : k = l.length := by omega
      subst hk'
      have dk : decide ((l.length : Int) < l.length) = false := by simp
      have hown := HO.out
      rw [List.take_of_length_le (Nat.le_refl _)] at hown
      have HX : Hid (IsRow wr 4 u3 l.length (aCells l) ∧ Below w.heap.size w wr) := ⟨IsRow.own hown, hB⟩
      clear hown hB
      go_wp2
      go_ret
      exact ⟨_, rfl, HX.out.1, HX.out.2⟩
def NmRA (l : List At) : Prop := ∀ x ∈ l, x.n.size ≤ 200000 ∧ x.s.size ≤ 140737488355328
/-- The place of the first attribute of a name; below 0: none. -/
def GiR (l : List At) (s : ByteArray) (r : Int) : Prop := (∃ (k : Nat) (h : k < l.length), r = k ∧ getA l s = some l[k]) ∨ (r = -1 ∧ getA l s = none)
end Go.Proofs.YtfbhalkiilbcoaaGreatDoor
/- The reference's Attrs: its walk. -/
namespace Go.Proofs.YtfbhalkiilbcoaaGreatDoor
open Go.RowKit

/-- An attribute and the one ahead of it, where they lie. -/
def CX (b o o2 : Nat) (x y : At) (w0 w : World) : Prop := (w.cell? ⟨b, o, none⟩ = some (.string x.n) ∧ w.cell? ⟨b, o + 1, none⟩ = some (.int .i64 x.k) ∧ w.cell? ⟨b, o + 2, none⟩ = some (.int .i64 x.v) ∧ w.cell? ⟨b, o + 3, none⟩ = some (.string x.s) ∧ w.cell? ⟨b, o2, none⟩ = some (.string y.n)) ∧ b < w.heap.size ∧ Below w0.heap.size w0 w
theorem CX_call {b o o2 : Nat} {x y : At} {w0 W w' : World} (hb : Below W.heap.size W w') (h : CX b o o2 x y w0 W) : CX b o o2 x y w0 w' := by
  obtain ⟨⟨c0, c1, c2, c3, c4⟩, l, B⟩ := h
  exact ⟨⟨(hb.cell (p := ⟨b, o, none⟩) l).trans c0, (hb.cell (p := ⟨b, o + 1, none⟩) l).trans c1, (hb.cell (p := ⟨b, o + 2, none⟩) l).trans c2, (hb.cell (p := ⟨b, o + 3, none⟩) l).trans c3, (hb.cell (p := ⟨b, o2, none⟩) l).trans c4⟩, Nat.lt_of_lt_of_le l hb.size, B.trans (hb.mono B.size)⟩
theorem CX_drew {b o o2 : Nat} {x y : At} {w0 W : World} (h : CX b o o2 x y w0 W) : CX b o o2 x y w0 W.drew := CX_call (Below.refl _ _).drew h
theorem allA (l : List At) (h : ∀ (k : Nat) (h : k < l.length), okA l k h) : chkA l = decide (l.length ≤ 24) := by unfold chkA; rw [decide_eq_true h, Bool.and_true]
end Go.Proofs.YtfbhalkiilbcoaaGreatDoor
/- The reference's Fits: its walk. -/
namespace Go.Proofs.YtfbhalkiilbcoaaGreatDoor
open Go.RowKit

theorem drewN_bE {B : Nat} {a w : World} (h : Below B a w) (n : Nat) : Below B a (w.drewN n) := ⟨h.os, h.tape, h.output, h.size, h.block⟩
end Go.Proofs.YtfbhalkiilbcoaaGreatDoor
