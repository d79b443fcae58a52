/- The reference's Take at every input up to 4,096 kinds; quic.Row. -/
import Derived.Test.YtjgefiomcfpmeaaDoorRTa
namespace Go.Proofs.YtjgefiomcfpmeaaDoor
open Go.RowKit

theorem refTake_any (s : ByteArray) (v : Value) (ks : List Int) (w : World) (hs : s.size ≤ 140737488355328) (h : IsRow w 1 v ks.length (intCells ks)) (hl : ks.length ≤ 4096) :
    Calls Tryd.prog 12 #[.string s, v] w fun e w' => RTPost (takeR s ks) w e w' := by
  unfold takeR
  by_cases hc : ks.all isK = true
  · rw [if_pos hc]; exact refTake_ok s v ks w hs h hl hc
  · rw [if_neg hc]; exact refTake_bad s v ks w h hl (by simpa using hc)

theorem tk_len : ∀ (ks : List Int) (acc : List It) (s : ByteArray), (tk acc s ks).1.length ≤ acc.length + ks.length
  | [], acc, s => by simp [tk]
  | k :: ks, acc, s => by
    unfold tk
    split
    · have := tk_len ks (acc ++ [⟨k, tN s k, tS s k⟩]) (tR s k)
      simp at this ⊢
      omega
    · simp
theorem takeR_len (s : ByteArray) (ks : List Int) : (takeR s ks).1.length ≤ ks.length := by
  unfold takeR
  split
  · have := tk_len ks [] s
    simpa using this
  · simp
theorem tk_none : ∀ (ks : List Int) (acc : List It) (s : ByteArray), (tk acc s ks).2.2 ≠ 0 → (tk acc s ks).1 = [] ∧ (tk acc s ks).2.1 = ⟨#[]⟩
  | [], acc, s => fun h => absurd rfl h
  | k :: ks, acc, s => by
    unfold tk
    split
    · exact tk_none ks _ _
    · exact fun _ => ⟨rfl, rfl⟩
theorem takeR_none {s : ByteArray} {ks : List Int} (h : (takeR s ks).2.2 ≠ 0) : (takeR s ks).1 = [] ∧ (takeR s ks).2.1 = ⟨#[]⟩ := by
  unfold takeR at *
  split
  · rename_i hc
    rw [if_pos hc] at h
    exact tk_none ks [] s h
  · exact ⟨rfl, rfl⟩

/-- What Row leaves: a row of the items, the error. -/
def RowPost (l : List It) (x : Int) (w : World) (e : Ending) (w' : World) : Prop :=
  ∃ v, e = .returned (.tuple #[v, .int .i64 x]) ∧ IsRow w' 3 v l.length (itCells l) ∧ Below w.heap.size w w'

set_option maxHeartbeats 1000000 in
theorem row_err' (s : ByteArray) (v : Value) (ks : List Int) (w : World) (hs : s.size ≤ 140737488355328) (h : IsRow w 1 v ks.length (intCells ks)) (hl : ks.length ≤ 4096) (te : Int) (HT : Hid ((takeR s ks).2.2 = te)) (he' : (te != 0) = true) :
    Calls Tryd.prog 14 #[.string s, v] w fun e w' => RowPost [] te w e w' := by
  obtain ⟨a0, cap0, rfl⟩ := h.form
  go_enter Tryd.func14, Tryd.ntmps14
  go_wp2_with fail
  refine (take_any _ _ _ _ hs h hl).mono ?_
  rintro e w1 ⟨v1, rfl, hv1, hb1⟩
  obtain ⟨a1, cap1, rfl⟩ := hv1.form
  rw [HT.out]
  clear HT
  generalize (takeR s ks).1 = l at *
  generalize (takeR s ks).2.1 = rest at *
  have hb : Hid (Below w.heap.size w w1) := hb1
  clear hb1 hv1
  go_wp2
  go_ret2
  exact ⟨.slice none 0 0, rfl, IsRow.nil _ _, hb.out⟩
theorem row_err (s : ByteArray) (v : Value) (ks : List Int) (w : World) (hs : s.size ≤ 140737488355328) (h : IsRow w 1 v ks.length (intCells ks)) (hl : ks.length ≤ 4096) (he : (takeR s ks).2.2 ≠ 0) :
    Calls Tryd.prog 14 #[.string s, v] w fun e w' => RowPost [] (takeR s ks).2.2 w e w' :=
  row_err' s v ks w hs h hl _ rfl (by rw [bne_iff_ne]; exact he)

set_option maxHeartbeats 1000000 in
theorem row_long (s : ByteArray) (v : Value) (ks : List Int) (w : World) (hs : s.size ≤ 140737488355328) (h : IsRow w 1 v ks.length (intCells ks)) (hl : ks.length ≤ 4096) (he : (takeR s ks).2.2 = 0) (hr : (takeR s ks).2.1.toList.isEmpty = false) :
    Calls Tryd.prog 14 #[.string s, v] w fun e w' => RowPost [] 2 w e w' := by
  obtain ⟨a0, cap0, rfl⟩ := h.form
  go_enter Tryd.func14, Tryd.ntmps14
  go_wp2_with fail
  refine (take_any _ _ _ _ hs h hl).mono ?_
  rintro e w1 ⟨v1, rfl, hv1, hb1⟩
  obtain ⟨a1, cap1, rfl⟩ := hv1.form
  rw [he]
  clear he
  generalize (takeR s ks).1 = l at *
  generalize (takeR s ks).2.1 = rest at *
  have hb : Hid (Below w.heap.size w w1) := hb1
  clear hb1 hv1
  go_wp2
  go_ret2
  exact ⟨.slice none 0 0, rfl, IsRow.nil _ _, hb.out⟩

set_option maxHeartbeats 1000000 in
theorem row_all' (s : ByteArray) (v : Value) (ks : List Int) (w : World) (hs : s.size ≤ 140737488355328) (h : IsRow w 1 v ks.length (intCells ks)) (hl : ks.length ≤ 4096) (he : (takeR s ks).2.2 = 0) (hr : (takeR s ks).2.1.toList.isEmpty = true) (l : List It) (HLL : Hid ((takeR s ks).1 = l)) :
    Calls Tryd.prog 14 #[.string s, v] w fun e w' => RowPost l 0 w e w' := by
  obtain ⟨a0, cap0, rfl⟩ := h.form
  go_enter Tryd.func14, Tryd.ntmps14
  go_wp2_with fail
  refine (take_any _ _ _ _ hs h hl).mono ?_
  rintro e w1 ⟨v1, rfl, hv1, hb1⟩
  rw [HLL.out] at hv1
  obtain ⟨a1, cap1, rfl⟩ := hv1.form
  rw [he]
  clear he HLL
  generalize (takeR s ks).2.1 = rest at *
  have hb : Hid (Below w.heap.size w w1) := hb1
  have hv : Hid (IsRow w1 3 (.slice a1 l.length cap1) l.length (itCells l)) := hv1
  clear hb1 hv1
  go_wp2
  go_ret2
  exact ⟨.slice a1 l.length cap1, rfl, hv.out, hb.out⟩
theorem row_all (s : ByteArray) (v : Value) (ks : List Int) (w : World) (hs : s.size ≤ 140737488355328) (h : IsRow w 1 v ks.length (intCells ks)) (hl : ks.length ≤ 4096) (he : (takeR s ks).2.2 = 0) (hr : (takeR s ks).2.1.toList.isEmpty = true) :
    Calls Tryd.prog 14 #[.string s, v] w fun e w' => RowPost (takeR s ks).1 0 w e w' :=
  row_all' s v ks w hs h hl he hr _ rfl
end Go.Proofs.YtjgefiomcfpmeaaDoor
