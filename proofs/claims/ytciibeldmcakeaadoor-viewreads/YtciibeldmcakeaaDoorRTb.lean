/- The reference's Take at every input up to 4,096 kinds; quic.Row. -/
import Derived.Test.YtciibeldmcakeaaDoorRTa
namespace Go.Proofs.YtciibeldmcakeaaDoor.Q
open Go.RowKit

theorem refTake_new (s : ByteArray) (v : Value) (ks : List Int) (w : World) (hs : s.size ≤ 140737488355328) (h : IsRow w 1 v ks.length (intCells ks)) (hl : ks.length ≤ 4096) :
    Calls Tryd.prog 20 #[.string s, v] w fun e w' => RTPostN (takeR s ks) w e w' := by
  unfold takeR
  by_cases hc : ks.all isK = true
  · rw [if_pos hc]; exact refTake_ok s v ks w hs h hl hc
  · rw [if_neg hc]; exact refTake_bad s v ks w h hl (by simpa using hc)

theorem refTake_any (s : ByteArray) (v : Value) (ks : List Int) (w : World) (hs : s.size ≤ 140737488355328) (h : IsRow w 1 v ks.length (intCells ks)) (hl : ks.length ≤ 4096) :
    Calls Tryd.prog 20 #[.string s, v] w fun e w' => RTPost (takeR s ks) w e w' :=
  (refTake_new s v ks w hs h hl).mono fun _ _ h => h.old

theorem tk_len : ∀ (ks : List Int) (acc : List It) (s : ByteArray), (tk acc s ks).1.length ≤ acc.length + ks.length
  | [], acc, s => by simp [tk]
  | k :: ks, acc, s => by
    unfold tk
    split
    · have := tk_len ks (acc ++ [⟨k, tN s k, tS s k⟩]) (tR s k)
      simp at this ⊢
      omega
    · simp
theorem takeR_len (s : ByteArray) (ks : List Int) : (takeR s ks).1.length ≤ ks.length := by
  unfold takeR
  split
  · have := tk_len ks [] s
    simpa using this
  · simp
theorem tk_none : ∀ (ks : List Int) (acc : List It) (s : ByteArray), (tk acc s ks).2.2 ≠ 0 → (tk acc s ks).1 = [] ∧ (tk acc s ks).2.1 = ⟨#[]⟩
  | [], acc, s => fun h => absurd rfl h
  | k :: ks, acc, s => by
    unfold tk
    split
    · exact tk_none ks _ _
    · exact fun _ => ⟨rfl, rfl⟩
theorem takeR_none {s : ByteArray} {ks : List Int} (h : (takeR s ks).2.2 ≠ 0) : (takeR s ks).1 = [] ∧ (takeR s ks).2.1 = ⟨#[]⟩ := by
  unfold takeR at *
  split
  · rename_i hc
    rw [if_pos hc] at h
    exact tk_none ks [] s h
  · exact ⟨rfl, rfl⟩

/-- What Row leaves: a row of the items, the error. -/
def RowPost (l : List It) (x : Int) (w : World) (e : Ending) (w' : World) : Prop :=
  ∃ v, e = .returned (.tuple #[v, .int .i64 x]) ∧ IsRow w' 3 v l.length (itCells l) ∧ Below w.heap.size w w'

end Go.Proofs.YtciibeldmcakeaaDoor.Q
