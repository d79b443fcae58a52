/- quic.List and quic.Unlist: their walks. -/
import Derived.Test.YtciibeldmcakeaaDoorT3
namespace Go.Proofs.YtciibeldmcakeaaDoor.Q
open Go.RowKit

def strVals (l : List ByteArray) : List Value := l.map Value.string
theorem strs_at {w : World} {a : Option Addr} {cap : Nat} {l : List ByteArray} (h : IsRow w 1 (.slice a l.length cap) l.length (strVals l)) (i : Nat) (hi : i < l.length) :
    ∃ b off, a = some ⟨b, off, none⟩ ∧ b < w.heap.size ∧ w.cell? ⟨b, off + i, none⟩ = some (.string (l[i]'hi)) := by
  obtain ⟨b, off, cap', hv, hlt, _, _, hc⟩ := h.open (by omega)
  simp only [Value.slice.injEq] at hv
  exact ⟨b, off, hv.1, hlt, hc i _ (by simp [strVals, hi])⟩

/-- A text with its length ahead. -/
def txB (s : ByteArray) : List UInt8 := numL s.size ++ s.data.toList
def okT (s : ByteArray) : Bool := decide (s.size ≤ 65536)
/-- What is gathered of so many texts. -/
def ul : List ByteArray → ByteArray → Nat → List ByteArray × ByteArray × Int
  | acc, s, 0 => (acc, s, 0)
  | acc, s, n + 1 => if ttE s = 0 then ul (acc ++ [ttS s]) (ttR s) n else ([], ⟨#[]⟩, ttE s)
def unlistR (s : ByteArray) : List ByteArray × ByteArray × Int :=
  if getE s ≠ 0 then ([], ⟨#[]⟩, getE s) else if 4096 < getV s then ([], ⟨#[]⟩, 2) else ul [] (getRest s) (getV s).toNat
def UnPost (r : List ByteArray × ByteArray × Int) (w : World) (e : Ending) (w' : World) : Prop :=
  ∃ v, e = .returned (.tuple #[v, .string r.2.1, .int .i64 r.2.2]) ∧ IsRow w' 1 v r.1.length (strVals r.1) ∧ Below w.heap.size w w'
theorem info_string : (Tryd.prog.info? 9).map (fun i => (i.zero, i.size, i.bytes)) = some (some (.string ⟨#[]⟩), 1, 16) := by kernel_rfl

theorem allt_take {l : List ByteArray} {k : Nat} (h : k < l.length) (h1 : (l.take k).all okT = true) (h2 : okT (l[k]'h) = true) : (l.take (k + 1)).all okT = true := by
  rw [List.take_succ_eq_append_getElem h, List.all_append, h1]
  simp [h2]
theorem txB_len (s : ByteArray) (h : okT s = true) : (txB s).length ≤ 65544 := by
  have hq : (numL s.size).length ≤ 8 := by have := num_size_le s.size; have := strOfNums_len s.size; have := numL_len s.size; omega
  have hh := of_decide_eq_true h
  unfold txB
  rw [List.length_append]
  have e : s.data.toList.length = s.size := by simp
  omega
theorem flatT_len (l : List ByteArray) (h : l.all okT = true) : (l.flatMap txB).length ≤ l.length * 65544 := by
  induction l with
  | nil => simp
  | cons x l ih =>
    simp only [List.all_cons, Bool.and_eq_true] at h
    have h1 := txB_len x h.1
    have h2 := ih h.2
    simp only [List.flatMap_cons, List.length_append, List.length_cons]
    omega
theorem allt_take' (l : List ByteArray) (k : Nat) (h : l.all okT = true) : (l.take k).all okT = true := by
  rw [List.all_eq_true] at h ⊢
  exact fun x hx => h x (List.mem_of_mem_take hx)

end Go.Proofs.YtciibeldmcakeaaDoor.Q
