/- The reference's tail and First: walks. -/
import Derived.Test.YtfbnlkgopncejaaDoorNB
import Derived.RegionTactic
import Derived.Deep.QuietTactic
import Derived.BigQuiet
namespace Go.Proofs.YtfbnlkgopncejaaDoor
open Go.RowKit Go.Lib

/-- A byte by its number; 0 beyond the end. -/
def gN (s : ByteArray) (i : Nat) : Nat := (s.get! i).toNat
theorem gN_lt (s : ByteArray) (i : Nat) : gN s i < 256 := (s.get! i).toNat_lt
theorem gN_of (s : ByteArray) (i : Nat) (h : i < s.size) : (s[i]'h).toNat = gN s i := by
  cases s with
  | mk d =>
    show (d[i]'h).toNat = (d[i]!).toNat
    rw [getElem!_pos d i h]
def tl (s : ByteArray) (i : Nat) : Bool := decide (i < s.size ∧ 128 ≤ gN s i ∧ gN s i < 192)

/-- The rune at the front and its width; (0, 0): there is none. -/
def fst (s : ByteArray) : Nat × Nat := if s.size = 0 ∨ ((Utf8.decode s 0).1 = 65533 ∧ (Utf8.decode s 0).2 = 1) then (0, 0) else Utf8.decode s 0
theorem fst_none {s : ByteArray} {x0 x1 x2 x3 : Nat} (h : decodeN s.size x0 x1 x2 x3 = (65533, 1)) (e0 : gN s 0 = x0) (e1 : gN s 1 = x1) (e2 : gN s 2 = x2) (e3 : gN s 3 = x3) : fst s = (0, 0) := by
  subst e0 e1 e2 e3
  have e : Utf8.decode s 0 = (65533, 1) := by rw [decode_at]; exact h
  unfold fst
  rw [e]
  simp
theorem fst_some {s : ByteArray} {x0 x1 x2 x3 c k : Nat} (h : decodeN s.size x0 x1 x2 x3 = (c, k)) (hn : s.size ≠ 0) (hk : c = 65533 → k ≠ 1) (e0 : gN s 0 = x0) (e1 : gN s 1 = x1) (e2 : gN s 2 = x2) (e3 : gN s 3 = x3) : fst s = (c, k) := by
  subst e0 e1 e2 e3
  have e : Utf8.decode s 0 = (c, k) := by rw [decode_at]; exact h
  unfold fst
  rw [e, if_neg]
  intro h
  rcases h with h | ⟨h1, h2⟩
  · exact hn h
  · exact hk h1 h2
theorem below_dN {B : Nat} {a w : World} (h : Below B a w) : ∀ q, Below B a (w.drewN q)
  | 0 => h
  | q + 1 => (below_dN h q).drew
def FsPost (s : ByteArray) (w : World) (e : Ending) (w' : World) : Prop :=
  e = .returned (.agg #[.int .i64 (fst s).1, .int .i64 (fst s).2]) ∧ Below w.heap.size w w'

end Go.Proofs.YtfbnlkgopncejaaDoor
