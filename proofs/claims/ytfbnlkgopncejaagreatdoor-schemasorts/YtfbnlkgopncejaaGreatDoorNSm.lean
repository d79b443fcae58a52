/- The reference's SameTexts of the same texts. -/
import Derived.Test.YtfbnlkgopncejaaGreatDoorNU
import Derived.RegionTactic
import Derived.ChangeAlike
import Derived.Deep.QuietTactic
import Derived.BigQuiet
namespace Go.Proofs.YtfbnlkgopncejaaGreatDoor
open Go.RowKit

theorem texts_at {w : World} {a : Option Addr} {cap : Nat} {l : List (List UInt8)} (h : IsRow w 1 (.slice a l.length cap) l.length (svals l)) (i : Nat) (hi : i < l.length) :
    ∃ b off, a = some ⟨b, off, none⟩ ∧ b < w.heap.size ∧ w.cell? ⟨b, off + i, none⟩ = some (.string (str (l[i]'hi))) := by
  obtain ⟨b, off, cap', hv, hlt, _, _, hc⟩ := h.open (by omega)
  simp only [Value.slice.injEq] at hv
  exact ⟨b, off, hv.1, hlt, hc i _ (by simp [svals, hi])⟩
end Go.Proofs.YtfbnlkgopncejaaGreatDoor
