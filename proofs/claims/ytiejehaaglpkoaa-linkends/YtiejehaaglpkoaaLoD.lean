/- A packet of another life, of others, or such as may not be: it changes nothing. Plainly. -/
import Derived.Test.YtiejehaaglpkoaaLoC
namespace Go.Proofs.Ytiejehaaglpkoaa
open Go.RowKit Go.ChangeMaps

/-- The law's packet: of a pair's lives it is not. -/
def oldP (x : Pk) : Pk := if x.fl = 1 ∧ x.tl = 1 then ⟨x.f, x.t, x.fl, 2, x.sq, x.ak, x.x⟩ else x
theorem oldP_no (x : Pk) : ¬ ((oldP x).fl = 1 ∧ (oldP x).tl = 1) := by
  unfold oldP
  split
  · intro h
    have : (2 : Int) = 1 := h.2
    omega
  · rename_i h; exact h
theorem old_look {i : Nat} {L : Lk} (hx : EndX i L) (x : Pk) : (lookE L (oldP x) = 1 ∨ lookE L (oldP x) = 4) ∧ tkL L (oldP x) = L ∧ tkT L (oldP x) = [] ∧ tkO L (oldP x) = [] := by
  obtain ⟨a, b, c, d⟩ := hx
  have hn : lookE L (oldP x) = 1 ∨ lookE L (oldP x) = 4 := by
    unfold lookE
    split
    · split
      · rename_i h
        rw [c, d] at h
        exact absurd h (oldP_no x)
      · exact .inr rfl
    · exact .inl rfl
  have h0 : lookE L (oldP x) ≠ 0 := by rcases hn with h | h <;> rw [h] <;> decide
  exact ⟨hn, by unfold tkL; rw [if_neg h0], by unfold tkT; rw [if_neg h0], by unfold tkO; rw [if_neg h0]⟩
end Go.Proofs.Ytiejehaaglpkoaa
