/- The net as it lies in memory: what is kept, what a store does. -/
import Derived.Test.YtiokcepaamlphabHA
namespace Go.Proofs.Ytiokcepaamlphab
open Go.RowKit

def up {α : Type} (F : Nat → α) (c : Nat) (x : α) : Nat → α := fun k => if k = c then x else F k
theorem up_same {α : Type} (F : Nat → α) (c : Nat) (x : α) : up F c x c = x := by simp [up]
theorem up_other {α : Type} (F : Nat → α) {c k : Nat} (x : α) (h : k ≠ c) : up F c x k = F k := by simp [up, h]
/-- The blocks of a net. -/
def Fp (g : Nat) (V : Nat → Value) (k : Nat) : Prop := k = g ∨ ∃ c, c < 256 ∧ (V c).ownBlock = some k
/-- What a call on a net leaves: all but the net's blocks as it was; its blocks are old ones of its own, or new. -/
structure NStep (w : World) (g : Nat) (V V' : Nat → Value) (w' : World) : Prop where
  os : w'.os = w.os
  tape : w'.tape = w.tape
  output : w'.output = w.output
  size : w.heap.size ≤ w'.heap.size
  block : ∀ k, k < w.heap.size → ¬ Fp g V k → w'.heap[k]? = w.heap[k]?
  fp : ∀ k, Fp g V' k → Fp g V k ∨ w.heap.size ≤ k
theorem NStep.of {w w' : World} (g : Nat) (V : Nat → Value) (hb : Below w.heap.size w w') : NStep w g V V w' := ⟨hb.os, hb.tape, hb.output, hb.size, fun k hk _ => hb.block k hk, fun _ h => .inl h⟩
theorem NStep.trans {w w1 w2 : World} {g : Nat} {V V1 V2 : Nat → Value} (h : NStep w g V V1 w1) (k : NStep w1 g V1 V2 w2) : NStep w g V V2 w2 :=
  ⟨k.os.trans h.os, k.tape.trans h.tape, k.output.trans h.output, Nat.le_trans h.size k.size, fun i hi hn => (k.block i (Nat.lt_of_lt_of_le hi h.size) (fun hf => by
    rcases h.fp i hf with hf | hf
    · exact hn hf
    · omega)).trans (h.block i hi hn), fun i hf => by
    rcases k.fp i hf with hf | hf
    · exact h.fp i hf
    · exact .inr (Nat.le_trans h.size hf)⟩
/-- Something that lies apart from the net stays. -/
theorem NStep.far {w w' : World} {g : Nat} {V V' : Nat → Value} (h : NStep w g V V' w') {k : Nat} (hk : k < w.heap.size) (hn : ¬ Fp g V k) : w'.heap[k]? = w.heap[k]? ∧ ¬ Fp g V' k := ⟨h.block k hk hn, fun hf => by
  rcases h.fp k hf with hf | hf
  · exact hn hf
  · omega⟩
theorem setCell_at (w : World) {g : Nat} (c : Nat) {cur : Array Value} {t : TypeId} (hb : w.heap[g]? = some (.cells cur t (0, 0))) (v : Value) :
    (w.setCell ⟨g, c, none⟩ v).heap[g]? = some (.cells (cur.setIfInBounds c v) t (0, 0)) ∧ (∀ k, k ≠ g → (w.setCell ⟨g, c, none⟩ v).heap[k]? = w.heap[k]?) := by
  rw [setCell_eq_setRow w g c cur t (0, 0) v hb]
  exact ⟨setRow_heap w g cur _ t _ hb, fun k hk => setRow_other w g k _ hk⟩
theorem grown_refl (w : World) (r : Option Nat) : w.grownBy w r := ⟨rfl, rfl, rfl, Nat.le_refl _, fun _ _ _ => rfl⟩
/-- Is it a node? -/
def nodeB (n : Int) : Bool := decide (1 ≤ n) && decide (n ≤ 15)
def hopB (f t : Int) : Bool := nodeB f && (nodeB t && !decide (f = t))
def cntB (n : Int) : Bool := decide (1 ≤ n) && decide (n ≤ 1099511627775)
def seqB (n : Int) : Bool := decide (0 ≤ n) && decide (n ≤ 1099511627775)
/-- May a packet be? -/
def chkP (p : Pk) : Bool := nodeB p.f && (nodeB p.t && (!decide (p.f = p.t) && (cntB p.fl && (cntB p.tl && (seqB p.sq && (seqB p.ak && (decide (p.x.size ≤ 32768) && (decide (p.x.size = 0) || !decide (p.sq = 0)))))))))
theorem two_dec (a b : Prop) [Decidable a] [Decidable b] : (if decide a = true then Value.bool (decide b) else .bool false) = .bool (decide a && decide b) := by
  by_cases h : a <;> simp [h]
theorem wNode_any (n : Int) (w : World) : Calls Try.prog 27 #[.int .i64 n] w fun e w' => e = .returned (.bool (nodeB n)) ∧ w' = w := by
  by_cases h : 1 ≤ n
  · have hd : decide (1 ≤ n) = true := decide_eq_true h
    unfold nodeB; rw [hd, Bool.true_and]
    go_enter Try.func27, Try.ntmps27
    go_wp2
    go_ret
    exact ⟨rfl, rfl⟩
  · have hd : decide (1 ≤ n) = false := decide_eq_false h
    unfold nodeB; rw [hd, Bool.false_and]
    go_enter Try.func27, Try.ntmps27
    go_wp2
    go_ret
    exact ⟨rfl, rfl⟩
theorem counts_any (n : Int) (w : World) : Calls Try.prog 28 #[.int .i64 n] w fun e w' => e = .returned (.bool (cntB n)) ∧ w' = w := by
  by_cases h : 1 ≤ n
  · have hd : decide (1 ≤ n) = true := decide_eq_true h
    unfold cntB; rw [hd, Bool.true_and]
    go_enter Try.func28, Try.ntmps28
    go_wp2
    go_ret
    exact ⟨rfl, rfl⟩
  · have hd : decide (1 ≤ n) = false := decide_eq_false h
    unfold cntB; rw [hd, Bool.false_and]
    go_enter Try.func28, Try.ntmps28
    go_wp2
    go_ret
    exact ⟨rfl, rfl⟩
theorem isSeq_any (n : Int) (w : World) : Calls Try.prog 29 #[.int .i64 n] w fun e w' => e = .returned (.bool (seqB n)) ∧ w' = w := by
  by_cases h : 0 ≤ n
  · have hd : decide (0 ≤ n) = true := decide_eq_true h
    unfold seqB; rw [hd, Bool.true_and]
    go_enter Try.func29, Try.ntmps29
    go_wp2
    go_ret
    exact ⟨rfl, rfl⟩
  · have hd : decide (0 ≤ n) = false := decide_eq_false h
    unfold seqB; rw [hd, Bool.false_and]
    go_enter Try.func29, Try.ntmps29
    go_wp2
    go_ret
    exact ⟨rfl, rfl⟩
end Go.Proofs.Ytiokcepaamlphab
