/- The net as it lies in memory: what is kept, what a store does. -/
import Derived.Test.YthbhgblgacoklaaHA
namespace Go.Proofs.Ythbhgblgacoklaa
open Go.RowKit

def up {α : Type} (F : Nat → α) (c : Nat) (x : α) : Nat → α := fun k => if k = c then x else F k
theorem up_same {α : Type} (F : Nat → α) (c : Nat) (x : α) : up F c x c = x := by simp [up]
theorem up_other {α : Type} (F : Nat → α) {c k : Nat} (x : α) (h : k ≠ c) : up F c x k = F k := by simp [up, h]
/-- The net that a pointer to block g means: the rows (at 16 times from where, and to where) and who is apart. -/
structure NetV (base : Nat) (w : World) (g : Nat) (V : Nat → Value) (R : Nat → List Pk) (A : Nat → Bool) : Prop where
  lo : base ≤ g
  blk : ∃ cur : Array Value, w.heap[g]? = some (.cells cur 69 (0, 0)) ∧ cur.size = 512 ∧ (∀ c, c < 256 → cur[c]? = some (V c)) ∧ (∀ c, c < 256 → cur[256 + c]? = some (.bool (A c)))
  own : ∀ c, c < 256 → OwnW w base (V c) (R c)
  ne : ∀ c, c < 256 → (V c).ownBlock ≠ some g
  sep : ∀ c d, c < 256 → d < 256 → c ≠ d → (V c).ownBlock = none ∨ (V c).ownBlock ≠ (V d).ownBlock
/-- The blocks of a net. -/
def Fp (g : Nat) (V : Nat → Value) (k : Nat) : Prop := k = g ∨ ∃ c, c < 256 ∧ (V c).ownBlock = some k
theorem NetV.lt {base : Nat} {w : World} {g : Nat} {V : Nat → Value} {R : Nat → List Pk} {A : Nat → Bool} (h : NetV base w g V R A) {k : Nat} (hk : Fp g V k) : base ≤ k ∧ k < w.heap.size := by
  rcases hk with rfl | ⟨c, hc, hk⟩
  · obtain ⟨cur, hb, _⟩ := h.blk
    exact ⟨h.lo, (Array.getElem?_eq_some_iff.1 hb).1⟩
  · exact (h.own c hc).lt k hk
theorem NetV.keep {base : Nat} {w w' : World} {g : Nat} {V : Nat → Value} {R : Nat → List Pk} {A : Nat → Bool} (h : NetV base w g V R A) (hk : ∀ k, Fp g V k → w'.heap[k]? = w.heap[k]?) : NetV base w' g V R A := by
  refine ⟨h.lo, ?_, fun c hc => (h.own c hc).keep fun k e => hk k (.inr ⟨c, hc, e⟩), h.ne, h.sep⟩
  obtain ⟨cur, hb, r⟩ := h.blk
  exact ⟨cur, (hk g (.inl rfl)).trans hb, r⟩
theorem NetV.below {base : Nat} {w w' : World} {g : Nat} {V : Nat → Value} {R : Nat → List Pk} {A : Nat → Bool} (h : NetV base w g V R A) (hb : Below w.heap.size w w') : NetV base w' g V R A :=
  h.keep fun k hk => hb.block k (h.lt hk).2
theorem NetV.cell {base : Nat} {w : World} {g : Nat} {V : Nat → Value} {R : Nat → List Pk} {A : Nat → Bool} (h : NetV base w g V R A) (c : Nat) (hc : c < 256) :
    w.cell? ⟨g, c, none⟩ = some (V c) ∧ w.cell? ⟨g, 256 + c, none⟩ = some (.bool (A c)) ∧ w.frozen? ⟨g, c, none⟩ = false ∧ w.frozen? ⟨g, 256 + c, none⟩ = false ∧ g < w.heap.size := by
  obtain ⟨cur, hb, _, h1, h2⟩ := h.blk
  exact ⟨by rw [cell_of_row w g c cur _ (0, 0) hb]; exact h1 c hc, by rw [cell_of_row w g (256 + c) cur _ (0, 0) hb]; exact h2 c hc, by simp [World.frozen?, hb], by simp [World.frozen?, hb], (Array.getElem?_eq_some_iff.1 hb).1⟩
/-- What a call on a net leaves: all but the net's blocks as it was; its blocks are old ones of its own, or new. -/
structure NStep (w : World) (g : Nat) (V V' : Nat → Value) (w' : World) : Prop where
  os : w'.os = w.os
  tape : w'.tape = w.tape
  output : w'.output = w.output
  size : w.heap.size ≤ w'.heap.size
  block : ∀ k, k < w.heap.size → ¬ Fp g V k → w'.heap[k]? = w.heap[k]?
  fp : ∀ k, Fp g V' k → Fp g V k ∨ w.heap.size ≤ k
theorem NStep.of {w w' : World} (g : Nat) (V : Nat → Value) (hb : Below w.heap.size w w') : NStep w g V V w' := ⟨hb.os, hb.tape, hb.output, hb.size, fun k hk _ => hb.block k hk, fun _ h => .inl h⟩
theorem NStep.trans {w w1 w2 : World} {g : Nat} {V V1 V2 : Nat → Value} (h : NStep w g V V1 w1) (k : NStep w1 g V1 V2 w2) : NStep w g V V2 w2 :=
  ⟨k.os.trans h.os, k.tape.trans h.tape, k.output.trans h.output, Nat.le_trans h.size k.size, fun i hi hn => (k.block i (Nat.lt_of_lt_of_le hi h.size) (fun hf => by
    rcases h.fp i hf with hf | hf
    · exact hn hf
    · omega)).trans (h.block i hi hn), fun i hf => by
    rcases k.fp i hf with hf | hf
    · exact h.fp i hf
    · exact .inr (Nat.le_trans h.size hf)⟩
theorem NStep.below {base : Nat} {w w' : World} {g : Nat} {V V' : Nat → Value} {R : Nat → List Pk} {A : Nat → Bool} (h : NStep w g V V' w') (hv : NetV base w g V R A) : Below base w w' :=
  ⟨h.os, h.tape, h.output, h.size, fun k hk => h.block k (Nat.lt_of_lt_of_le hk (Nat.le_trans hv.lo (Nat.le_of_lt (hv.cell 0 (by omega)).2.2.2.2))) fun hf => by have := (hv.lt hf).1; omega⟩
/-- Something that lies apart from the net stays. -/
theorem NStep.far {w w' : World} {g : Nat} {V V' : Nat → Value} (h : NStep w g V V' w') {k : Nat} (hk : k < w.heap.size) (hn : ¬ Fp g V k) : w'.heap[k]? = w.heap[k]? ∧ ¬ Fp g V' k := ⟨h.block k hk hn, fun hf => by
  rcases h.fp k hf with hf | hf
  · exact hn hf
  · omega⟩
theorem setCell_at (w : World) {g : Nat} (c : Nat) {cur : Array Value} {t : TypeId} (hb : w.heap[g]? = some (.cells cur t (0, 0))) (v : Value) :
    (w.setCell ⟨g, c, none⟩ v).heap[g]? = some (.cells (cur.setIfInBounds c v) t (0, 0)) ∧ (∀ k, k ≠ g → (w.setCell ⟨g, c, none⟩ v).heap[k]? = w.heap[k]?) := by
  rw [setCell_eq_setRow w g c cur t (0, 0) v hb]
  exact ⟨setRow_heap w g cur _ t _ hb, fun k hk => setRow_other w g k _ hk⟩
/-- A row is put into its place, be it appended to, shorter, or empty. -/
theorem net_put {base : Nat} {w w1 : World} {g : Nat} {V : Nat → Value} {R : Nat → List Pk} {A : Nat → Bool} (hv : NetV base w g V R A) {c : Nat} (hc : c < 256) (hg : w.grownBy w1 (V c).ownBlock) {v : Value} {l : List Pk} (ho : OwnW w1 base v l)
    (hat : v.ownBlock = (V c).ownBlock ∨ v.ownBlock = none ∨ ∃ k, v.ownBlock = some k ∧ w.heap.size ≤ k) :
    NetV base (w1.setCell ⟨g, c, none⟩ v) g (up V c v) (up R c l) A ∧ NStep w g V (up V c v) (w1.setCell ⟨g, c, none⟩ v) := by
  obtain ⟨cur, hb, hs, h1, h2⟩ := hv.blk
  have hgl := (hv.cell 0 (by omega)).2.2.2.2
  have hb1 : w1.heap[g]? = some (.cells cur 69 (0, 0)) := (hg.block g hgl (fun e => hv.ne c hc e.symm)).trans hb
  obtain ⟨s1, s2⟩ := setCell_at w1 c hb1 v
  have hvg : v.ownBlock ≠ some g := by
    intro e
    rcases hat with h | h | ⟨k, h, hk⟩
    · exact hv.ne c hc (h.symm.trans e)
    · rw [h] at e; cases e
    · rw [h] at e; cases e; omega
  have sepv : ∀ d, d < 256 → d ≠ c → v.ownBlock = none ∨ v.ownBlock ≠ (V d).ownBlock := by
    intro d hd hdc
    rcases hat with h | h | ⟨k, h, hk⟩
    · rw [h]; exact hv.sep c d hc hd (Ne.symm hdc)
    · exact .inl h
    · right; intro e
      have := (hv.own d hd).lt k (e.symm.trans h)
      omega
  refine ⟨⟨hv.lo, ⟨_, s1, by simpa using hs, fun d hd => ?_, fun d hd => ?_⟩, fun d hd => ?_, fun d hd => ?_, fun d e hd he hde => ?_⟩, ?_⟩
  · by_cases e : d = c
    · subst e; rw [up_same, Array.getElem?_setIfInBounds_self_of_lt (by omega)]
    · rw [up_other _ _ e, Array.getElem?_setIfInBounds_ne (Ne.symm e)]; exact h1 d hd
  · rw [Array.getElem?_setIfInBounds_ne (by omega)]; exact h2 d hd
  · by_cases e : d = c
    · subst e; rw [up_same, up_same]
      exact ho.keep fun k hk => s2 k fun e => hvg (by rw [hk, e])
    · rw [up_other _ _ e, up_other _ _ e]
      refine (hv.own d hd).keep fun k hk => ?_
      rw [s2 k fun e => hv.ne d hd (by rw [hk, e])]
      refine hg.block k ((hv.own d hd).lt k hk).2 fun e2 => ?_
      rcases hv.sep d c hd hc e with h | h
      · rw [h] at hk; cases hk
      · exact h (hk.trans e2)
  · by_cases e : d = c
    · subst e; rw [up_same]; exact hvg
    · rw [up_other _ _ e]; exact hv.ne d hd
  · by_cases e1 : d = c
    · subst e1
      rw [up_same, up_other _ _ (Ne.symm hde)]
      exact sepv e he (Ne.symm hde)
    · rw [up_other _ _ e1]
      by_cases e2 : e = c
      · subst e2
        rw [up_same]
        rcases sepv d hd e1 with h | h
        · by_cases h0 : (V d).ownBlock = none
          · exact .inl h0
          · right; rw [h]; exact h0
        · exact .inr (Ne.symm h)
      · rw [up_other _ _ e2]; exact hv.sep d e hd he hde
  · have z : (w1.setCell ⟨g, c, none⟩ v).heap.size = w1.heap.size := by rw [setCell_eq_setRow w1 g c cur _ (0, 0) v hb1]; simp
    refine ⟨hg.os, hg.tape, hg.output, by rw [z]; exact hg.size, fun k hk hn => ?_, fun k hf => ?_⟩
    · rw [s2 k fun e => hn (.inl e)]
      exact hg.block k hk fun e => hn (.inr ⟨c, hc, e.symm⟩)
    · rcases hf with rfl | ⟨d, hd, hk⟩
      · exact .inl (.inl rfl)
      · by_cases e : d = c
        · subst e
          rw [up_same] at hk
          rcases hat with h | h | ⟨k', h, hk'⟩
          · exact .inl (.inr ⟨d, hd, h.symm.trans hk⟩)
          · rw [h] at hk; cases hk
          · rw [h] at hk; cases hk; exact .inr hk'
        · rw [up_other _ _ e] at hk; exact .inl (.inr ⟨d, hd, hk⟩)
theorem grown_refl (w : World) (r : Option Nat) : w.grownBy w r := ⟨rfl, rfl, rfl, Nat.le_refl _, fun _ _ _ => rfl⟩
/-- Two nodes are apart, or not: one way. -/
theorem net_cut {base : Nat} {w : World} {g : Nat} {V : Nat → Value} {R : Nat → List Pk} {A : Nat → Bool} (hv : NetV base w g V R A) {c : Nat} (hc : c < 256) (b : Bool) :
    NetV base (w.setCell ⟨g, 256 + c, none⟩ (.bool b)) g V R (up A c b) ∧ NStep w g V V (w.setCell ⟨g, 256 + c, none⟩ (.bool b)) := by
  obtain ⟨cur, hb, hs, h1, h2⟩ := hv.blk
  obtain ⟨s1, s2⟩ := setCell_at w (256 + c) hb (.bool b)
  refine ⟨⟨hv.lo, ⟨_, s1, by simpa using hs, fun d hd => ?_, fun d hd => ?_⟩, fun d hd => ?_, hv.ne, hv.sep⟩, ?_⟩
  · rw [Array.getElem?_setIfInBounds_ne (by omega)]; exact h1 d hd
  · by_cases e : d = c
    · subst e; rw [up_same, Array.getElem?_setIfInBounds_self_of_lt (by omega)]
    · rw [up_other _ _ e, Array.getElem?_setIfInBounds_ne (by omega)]; exact h2 d hd
  · exact (hv.own d hd).keep fun k hk => s2 k fun e => hv.ne d hd (by rw [hk, e])
  · have z : (w.setCell ⟨g, 256 + c, none⟩ (.bool b)).heap.size = w.heap.size := by rw [setCell_eq_setRow w g (256 + c) cur _ (0, 0) _ hb]; simp
    exact ⟨rfl, rfl, rfl, by rw [z]; exact Nat.le_refl _, fun k hk hn => s2 k fun e => hn (.inl e), fun k hf => .inl hf⟩
/-- Is it a node? -/
def nodeB (n : Int) : Bool := decide (1 ≤ n) && decide (n ≤ 15)
def hopB (f t : Int) : Bool := nodeB f && (nodeB t && !decide (f = t))
def cntB (n : Int) : Bool := decide (1 ≤ n) && decide (n ≤ 1099511627775)
def seqB (n : Int) : Bool := decide (0 ≤ n) && decide (n ≤ 1099511627775)
/-- May a packet be? -/
def chkP (p : Pk) : Bool := nodeB p.f && (nodeB p.t && (!decide (p.f = p.t) && (cntB p.fl && (cntB p.tl && (seqB p.sq && (seqB p.ak && (decide (p.x.size ≤ 32768) && (decide (p.x.size = 0) || !decide (p.sq = 0)))))))))
theorem two_dec (a b : Prop) [Decidable a] [Decidable b] : (if decide a = true then Value.bool (decide b) else .bool false) = .bool (decide a && decide b) := by
  by_cases h : a <;> simp [h]
theorem isNode_any (n : Int) (w : World) : Calls Try.prog 40 #[.int .i64 n] w fun e w' => e = .returned (.bool (nodeB n)) ∧ w' = w := by
  by_cases h : 1 ≤ n
  · have hd : decide (1 ≤ n) = true := decide_eq_true h
    unfold nodeB; rw [hd, Bool.true_and]
    go_enter Try.func40, Try.ntmps40
    go_wp2
    go_ret
    exact ⟨rfl, rfl⟩
  · have hd : decide (1 ≤ n) = false := decide_eq_false h
    unfold nodeB; rw [hd, Bool.false_and]
    go_enter Try.func40, Try.ntmps40
    go_wp2
    go_ret
    exact ⟨rfl, rfl⟩
theorem wNode_any (n : Int) (w : World) : Calls Try.prog 44 #[.int .i64 n] w fun e w' => e = .returned (.bool (nodeB n)) ∧ w' = w := by
  by_cases h : 1 ≤ n
  · have hd : decide (1 ≤ n) = true := decide_eq_true h
    unfold nodeB; rw [hd, Bool.true_and]
    go_enter Try.func44, Try.ntmps44
    go_wp2
    go_ret
    exact ⟨rfl, rfl⟩
  · have hd : decide (1 ≤ n) = false := decide_eq_false h
    unfold nodeB; rw [hd, Bool.false_and]
    go_enter Try.func44, Try.ntmps44
    go_wp2
    go_ret
    exact ⟨rfl, rfl⟩
theorem counts_any (n : Int) (w : World) : Calls Try.prog 45 #[.int .i64 n] w fun e w' => e = .returned (.bool (cntB n)) ∧ w' = w := by
  by_cases h : 1 ≤ n
  · have hd : decide (1 ≤ n) = true := decide_eq_true h
    unfold cntB; rw [hd, Bool.true_and]
    go_enter Try.func45, Try.ntmps45
    go_wp2
    go_ret
    exact ⟨rfl, rfl⟩
  · have hd : decide (1 ≤ n) = false := decide_eq_false h
    unfold cntB; rw [hd, Bool.false_and]
    go_enter Try.func45, Try.ntmps45
    go_wp2
    go_ret
    exact ⟨rfl, rfl⟩
theorem isSeq_any (n : Int) (w : World) : Calls Try.prog 46 #[.int .i64 n] w fun e w' => e = .returned (.bool (seqB n)) ∧ w' = w := by
  by_cases h : 0 ≤ n
  · have hd : decide (0 ≤ n) = true := decide_eq_true h
    unfold seqB; rw [hd, Bool.true_and]
    go_enter Try.func46, Try.ntmps46
    go_wp2
    go_ret
    exact ⟨rfl, rfl⟩
  · have hd : decide (0 ≤ n) = false := decide_eq_false h
    unfold seqB; rw [hd, Bool.false_and]
    go_enter Try.func46, Try.ntmps46
    go_wp2
    go_ret
    exact ⟨rfl, rfl⟩
end Go.Proofs.Ythbhgblgacoklaa
