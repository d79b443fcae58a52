/- The net's Clear: its walk. -/
import Derived.Test.YthbhgblgacoklaaHL
namespace Go.Proofs.Ythbhgblgacoklaa
open Go.RowKit

theorem wpl_appE {P : Program} (wr : World) {ops : Array Oper} {rest : List Oper} {o : Oper} {a : Act} {Q : Exit → Act → World → Prop} (hgd : o.guard = none) (s x : Operand) (t e : TypeId)
    (ho : o.op = .call { callee := .builtin .append, args := #[s, x], argTypes := #[t, t] })
    (i : TypeInfo) (z : Value) (size bytes : Nat) (ht : P.underlying t = some (.slice e)) (hi : P.info? e = some i) (hz : i.zero = some z)
    (hsize : i.size = size) (hby : i.bytes = bytes) (hzs : z.cells.size = size) (hsz : 0 < size)
    (base : Nat) (v : Value) (n : Nat) (xs : List Value) (hs : a.eval s = v) (hown : wr.ownsRow base e size v n xs)
    (es : List Value) (hes : es.length = size) (C : Array Value) (hC : C = es.toArray) (hx : a.eval x = .slice (some ⟨wr.heap.size, 0, none⟩) 1 1) (h1 : ∀ u ∈ es, u.oneCell' = true)
    (hbytes : (n + 1) * bytes ≤ 140737488355328) (h63 : n + 1 ≤ maxLen) (hbase : base ≤ wr.heap.size)
    (h : ∀ v' w', w'.ownsRow base e size v' (n + 1) (xs ++ es) → Below base wr w' → wpList P ops Q rest (a.put o.dst v') w') :
    wpList P ops Q (o :: rest) a (wr.alloc (.cells C e)) := by
  subst hC
  refine wpList_append_own _ hgd s x t ho base e i z size bytes ht hi hz hsize hby hzs hsz v n xs hs (hown.alloc _) ⟨wr.heap.size, 0, none⟩ 1 1 es hx (by omega) ?_ h1 h63 hbytes ?_ ?_
  · intro j u hj
    have : (⟨wr.heap.size, 0, none⟩ : Addr).add j = ⟨wr.heap.size, j, none⟩ := by unfold Addr.add; split <;> simp_all
    rw [this]
    simp
    exact hj
  · simp; omega
  · intro v' w' h2 h3 _
    exact h v' w' h2 (((Below.refl _ _).alloc hbase _).grown h3 (by simp; omega) (fun k hk => (hown.lt k hk).1))
theorem own_belowE {w w1 : World} {base : Nat} {e : TypeId} {sz : Nat} {v : Value} {n : Nat} {xs : List Value} (h : w.ownsRow base e sz v n xs) (hb : Below w.heap.size w w1) : w1.ownsRow base e sz v n xs :=
  h.kept (row := none) ⟨hb.os, hb.tape, hb.output, hb.size, fun k hk _ => hb.block k hk⟩ (by cases hv : v.ownBlock <;> simp)
/-- Rows of what is no hop are empty. -/
def WFr (R : Nat → List Pk) : Prop := ∀ c, c < 256 → R c ≠ [] → hopB ((c / 16 : Nat) : Int) ((c % 16 : Nat) : Int) = true
theorem WFr.diag {R : Nat → List Pk} (h : WFr R) {n : Nat} (hn : n < 16) : R (n * 16 + n) = [] := by
  rcases Classical.em (R (n * 16 + n) = []) with e | e
  · exact e
  · have := h (n * 16 + n) (by omega) e
    rw [show (n * 16 + n) / 16 = n by omega, show (n * 16 + n) % 16 = n by omega] at this
    simp [hopB] at this
theorem cntN_up (R : Nat → List Pk) (c : Nat) (l : List Pk) : ∀ n, c < n → cntN (up R c l) n + (R c).length = cntN R n + l.length
  | 0, h => absurd h (by omega)
  | n + 1, h => by
    show cntN (up R c l) n + (up R c l n).length + _ = cntN R n + (R n).length + _
    by_cases e : n = c
    · subst e
      rw [up_same]
      have : cntN (up R n l) n = cntN R n := cntN_far R n l n (Nat.le_refl _)
      omega
    · rw [up_other _ _ e]
      have := cntN_up R c l n (by omega)
      omega
where cntN_far (R : Nat → List Pk) (c : Nat) (l : List Pk) : ∀ n, n ≤ c → cntN (up R c l) n = cntN R n
  | 0, _ => rfl
  | n + 1, h => by
    show cntN (up R c l) n + (up R c l n).length = cntN R n + (R n).length
    rw [cntN_far R c l n (by omega), up_other _ _ (by omega)]
/-- The rows behind the first steps of a node's clearing. -/
def clrK (R : Nat → List Pk) (n k : Nat) : Nat → List Pk := fun c => if (c / 16 = n ∧ c % 16 < k) ∨ (c % 16 = n ∧ c / 16 < k) then [] else R c
theorem clrK_zero (R : Nat → List Pk) (n : Nat) : clrK R n 0 = R := by funext c; simp [clrK]
theorem clrK_succ (R : Nat → List Pk) {n k : Nat} (hn : n < 16) (hk : k < 16) : clrK R n (k + 1) = up (up (clrK R n k) (n * 16 + k) []) (k * 16 + n) [] := by
  funext c
  simp only [up, clrK]
  by_cases h1 : c = k * 16 + n
  · rw [if_pos h1, if_pos (by right; omega)]
  · rw [if_neg h1]
    by_cases h2 : c = n * 16 + k
    · rw [if_pos h2, if_pos (by left; omega)]
    · rw [if_neg h2]
      by_cases h3 : (c / 16 = n ∧ c % 16 < k) ∨ (c % 16 = n ∧ c / 16 < k)
      · rw [if_pos h3, if_pos (by omega)]
      · rw [if_neg h3, if_neg (by omega)]
def ClrRel (base : Nat) (w : World) (g : Nat) (V : Nat → Value) (R : Nat → List Pk) (A : Nat → Bool) (n k gone : Nat) (wr : World) : Prop :=
  ∃ Vk, NetV base wr g Vk (clrK R n k) A ∧ NStep w g V Vk wr ∧ gone + cntN (clrK R n k) 256 = cntN R 256
theorem clr_step {base : Nat} {w wr : World} {g : Nat} {V Vk : Nat → Value} {R : Nat → List Pk} {A : Nat → Bool} {n k gone : Nat} (hW : WFr R) (hn : n < 16) (hk : k < 16) (hv : NetV base wr g Vk (clrK R n k) A) (hs : NStep w g V Vk wr) (hg : gone + cntN (clrK R n k) 256 = cntN R 256) :
    ClrRel base w g V R A n (k + 1) (gone + ((clrK R n k (n * 16 + k)).length + (clrK R n k (k * 16 + n)).length)) ((wr.setCell ⟨g, n * 16 + k, none⟩ (.slice none 0 0)).setCell ⟨g, k * 16 + n, none⟩ (.slice none 0 0)) := by
  obtain ⟨h1, s1⟩ := net_put hv (c := n * 16 + k) (by omega) (grown_refl wr _) (v := .slice none 0 0) (l := []) (.inl ⟨rfl, rfl⟩) (.inr (.inl rfl))
  obtain ⟨h2, s2⟩ := net_put h1 (c := k * 16 + n) (by omega) (grown_refl _ _) (v := .slice none 0 0) (l := []) (.inl ⟨rfl, rfl⟩) (.inr (.inl rfl))
  refine ⟨_, by rw [clrK_succ R hn hk]; exact h2, hs.trans (s1.trans s2), ?_⟩
  rw [clrK_succ R hn hk]
  have e1 := cntN_up (clrK R n k) (n * 16 + k) [] 256 (by omega)
  have e2 := cntN_up (up (clrK R n k) (n * 16 + k) []) (k * 16 + n) [] 256 (by omega)
  by_cases e : k = n
  · subst e
    have hd : clrK R k k (k * 16 + k) = [] := by unfold clrK; split; rfl; exact hW.diag hn
    rw [up_same] at e2
    rw [hd] at e1 ⊢
    simp only [List.length_nil] at *
    omega
  · rw [up_other _ _ (by omega)] at e2
    simp only [List.length_nil] at *
    omega
set_option maxRecDepth 100000 in
set_option maxHeartbeats 2000000 in
theorem clear_any {base : Nat} {w : World} {g : Nat} {V : Nat → Value} {R : Nat → List Pk} {A : Nat → Bool} (n : Nat) (hv : NetV base w g V R A) (hc : cntN R 256 ≤ 1000) (hW : WFr R) (hn : 1 ≤ n) (hn2 : n ≤ 15) :
    Calls Try.prog 22 #[nP g, .int .i64 (n : Int)] w fun e w' => ∃ gone : Nat, e = .returned (.int .i64 (gone : Int)) ∧ ClrRel base w g V R A n 16 gone w' := by
  have hnode : nodeB (n : Int) = true := by simp [nodeB]; omega
  have HI : Hid (∀ n w, Calls Try.prog 40 #[.int .i64 n] w fun e w' => e = .returned (.bool (nodeB n)) ∧ w' = w) := isNode_any
  have HV : Hid (NetV base w g V R A) := hv
  have q1 : (0 : Int) ≤ (n : Int) := by omega
  have q2 : (n : Int) < 16 := by omega
  clear hv
  go_enter Try.func22, Try.ntmps22
  go_wp2_with fail
  refine (HI.out _ _).mono ?_
  rintro e w1 ⟨rfl, rfl⟩
  rw [hnode]
  rename World => w0
  go_wp2_with fail
  go_loopw [4, 13] (fun r i wr => ∃ k gone : Nat, k ≤ 16 ∧ i = .int .i64 (k : Int) ∧ r = .int .i64 (gone : Int) ∧ Hid (ClrRel base w0 g V R A n k gone wr)) (fun _ i _ => 16 - (intOf i).toNat)
  case atStart => exact ⟨0, 0, Nat.zero_le _, rfl, rfl, V, by rw [clrK_zero]; exact HV.out, NStep.of g V (Below.refl _ _), by rw [clrK_zero]; omega⟩
  case round =>
    obtain ⟨k, gone, hk, rfl, rfl, HR⟩ := hrel
    by_cases hlk : k < 16
    · have dk : decide ((k : Int) < 16) = true := by simp; omega
      have q3 : (0 : Int) ≤ (k : Int) := by omega
      have q4 : (k : Int) < 16 := by omega
      obtain ⟨Vk, hvk, hsk, hgk⟩ := HR.out
      have HN : Hid (∀ nq, ClrRel base w0 g V R A n (k + 1) (gone + ((clrK R n k (n * 16 + k)).length + (clrK R n k (k * 16 + n)).length)) ((((wr.drewN nq).setCell ⟨g, n * 16 + k, none⟩ (.slice none 0 0)).setCell ⟨g, k * 16 + n, none⟩ (.slice none 0 0)))) := fun nq => clr_step (wr := wr.drewN nq) hW (by omega) hlk (hvk.keep fun _ _ => rfl) ⟨hsk.os, hsk.tape, hsk.output, hsk.size, hsk.block, hsk.fp⟩ hgk
      obtain ⟨c1, -, f1, -, hg⟩ := hvk.cell (n * 16 + k) (by omega)
      obtain ⟨c2, -, f2, -, -⟩ := hvk.cell (k * 16 + n) (by omega)
      obtain ⟨a1, p1, e1⟩ := (hvk.own (n * 16 + k) (by omega)).form
      obtain ⟨a2, p2, e2⟩ := (hvk.own (k * 16 + n) (by omega)).form
      have l1 := hvk.bound (c := n * 16 + k) (by omega) (by omega)
      have l2 := hvk.bound (c := k * 16 + n) (by omega) (by omega)
      rw [e1] at c1
      rw [e2] at c2
      obtain ⟨cur, hcur, hcs, -⟩ := hvk.blk
      obtain ⟨u2, d2⟩ : ∃ u, (wr.setCell ⟨g, n * 16 + k, none⟩ (.slice none 0 0)).cell? ⟨g, k * 16 + n, none⟩ = some u := by
        obtain ⟨s1, -⟩ := setCell_at wr (n * 16 + k) hcur (.slice none 0 0)
        rw [cell_of_row _ g _ _ _ (0, 0) s1]
        exact ⟨_, Array.getElem?_eq_getElem (by simp; omega)⟩
      have d1 := (cell_set_near hcur (n * 16 + k) (.slice none 0 0)).1 (k * 16 + n)
      have hgl : gone ≤ 1000 := by omega
      clear hvk hsk hgk e1 e2 hcur HR
      have H12 : Hid (k = n → (clrK R n k (n * 16 + k)).length = (clrK R n k (k * 16 + n)).length) := fun e => by subst e; rfl
      generalize (clrK R n k (n * 16 + k)).length = m1 at *
      generalize (clrK R n k (k * 16 + n)).length = m2 at *
      have b1 : IntKind.i64.wrap ((m1 : Int) + (m2 : Int)) = (m1 : Int) + (m2 : Int) := by rw [IntKind.wrap_i64]; omega
      have b2 : IntKind.i64.wrap ((gone : Int) + ((m1 : Int) + (m2 : Int))) = (gone : Int) + ((m1 : Int) + (m2 : Int)) := by rw [IntKind.wrap_i64]; omega
      by_cases e : k = n
      · have hm := H12.out e
        subst hm
        subst e
        go_wp2_with fail
        go_quiet (fail)
        go_wp2_with fail
        go_region_held3 (fun _ => True) (trivial) (fail)
        go_wp2
        go_roundw
        case rel => exact ⟨k + 1, gone + (m1 + m1), by omega, by simp, by simp, HN.out _⟩
        case measure => simp [intOf]; omega
      · have hx : ¬ (k * 16 + n = n * 16 + k) := by omega
        have hx' : ¬ (n * 16 + k = k * 16 + n) := by omega
        go_wp2_with fail
        go_quiet (fail)
        go_wp2_with fail
        go_region_held3 (fun _ => True) (trivial) (fail)
        go_wp2
        go_roundw
        case rel => exact ⟨k + 1, gone + (m1 + m2), by omega, by simp, by simp, HN.out _⟩
        case measure => simp [intOf]; omega
    · have hk' : k = 16 := by omega
      subst hk'
      have dk : decide ((16 : Int) < 16) = false := by decide
      go_wp2
      go_ret
      exact ⟨_, rfl, HR.out⟩
end Go.Proofs.Ythbhgblgacoklaa
