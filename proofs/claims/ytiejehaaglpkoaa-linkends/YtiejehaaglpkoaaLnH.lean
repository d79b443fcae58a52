/- link's arrive, handOn: walks. -/
import Derived.Test.YtiejehaaglpkoaaLnG
namespace Go.Proofs.Ytiejehaaglpkoaa
open Go.RowKit Go.ChangeMaps

def setE (L : Lk) (E : List (Int × ByteArray)) : Lk := ⟨L.x, L.q, L.b, L.o, L.wn, E⟩
/-- What came early, behind a text that comes. -/
def arrL (L : Lk) (sq : Int) (s : ByteArray) : Lk := if (L.wn ≤ sq ∧ sq < L.wn + 8) ∧ atE L.e sq = none then setE L (L.e ++ [(sq, s)]) else L
theorem LkOk.arr {L : Lk} (h : LkOk L) (sq : Int) (s : ByteArray) : LkOk (arrL L sq s) := by
  unfold arrL
  split
  · exact ⟨h.b0, h.b1, h.o8, h.oq, h.q64, h.w0, h.w1⟩
  · exact h
theorem LinkV.putE {base : Nat} {w w1 : World} {g m : Nat} {vq : Value} {L : Lk} (h : LinkV base w g m vq L) (hg : w.grownBy w1 (some m)) {E : List (Int × ByteArray)} (hm : MapE w1 m E) : LinkV base w1 g m vq (setE L E) ∧ Stp w (LF g m vq) (LF g m vq) w1 := by
  obtain ⟨hgs, hms, -⟩ := h.size
  refine ⟨⟨h.lo, h.lm, (hg.block g hgs (fun e => h.gm (Option.some.inj e))).trans h.blk, hm, row_keep h.own fun k e => hg.block k (h.own.lt k e).2 (fun e2 => h.nm (by rw [e, e2])), h.ng, h.nm⟩, Stp.grown hg fun k e => .inr (.inl (Option.some.inj e).symm)⟩
theorem run_put_none {a : Act} (v : Value) : a.put none v = a := rfl
theorem wpl_put {ops : Array Oper} {rest : List Oper} {o : Oper} {a : Act} {Q : Exit → Act → World → Prop} (w : World) (hg : o.guard = none) (m x v : Operand) (hop : o.op = Op.mapUpdate 78 m x v) (b : Nat) (E : List (Int × ByteArray)) (k : Int) (s : ByteArray)
    (hm : a.eval m = .map (some b)) (hx : a.eval x = .int .i64 k) (hv : a.eval v = .agg #[.string s]) (hE : MapE w b E) (hn : atE E k = none)
    (hK : ∀ w', MapE w' b (E ++ [(k, s)]) → w.grownBy w' (some b) → wpList Try.prog ops Q rest (a.put o.dst undef) w') : wpList Try.prog ops Q (o :: rest) a w := by
  refine wpList_plain hg fun K' hK' => ?_
  obtain ⟨w', hrun, r1, r2⟩ := hE.put k s hn
  unfold Oper.wp
  simp [execOp, hop, hm, hx, hv, hrun, Result.andThen]
  exact hK' _ _ (hK w' r1 r2)
set_option maxRecDepth 100000 in
set_option maxHeartbeats 4000000 in
theorem arriveL_any {base : Nat} {w : World} {g m : Nat} {vq : Value} {L : Lk} (h : LinkV base w g m vq L) (hok : LkOk L) (sq : Int) (s : ByteArray) :
    Calls Try.prog 39 #[lP g, .int .i64 sq, .string s] w fun e w' => e = .returned (.tuple #[]) ∧ LinkV base w' g m vq (arrL L sq s) ∧ Stp w (LF g m vq) (LF g m vq) w' := by
  obtain ⟨-, -, -, -, c8, c9, fz⟩ := h.cells
  have w0 := hok.w0
  have w1 := hok.w1
  have wz : IntKind.i64.wrap (L.wn + 8) = L.wn + 8 := wrapI (by omega) (by omega)
  have HV : Hid (LinkV base w g m vq L) := h
  clear hok
  by_cases h1 : L.wn ≤ sq
  · have d1 : decide (sq < L.wn) = false := by simp; omega
    by_cases h2 : sq < L.wn + 8
    · have d2 : decide (L.wn + 8 ≤ sq) = false := by simp; omega
      have hlk := h.mp.look sq
      have HL : Hid (∀ o, LinkV base (w.alloc o) g m vq L) := fun o => HV.out.below (al_b w o)
      cases h3 : atE L.e sq with
      | some t =>
        have e0 : arrL L sq s = L := by unfold arrL; rw [if_neg (fun q => by rw [h3] at q; cases q.2)]
        rw [e0]
        rw [h3] at hlk
        dsimp only [Option.getD_some, Option.isSome_some] at hlk
        have HE : Hid (∀ o, LinkV base (w.alloc o) g m vq L ∧ Stp w (LF g m vq) (LF g m vq) (w.alloc o)) := fun o => ⟨HL.out o, Stp.of _ (al_b w o)⟩
        clear e0 h1 h2 h h3 HL HV
        go_enter Try.func39, Try.ntmps39
        go_wp2
        refine bodyPost_end (results_none rfl _ _ _) rfl ⟨rfl, HE.out _⟩
      | none =>
        have e0 : arrL L sq s = setE L (L.e ++ [(sq, s)]) := by unfold arrL; rw [if_pos ⟨⟨h1, h2⟩, h3⟩]
        rw [e0]
        have HN : Hid (atE L.e sq = none) := h3
        rw [h3] at hlk
        dsimp only [Option.getD_none, Option.isSome_none] at hlk
        have HME : Hid (∀ o, MapE (w.alloc o) m L.e) := fun o => (HL.out o).mp
        have c92 := (HL.out (.cells #[.string ⟨#[]⟩] 112)).cells.2.2.2.2.2.1
        clear e0 h1 h2 h h3
        go_enter Try.func39, Try.ntmps39
        go_wp2_with (at_mapUpdate; go_loud (refine wpl_put _ rfl _ _ _ rfl m L.e sq s rfl rfl rfl (HME.out _) HN.out ?_); intro w4 hm4 hg4)
        have HE : Hid (LinkV base w4 g m vq (setE L (L.e ++ [(sq, s)])) ∧ Stp w (LF g m vq) (LF g m vq) w4) := by
          have := (HL.out _).putE hg4 hm4
          exact ⟨this.1, (Stp.of _ (al_b w _)).trans this.2⟩
        clear hg4 hm4
        go_wp2
        refine bodyPost_end (results_none rfl _ _ _) rfl ⟨rfl, HE.out⟩
    · have d2 : decide (L.wn + 8 ≤ sq) = true := by simp; omega
      have e0 : arrL L sq s = L := by unfold arrL; rw [if_neg (fun q => h2 q.1.2)]
      rw [e0]
      have HE : Hid (LinkV base w g m vq L ∧ Stp w (LF g m vq) (LF g m vq) w) := ⟨h, Stp.of _ (Below.refl _ _)⟩
      clear e0 h1 h2 h
      go_enter Try.func39, Try.ntmps39
      go_wp2
      first | refine bodyPost_ret (results_none rfl _ _ _) rfl ⟨rfl, HE.out⟩ | refine bodyPost_end (results_none rfl _ _ _) rfl ⟨rfl, HE.out⟩
  · have d1 : decide (sq < L.wn) = true := by simp; omega
    have e0 : arrL L sq s = L := by unfold arrL; rw [if_neg (fun q => h1 q.1.1)]
    rw [e0]
    have HE : Hid (LinkV base w g m vq L ∧ Stp w (LF g m vq) (LF g m vq) w) := ⟨h, Stp.of _ (Below.refl _ _)⟩
    clear e0 h1 h
    go_enter Try.func39, Try.ntmps39
    go_wp2
    first | refine bodyPost_ret (results_none rfl _ _ _) rfl ⟨rfl, HE.out⟩ | refine bodyPost_end (results_none rfl _ _ _) rfl ⟨rfl, HE.out⟩
/-- What is handed on, and what is left: so many rounds at most. -/
def hnd : Nat → Lk → List ByteArray × Lk
  | 0, L => ([], L)
  | n + 1, L => if L.wn < 1099511627775 then (match atE L.e L.wn with
    | some s => (s :: (hnd n ⟨L.x, L.q, L.b, L.o, L.wn + 1, dropE L.e L.wn⟩).1, (hnd n ⟨L.x, L.q, L.b, L.o, L.wn + 1, dropE L.e L.wn⟩).2)
    | none => ([], L)) else ([], L)
theorem dropE_len {E : List (Int × ByteArray)} {k : Int} {s : ByteArray} (h : atE E k = some s) : (dropE E k).length + 1 = E.length := by
  unfold atE at h
  obtain ⟨p, hp, -⟩ := Option.map_eq_some_iff.1 h
  have hm := List.mem_of_find?_eq_some hp
  have hq := List.find?_some hp
  have := List.length_eraseP_of_mem (p := fun p : Int × ByteArray => p.1 == k) hm hq
  have h0 : 0 < E.length := List.length_pos_of_mem hm
  unfold dropE
  omega
theorem hnd_stop {L : Lk} (h : ¬ L.wn < 1099511627775 ∨ atE L.e L.wn = none) : ∀ n, hnd n L = ([], L)
  | 0 => rfl
  | n + 1 => by
    unfold hnd
    rcases h with h | h
    · rw [if_neg h]
    · rw [h]; simp
theorem hnd_go {L : Lk} {s : ByteArray} (h1 : L.wn < 1099511627775) (h2 : atE L.e L.wn = some s) (n : Nat) : hnd (n + 1) L = (s :: (hnd n ⟨L.x, L.q, L.b, L.o, L.wn + 1, dropE L.e L.wn⟩).1, (hnd n ⟨L.x, L.q, L.b, L.o, L.wn + 1, dropE L.e L.wn⟩).2) := by
  rw [hnd, if_pos h1, h2]
theorem atE_some_len {E : List (Int × ByteArray)} {k : Int} {s : ByteArray} (h : atE E k = some s) : 0 < E.length := by have := dropE_len h; omega
theorem hnd_len : ∀ (n : Nat) (L : Lk), (hnd n L).1.length ≤ n
  | 0, L => Nat.zero_le _
  | n + 1, L => by
    by_cases h : L.wn < 1099511627775
    · cases h2 : atE L.e L.wn with
      | none => rw [hnd_stop (.inr h2)]; exact Nat.zero_le _
      | some s => rw [hnd_go h h2]; have := hnd_len n ⟨L.x, L.q, L.b, L.o, L.wn + 1, dropE L.e L.wn⟩; simpa using this
    · rw [hnd_stop (.inl h)]; exact Nat.zero_le _
end Go.Proofs.Ytiejehaaglpkoaa
