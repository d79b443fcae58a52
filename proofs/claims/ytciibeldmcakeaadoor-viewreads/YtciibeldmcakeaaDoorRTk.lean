/- The reference's take: an item of a kind at the front of bytes; quic.Row. -/
import Derived.Test.YtciibeldmcakeaaDoorRT
import Derived.Test.YtciibeldmcakeaaDoorT3
import Derived.Deep.RegionLaw
import Derived.RegionTactic
namespace Go.Proofs.YtciibeldmcakeaaDoor.Q
open Go.RowKit

set_option maxRecDepth 100000 in
set_option maxHeartbeats 2000000 in
theorem refTake_4 (s : ByteArray) (w : World) (hs : s.size ≤ 140737488355328) :
    Calls Tryd.prog 32 #[.string s, .int .i64 4] w fun e w' => e = .returned (.agg #[.int .i64 0, .string (ttS s), .string (ttR s), .int .i64 (ttE s)]) ∧ Below w.heap.size w w' := by
  go_enter Tryd.func32, Tryd.ntmps32
  go_wp2_with fail
  refine (refText_any _ _ hs).mono ?_
  rintro e w1 ⟨rfl, hb1⟩
  obtain ⟨hc, hf, hbl, hz⟩ := part_cells0 hb1
  clear hb1
  go_wp2
  refine bodyPost_ret (v := .agg #[.int .i64 0, .string (ttS s), .string (ttR s), .int .i64 (ttE s)]) (by simp [results, Tryd.results32, go_sem, hc]) rfl ⟨rfl, ?_⟩
  repeat (first | exact hbl | refine Below.setCell ?_ (by exact Nat.le_refl _) _)

set_option maxRecDepth 100000 in
set_option maxHeartbeats 2000000 in
theorem refTake_1 (s : ByteArray) (w : World) (hs : s.size ≤ 140737488355328) :
    Calls Tryd.prog 32 #[.string s, .int .i64 1] w fun e w' => e = .returned (.agg #[.int .i64 (getV s), .string ⟨#[]⟩, .string (getRest s), .int .i64 (getE s)]) ∧ Below w.heap.size w w' := by
  go_enter Tryd.func32, Tryd.ntmps32
  go_wp2_with fail
  refine (refGet_any _ _ hs).mono ?_
  rintro e w1 ⟨rfl, hb1⟩
  obtain ⟨hc, hf, hbl, hz⟩ := part_cells0 hb1
  clear hb1
  go_wp2
  refine bodyPost_ret (v := .agg #[.int .i64 (getV s), .string ⟨#[]⟩, .string (getRest s), .int .i64 (getE s)]) (by simp [results, Tryd.results32, go_sem, hc, hz]) rfl ⟨rfl, ?_⟩
  repeat (first | exact hbl | refine Below.setCell ?_ (by exact Nat.le_refl _) _ | refine Below.alloc ?_ (by simp; omega) _)

set_option maxRecDepth 100000 in
set_option maxHeartbeats 2000000 in
theorem refTake_2 (s : ByteArray) (w : World) (hs : s.size ≤ 140737488355328) :
    Calls Tryd.prog 32 #[.string s, .int .i64 2] w fun e w' => e = .returned (.agg #[.int .i64 (wof (getV s)), .string ⟨#[]⟩, .string (getRest s), .int .i64 (getE s)]) ∧ Below w.heap.size w w' := by
  have hv := getV_nn s
  obtain ⟨hv0, hv1⟩ := hv
  by_cases hp : getV s % 2 = 1
  · have HW : Hid (wof (getV s) = -(getV s / 2) - 1) := by show _ = _; unfold wof; rw [if_neg (by omega)]
    have hp' : (getV s % 2 == 1) = true := by rw [hp]; rfl
    clear hp
    go_enter Tryd.func32, Tryd.ntmps32
    go_wp2_with fail
    refine (refGet_any _ _ hs).mono ?_
    rintro e w1 ⟨rfl, hb1⟩
    obtain ⟨hc, hf, hbl, hz⟩ := part_cells0 hb1
    clear hb1
    go_wp2
    refine bodyPost_ret (v := .agg #[.int .i64 (wof (getV s)), .string ⟨#[]⟩, .string (getRest s), .int .i64 (getE s)]) (by rw [HW.out]; simp [results, Tryd.results32, go_sem, hc, hz]) rfl ⟨rfl, ?_⟩
    repeat (first | exact hbl | refine Below.setCell ?_ (by exact Nat.le_refl _) _ | refine Below.alloc ?_ (by simp; omega) _)
  · have HW : Hid (wof (getV s) = getV s / 2) := by show _ = _; unfold wof; rw [if_pos (by omega)]
    have hp' : (getV s % 2 == 1) = false := by rw [beq_eq_false_iff_ne]; exact hp
    clear hp
    go_enter Tryd.func32, Tryd.ntmps32
    go_wp2_with fail
    refine (refGet_any _ _ hs).mono ?_
    rintro e w1 ⟨rfl, hb1⟩
    obtain ⟨hc, hf, hbl, hz⟩ := part_cells0 hb1
    clear hb1
    go_wp2
    refine bodyPost_ret (v := .agg #[.int .i64 (wof (getV s)), .string ⟨#[]⟩, .string (getRest s), .int .i64 (getE s)]) (by rw [HW.out]; simp [results, Tryd.results32, go_sem, hc, hz]) rfl ⟨rfl, ?_⟩
    repeat (first | exact hbl | refine Below.setCell ?_ (by exact Nat.le_refl _) _ | refine Below.alloc ?_ (by simp; omega) _)
set_option maxRecDepth 100000 in
set_option maxHeartbeats 2000000 in
theorem refTake_3 (s : ByteArray) (w : World) (hs : s.size ≤ 140737488355328) :
    Calls Tryd.prog 32 #[.string s, .int .i64 3] w fun e w' => e = .returned (.agg #[.int .i64 (tfV s), .string ⟨#[]⟩, .string (tfR s), .int .i64 (tfE s)]) ∧ Below w.heap.size w w' := by
  by_cases h0 : s.size = 0
  · have e1 : tfE s = 7 := by unfold tfE; rw [if_pos h0]
    have e2 : tfV s = 0 := by unfold tfV; rw [if_neg (by omega)]
    have e3 : tfR s = ⟨#[]⟩ := by unfold tfR; rw [if_neg (by omega)]
    rw [e1, e2, e3]
    have hne : s.toList.isEmpty = true := isEmpty_to s h0
    go_enter Tryd.func32, Tryd.ntmps32
    go_wp2
    refine bodyPost_ret (v := .agg #[.int .i64 0, .string ⟨#[]⟩, .string ⟨#[]⟩, .int .i64 7]) (by simp [results, Tryd.results32, go_sem]) rfl ⟨rfl, ?_⟩
    (repeat (first | exact Below.refl _ _ | refine Below.setCell ?_ (by exact Nat.le_refl _) _ | refine Below.alloc ?_ (Nat.le_refl _) _ | refine Below.drew ?_))
  have hne : s.toList.isEmpty = false := isEmpty_of s (by omega)
  have hlt : (0:Int) < s.size := by omega
  have hlt0 : 0 < s.size := by omega
  have hbt := bt_eq (s := s) (i := 0) hlt0
  by_cases h1 : 1 < bt s 0
  · have e1 : tfE s = 3 := by unfold tfE; rw [if_neg h0, if_pos h1]
    have e2 : tfV s = 0 := by unfold tfV; rw [if_neg (by omega)]
    have e3 : tfR s = ⟨#[]⟩ := by unfold tfR; rw [if_neg (by omega)]
    rw [e1, e2, e3]
    have h1' : (1 : Int) < ((s[0]'hlt0).toNat : Int) := by omega
    clear hbt
    go_enter Tryd.func32, Tryd.ntmps32
    go_wp2
    refine bodyPost_ret (v := .agg #[.int .i64 0, .string ⟨#[]⟩, .string ⟨#[]⟩, .int .i64 3]) (by simp [results, Tryd.results32, go_sem]) rfl ⟨rfl, ?_⟩
    (repeat (first | exact Below.refl _ _ | refine Below.setCell ?_ (by exact Nat.le_refl _) _ | refine Below.alloc ?_ (Nat.le_refl _) _ | refine Below.drew ?_))
  · have e1 : tfE s = 0 := by unfold tfE; rw [if_neg h0, if_neg h1]
    have e2 : tfV s = bt s 0 := by unfold tfV; rw [if_pos e1]
    have e3 : tfR s = s.extract 1 s.size := by unfold tfR; rw [if_pos e1]
    rw [e1, e2, e3, ← hbt]
    have h1' : ¬ (1 : Int) < ((s[0]'hlt0).toNat : Int) := by omega
    have hlt2 : (1 : Int) ≤ s.size := by omega
    clear hbt
    go_enter Tryd.func32, Tryd.ntmps32
    go_wp2
    go_region
    all_goals go_wp2
    all_goals refine bodyPost_ret (v := .agg #[.int .i64 ((s[0]'hlt0).toNat : Int), .string ⟨#[]⟩, .string (s.extract 1 s.size), .int .i64 0]) (by simp [results, Tryd.results32, go_sem]) rfl ⟨rfl, ?_⟩
    all_goals (repeat (first | exact Below.refl _ _ | refine Below.setCell ?_ (by exact Nat.le_refl _) _ | refine Below.alloc ?_ (Nat.le_refl _) _ | refine Below.drew ?_))

/-- The reference's take, of each kind. -/
theorem refTk_any (s : ByteArray) (k : Int) (w : World) (hs : s.size ≤ 140737488355328) (h1 : 1 ≤ k) (h4 : k ≤ 4) :
    Calls Tryd.prog 32 #[.string s, .int .i64 k] w fun e w' => e = .returned (.agg #[.int .i64 (tN s k), .string (tS s k), .string (tR s k), .int .i64 (tE s k)]) ∧ Below w.heap.size w w' := by
  obtain rfl | rfl | rfl | rfl : k = 1 ∨ k = 2 ∨ k = 3 ∨ k = 4 := by omega
  · exact refTake_1 s w hs
  · exact refTake_2 s w hs
  · exact refTake_3 s w hs
  · exact refTake_4 s w hs

/-- An append onto an owned row, as one step of a region that draws. -/
theorem step_append_own {P : Program} {ops : Array Oper} {o : Oper} {a : Act} {w : World} {K : Act → World → Prop} {Q : Exit → Act → World → Prop} {E : Prop}
    (hg : o.guard = none) (s x : Operand) (t e : TypeId) (ho : o.op = .call { callee := .builtin .append, args := #[s, x], argTypes := #[t, t] })
    (i : TypeInfo) (z : Value) (size bytes : Nat) (ht : P.underlying t = some (.slice e)) (hi : P.info? e = some i) (hz : i.zero = some z)
    (hsize : i.size = size) (hby : i.bytes = bytes) (hzs : z.cells.size = size) (hsz : 0 < size)
    (base : Nat) (v : Value) (n : Nat) (xs : List Value) (hs : a.eval s = v) (hown : w.ownsRow base e size v n xs)
    (ad : Addr) (es : List Value) (hes : es.length = size) (hx : a.eval x = .slice (some ad) 1 1) (hnews : ∀ j u, es[j]? = some u → w.cell? (ad.add j) = some u) (h1 : ∀ u ∈ es, u.oneCell' = true)
    (hbytes : (n + 1) * bytes ≤ 140737488355328) (h63 : n + 1 ≤ maxLen) (hbase : base ≤ w.heap.size)
    (hK : ∀ v' w', w'.ownsRow base e size v' (n + 1) (xs ++ es) → w.grownBy w' v.ownBlock → (∃ g c, v' = .slice (some g) (n + 1) c) → K (a.put o.dst v') w') :
    if Region.wanted o (yielded ops a.tmps) = true then Oper.wp P o a w K Q else E := by
  have hw : Region.wanted o (yielded ops a.tmps) = true := by simp [Region.wanted, hg]
  rw [if_pos hw]
  refine wp_append_own w s x t ho base e i z size bytes ht hi hz hsize hby hzs hsz v n xs hs hown ad 1 1 es hx (by omega) hnews h1 h63 hbytes hbase ?_
  intro v' w' h2 h3 h4
  refine hK v' w' h2 h3 ?_
  rcases h2.2 with ⟨_, h0⟩ | ⟨g, cap, cur, hv, _⟩
  · omega
  · exact ⟨_, _, hv⟩
end Go.Proofs.YtciibeldmcakeaaDoor.Q
