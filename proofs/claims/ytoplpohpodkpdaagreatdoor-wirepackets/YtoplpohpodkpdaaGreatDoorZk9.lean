/- The reference's take: an item of a kind at the front of bytes; quic.Row. -/
import Derived.Test.YtoplpohpodkpdaaGreatDoorZk8
import Derived.Test.YtoplpohpodkpdaaGreatDoorZk6
import Derived.Deep.RegionLaw
import Derived.RegionTactic
import Derived.Deep.DeepCutAuto
import Derived.Deep.RegionWith
namespace Go.Proofs.YtoplpohpodkpdaaGreatDoor.Q
open Go.RowKit

set_option maxRecDepth 100000 in
set_option maxHeartbeats 2000000 in
theorem refTake_4 (s : ByteArray) (w : World) (hs : s.size ≤ 140737488355328) :
    Calls Tryz.prog 26 #[.string s, .int .i64 4] w fun e w' => e = .returned (.agg #[.int .i64 0, .string (ttS s), .string (ttR s), .int .i64 (ttE s)]) ∧ Below w.heap.size w w' := by
  go_enter Tryz.func26, Tryz.ntmps26
  go_wp2_with fail
  refine (refText_any _ _ hs).mono ?_
  rintro e w1 ⟨rfl, hb1⟩
  obtain ⟨hc, hf, hbl, hz⟩ := part_cells0 hb1
  clear hb1
  go_wp2
  refine bodyPost_ret (v := .agg #[.int .i64 0, .string (ttS s), .string (ttR s), .int .i64 (ttE s)]) (by simp [results, Tryz.results26, go_sem, hc]) rfl ⟨rfl, ?_⟩
  repeat (first | exact hbl | refine Below.setCell ?_ (by exact Nat.le_refl _) _)

set_option maxRecDepth 100000 in
set_option maxHeartbeats 2000000 in
theorem refTake_1 (s : ByteArray) (w : World) (hs : s.size ≤ 140737488355328) :
    Calls Tryz.prog 26 #[.string s, .int .i64 1] w fun e w' => e = .returned (.agg #[.int .i64 (getV s), .string ⟨#[]⟩, .string (getRest s), .int .i64 (getE s)]) ∧ Below w.heap.size w w' := by
  go_enter Tryz.func26, Tryz.ntmps26
  go_wp2_with fail
  refine (refGet_any _ _ hs).mono ?_
  rintro e w1 ⟨rfl, hb1⟩
  obtain ⟨hc, hf, hbl, hz⟩ := part_cells0 hb1
  clear hb1
  go_wp2
  refine bodyPost_ret (v := .agg #[.int .i64 (getV s), .string ⟨#[]⟩, .string (getRest s), .int .i64 (getE s)]) (by simp [results, Tryz.results26, go_sem, hc, hz]) rfl ⟨rfl, ?_⟩
  repeat (first | exact hbl | refine Below.setCell ?_ (by exact Nat.le_refl _) _ | refine Below.alloc ?_ (by simp; omega) _)

set_option maxRecDepth 100000 in
set_option maxHeartbeats 2000000 in
theorem refTake_2 (s : ByteArray) (w : World) (hs : s.size ≤ 140737488355328) :
    Calls Tryz.prog 26 #[.string s, .int .i64 2] w fun e w' => e = .returned (.agg #[.int .i64 (wof (getV s)), .string ⟨#[]⟩, .string (getRest s), .int .i64 (getE s)]) ∧ Below w.heap.size w w' := by
  have hv := getV_nn s
  obtain ⟨hv0, hv1⟩ := hv
  by_cases hp : getV s % 2 = 1
  · have HW : Hid (wof (getV s) = -(getV s / 2) - 1) := by show _ = _; unfold wof; rw [if_neg (by omega)]
    have hp' : (getV s % 2 == 1) = true := by rw [hp]; rfl
    clear hp
    go_enter Tryz.func26, Tryz.ntmps26
    go_wp2_with fail
    refine (refGet_any _ _ hs).mono ?_
    rintro e w1 ⟨rfl, hb1⟩
    obtain ⟨hc, hf, hbl, hz⟩ := part_cells0 hb1
    clear hb1
    go_wp2
    refine bodyPost_ret (v := .agg #[.int .i64 (wof (getV s)), .string ⟨#[]⟩, .string (getRest s), .int .i64 (getE s)]) (by rw [HW.out]; simp [results, Tryz.results26, go_sem, hc, hz]) rfl ⟨rfl, ?_⟩
    repeat (first | exact hbl | refine Below.setCell ?_ (by exact Nat.le_refl _) _ | refine Below.alloc ?_ (by simp; omega) _)
  · have HW : Hid (wof (getV s) = getV s / 2) := by show _ = _; unfold wof; rw [if_pos (by omega)]
    have hp' : (getV s % 2 == 1) = false := by rw [beq_eq_false_iff_ne]; exact hp
    clear hp
    go_enter Tryz.func26, Tryz.ntmps26
    go_wp2_with fail
    refine (refGet_any _ _ hs).mono ?_
    rintro e w1 ⟨rfl, hb1⟩
    obtain ⟨hc, hf, hbl, hz⟩ := part_cells0 hb1
    clear hb1
    go_wp2
    refine bodyPost_ret (v := .agg #[.int .i64 (wof (getV s)), .string ⟨#[]⟩, .string (getRest s), .int .i64 (getE s)]) (by rw [HW.out]; simp [results, Tryz.results26, go_sem, hc, hz]) rfl ⟨rfl, ?_⟩
    repeat (first | exact hbl | refine Below.setCell ?_ (by exact Nat.le_refl _) _ | refine Below.alloc ?_ (by simp; omega) _)
set_option maxRecDepth 100000 in
set_option maxHeartbeats 2000000 in
theorem refTake_3 (s : ByteArray) (w : World) (hs : s.size ≤ 140737488355328) :
    Calls Tryz.prog 26 #[.string s, .int .i64 3] w fun e w' => e = .returned (.agg #[.int .i64 (tfV s), .string ⟨#[]⟩, .string (tfR s), .int .i64 (tfE s)]) ∧ Below w.heap.size w w' := by
  by_cases h0 : s.size = 0
  · have e1 : tfE s = 7 := by unfold tfE; rw [if_pos h0]
    have e2 : tfV s = 0 := by unfold tfV; rw [if_neg (by omega)]
    have e3 : tfR s = ⟨#[]⟩ := by unfold tfR; rw [if_neg (by omega)]
    rw [e1, e2, e3]
    have hne : s.toList.isEmpty = true := isEmpty_to s h0
    go_enter Tryz.func26, Tryz.ntmps26
    go_wp2
    refine bodyPost_ret (v := .agg #[.int .i64 0, .string ⟨#[]⟩, .string ⟨#[]⟩, .int .i64 7]) (by simp [results, Tryz.results26, go_sem]) rfl ⟨rfl, ?_⟩
    (repeat (first | exact Below.refl _ _ | refine Below.setCell ?_ (by exact Nat.le_refl _) _ | refine Below.alloc ?_ (Nat.le_refl _) _ | refine Below.drew ?_))
  have hne : s.toList.isEmpty = false := isEmpty_of s (by omega)
  have hlt : (0:Int) < s.size := by omega
  have hlt0 : 0 < s.size := by omega
  have hbt := bt_eq (s := s) (i := 0) hlt0
  by_cases h1 : 1 < bt s 0
  · have e1 : tfE s = 3 := by unfold tfE; rw [if_neg h0, if_pos h1]
    have e2 : tfV s = 0 := by unfold tfV; rw [if_neg (by omega)]
    have e3 : tfR s = ⟨#[]⟩ := by unfold tfR; rw [if_neg (by omega)]
    rw [e1, e2, e3]
    have h1' : (1 : Int) < ((s[0]'hlt0).toNat : Int) := by omega
    clear hbt
    go_enter Tryz.func26, Tryz.ntmps26
    go_wp2
    refine bodyPost_ret (v := .agg #[.int .i64 0, .string ⟨#[]⟩, .string ⟨#[]⟩, .int .i64 3]) (by simp [results, Tryz.results26, go_sem]) rfl ⟨rfl, ?_⟩
    (repeat (first | exact Below.refl _ _ | refine Below.setCell ?_ (by exact Nat.le_refl _) _ | refine Below.alloc ?_ (Nat.le_refl _) _ | refine Below.drew ?_))
  · have e1 : tfE s = 0 := by unfold tfE; rw [if_neg h0, if_neg h1]
    have e2 : tfV s = bt s 0 := by unfold tfV; rw [if_pos e1]
    have e3 : tfR s = s.extract 1 s.size := by unfold tfR; rw [if_pos e1]
    rw [e1, e2, e3, ← hbt]
    have h1' : ¬ (1 : Int) < ((s[0]'hlt0).toNat : Int) := by omega
    have hlt2 : (1 : Int) ≤ s.size := by omega
    clear hbt
    go_enter Tryz.func26, Tryz.ntmps26
    go_wp2
    go_region
    all_goals go_wp2
    all_goals refine bodyPost_ret (v := .agg #[.int .i64 ((s[0]'hlt0).toNat : Int), .string ⟨#[]⟩, .string (s.extract 1 s.size), .int .i64 0]) (by simp [results, Tryz.results26, go_sem]) rfl ⟨rfl, ?_⟩
    all_goals (repeat (first | exact Below.refl _ _ | refine Below.setCell ?_ (by exact Nat.le_refl _) _ | refine Below.alloc ?_ (Nat.le_refl _) _ | refine Below.drew ?_))

/-- The reference's take, of each kind. -/
theorem refTk_any (s : ByteArray) (k : Int) (w : World) (hs : s.size ≤ 140737488355328) (h1 : 1 ≤ k) (h4 : k ≤ 4) :
    Calls Tryz.prog 26 #[.string s, .int .i64 k] w fun e w' => e = .returned (.agg #[.int .i64 (tN s k), .string (tS s k), .string (tR s k), .int .i64 (tE s k)]) ∧ Below w.heap.size w w' := by
  obtain rfl | rfl | rfl | rfl : k = 1 ∨ k = 2 ∨ k = 3 ∨ k = 4 := by omega
  · exact refTake_1 s w hs
  · exact refTake_2 s w hs
  · exact refTake_3 s w hs
  · exact refTake_4 s w hs

/-- An append onto an owned row, as one step of a region that draws. -/
theorem step_append_own {P : Program} {ops : Array Oper} {o : Oper} {a : Act} {w : World} {K : Act → World → Prop} {Q : Exit → Act → World → Prop} {E : Prop}
    (hg : o.guard = none) (s x : Operand) (t e : TypeId) (ho : o.op = .call { callee := .builtin .append, args := #[s, x], argTypes := #[t, t] })
    (i : TypeInfo) (z : Value) (size bytes : Nat) (ht : P.underlying t = some (.slice e)) (hi : P.info? e = some i) (hz : i.zero = some z)
    (hsize : i.size = size) (hby : i.bytes = bytes) (hzs : z.cells.size = size) (hsz : 0 < size)
    (base : Nat) (v : Value) (n : Nat) (xs : List Value) (hs : a.eval s = v) (hown : w.ownsRow base e size v n xs)
    (ad : Addr) (es : List Value) (hes : es.length = size) (hx : a.eval x = .slice (some ad) 1 1) (hnews : ∀ j u, es[j]? = some u → w.cell? (ad.add j) = some u) (h1 : ∀ u ∈ es, u.oneCell' = true)
    (hbytes : (n + 1) * bytes ≤ 140737488355328) (h63 : n + 1 ≤ maxLen) (hbase : base ≤ w.heap.size)
    (hK : ∀ v' w', w'.ownsRow base e size v' (n + 1) (xs ++ es) → w.grownBy w' v.ownBlock → (∃ g c, v' = .slice (some g) (n + 1) c) → K (a.put o.dst v') w') :
    if Region.wanted o (yielded ops a.tmps) = true then Oper.wp P o a w K Q else E := by
  have hw : Region.wanted o (yielded ops a.tmps) = true := by simp [Region.wanted, hg]
  rw [if_pos hw]
  refine wp_append_own w s x t ho base e i z size bytes ht hi hz hsize hby hzs hsz v n xs hs hown ad 1 1 es hx (by omega) hnews h1 h63 hbytes hbase ?_
  intro v' w' h2 h3 h4
  refine hK v' w' h2 h3 ?_
  rcases h2.2 with ⟨_, h0⟩ | ⟨g, cap, cur, hv, _⟩
  · omega
  · exact ⟨_, _, hv⟩
end Go.Proofs.YtoplpohpodkpdaaGreatDoor.Q
/- quic.List and quic.Unlist: their walks. -/
namespace Go.Proofs.YtoplpohpodkpdaaGreatDoor.Q
open Go.RowKit

/-- What is gathered of so many texts. -/
def ul : List ByteArray → ByteArray → Nat → List ByteArray × ByteArray × Int
  | acc, s, 0 => (acc, s, 0)
  | acc, s, n + 1 => if ttE s = 0 then ul (acc ++ [ttS s]) (ttR s) n else ([], ⟨#[]⟩, ttE s)
end Go.Proofs.YtoplpohpodkpdaaGreatDoor.Q
/- The reference's Unlist: its walk. -/
namespace Go.Proofs.YtoplpohpodkpdaaGreatDoor.Q
open Go.RowKit

theorem addr_ne {a b i j : Nat} (h : a ≠ b) : (⟨a, i, none⟩ : Addr) ≠ ⟨b, j, none⟩ := fun e => h (congrArg Addr.block e)
/-- A block's three cells, the first two set. -/
theorem set_two {w : World} {T : Nat} {x y z a b : Value} (c0 : w.cell? ⟨T, 0, none⟩ = some x) (c1 : w.cell? ⟨T, 1, none⟩ = some y) (c2 : w.cell? ⟨T, 2, none⟩ = some z) :
    ((w.setCell ⟨T, 0, none⟩ a).setCell ⟨T, 1, none⟩ b).cell? ⟨T, 0, none⟩ = some a ∧ ((w.setCell ⟨T, 0, none⟩ a).setCell ⟨T, 1, none⟩ b).cell? ⟨T, 1, none⟩ = some b ∧ ((w.setCell ⟨T, 0, none⟩ a).setCell ⟨T, 1, none⟩ b).cell? ⟨T, 2, none⟩ = some z := by
  have d1 : (w.setCell ⟨T, 0, none⟩ a).cell? ⟨T, 1, none⟩ = some y := by rw [World.cell?_setCell_other _ _ _ _ (by simp)]; exact c1
  refine ⟨?_, ?_, ?_⟩
  · rw [World.cell?_setCell_other _ _ _ _ (by simp)]; exact World.cell?_setCell_same _ _ _ c0
  · exact World.cell?_setCell_same _ _ _ d1
  · rw [World.cell?_setCell_other _ _ _ _ (by simp), World.cell?_setCell_other _ _ _ _ (by simp)]; exact c2

end Go.Proofs.YtoplpohpodkpdaaGreatDoor.Q
/- The reference's Take: its walk. -/
namespace Go.Proofs.YtoplpohpodkpdaaGreatDoor.Q
open Go.RowKit

theorem info_refItem : (Tryz.prog.info? 59).map (fun i => (i.zero, i.size, i.bytes)) = some (some (.agg #[.int .i64 0, .int .i64 0, .string ⟨#[]⟩]), 3, 32) := by kernel_rfl

theorem below_undrew {n : Nat} {w w1 : World} (h : Below n w.drew w1) : Below n w w1 := ((Below.refl n w).drew).trans h
theorem part_cells_d {w w1 : World} {C : Array Value} {t : TypeId} (hb : Below (w.alloc (.cells C t)).drew.heap.size (w.alloc (.cells C t)).drew w1) :
    (∀ j, w1.cell? ⟨w.heap.size, j, none⟩ = C[j]?) ∧ (∀ j, w1.frozen? ⟨w.heap.size, j, none⟩ = false) ∧ Below w.heap.size w w1 ∧ w.heap.size < w1.heap.size :=
  part_cells0 (below_undrew hb)

theorem set_four {w : World} {T : Nat} {a0 b0 c0 d0 a b c d : Value} (h : ∀ j, w.cell? ⟨T, j, none⟩ = #[a0, b0, c0, d0][j]?) (W : World) (hW : W = (((w.setCell ⟨T, 0, none⟩ a).setCell ⟨T, 1, none⟩ b).setCell ⟨T, 2, none⟩ c).setCell ⟨T, 3, none⟩ d) :
    W.cell? ⟨T, 0, none⟩ = some a ∧ W.cell? ⟨T, 1, none⟩ = some b ∧ W.cell? ⟨T, 2, none⟩ = some c ∧ W.cell? ⟨T, 3, none⟩ = some d := by
  subst hW
  have o : ∀ (w : World) (i j : Nat) (v : Value), i ≠ j → (w.setCell ⟨T, i, none⟩ v).cell? ⟨T, j, none⟩ = w.cell? ⟨T, j, none⟩ := fun w i j v hij => World.cell?_setCell_other _ _ _ _ (by simp only [ne_eq, Addr.mk.injEq]; omega)
  have h0 : w.cell? ⟨T, 0, none⟩ = some a0 := h 0
  have h1 : w.cell? ⟨T, 1, none⟩ = some b0 := h 1
  have h2 : w.cell? ⟨T, 2, none⟩ = some c0 := h 2
  have h3 : w.cell? ⟨T, 3, none⟩ = some d0 := h 3
  clear h
  have e0 := World.cell?_setCell_same w ⟨T, 0, none⟩ a h0
  have e1 := (o w 0 1 a (by decide)).trans h1
  have e2 := (o w 0 2 a (by decide)).trans h2
  have e3 := (o w 0 3 a (by decide)).trans h3
  generalize w.setCell ⟨T, 0, none⟩ a = wa at *
  have f0 := (o wa 1 0 b (by decide)).trans e0
  have f1 := World.cell?_setCell_same wa ⟨T, 1, none⟩ b e1
  have f2 := (o wa 1 2 b (by decide)).trans e2
  have f3 := (o wa 1 3 b (by decide)).trans e3
  generalize wa.setCell ⟨T, 1, none⟩ b = wb at *
  have g0 := (o wb 2 0 c (by decide)).trans f0
  have g1 := (o wb 2 1 c (by decide)).trans f1
  have g2 := World.cell?_setCell_same wb ⟨T, 2, none⟩ c f2
  have g3 := (o wb 2 3 c (by decide)).trans f3
  generalize wb.setCell ⟨T, 2, none⟩ c = wd at *
  exact ⟨(o wd 3 0 d (by decide)).trans g0, (o wd 3 1 d (by decide)).trans g1, (o wd 3 2 d (by decide)).trans g2, World.cell?_setCell_same wd ⟨T, 3, none⟩ d g3⟩

/-- An append of one element that a drawing region has laid, onto an owned row. -/
theorem step_appd {P : Program} {wr : World} {ops : Array Oper} {o : Oper} {a : Act} {K : Act → World → Prop} {Q : Exit → Act → World → Prop} {E : Prop}
    (hg : o.guard = none) (s x : Operand) (t e : TypeId) (ho : o.op = .call { callee := .builtin .append, args := #[s, x], argTypes := #[t, t] })
    (i : TypeInfo) (z : Value) (size bytes : Nat) (ht : P.underlying t = some (.slice e)) (hi : P.info? e = some i) (hz : i.zero = some z)
    (hsize : i.size = size) (hby : i.bytes = bytes) (hzs : z.cells.size = size) (hsz : 0 < size)
    (base : Nat) (v : Value) (n : Nat) (xs : List Value) (hs : a.eval s = v) (hown : wr.ownsRow base e size v n xs)
    (es : List Value) (hes : es.length = size) (C : Array Value) (hC : C = es.toArray) (hx : a.eval x = .slice (some ⟨wr.heap.size, 0, none⟩) 1 1) (h1 : ∀ u ∈ es, u.oneCell' = true)
    (hbytes : (n + 1) * bytes ≤ 140737488355328) (h63 : n + 1 ≤ maxLen) (hbase : base ≤ wr.heap.size)
    (hK : ∀ v' w', w'.ownsRow base e size v' (n + 1) (xs ++ es) → Below base wr w' → (∀ b, b < wr.heap.size → v.ownBlock ≠ some b → w'.heap[b]? = wr.heap[b]?) → (∃ g c, v' = .slice (some g) (n + 1) c) → K (a.put o.dst v') w') :
    if Region.wanted o (yielded ops a.tmps) = true then Oper.wp P o a (wr.alloc (.cells C e)).drew K Q else E := by
  subst hC
  refine step_append_own hg s x t e ho i z size bytes ht hi hz hsize hby hzs hsz base v n xs hs (hown.alloc _).drew ⟨wr.heap.size, 0, none⟩ es hes hx ?_ h1 hbytes h63 (by simp; omega) ?_
  · intro j u hj
    have : (wr.alloc (.cells es.toArray e)).cell? ⟨wr.heap.size, j, none⟩ = some u := by simpa using hj
    have e1 : (⟨wr.heap.size, 0, none⟩ : Addr).add j = ⟨wr.heap.size, j, none⟩ := by cases j <;> simp [Addr.add]
    rw [e1]
    exact this
  · intro v' w' h2 h3 h4
    refine hK v' w' h2 ?_ ?_ h4
    · exact (((Below.refl _ _).alloc hbase _).drew).grown h3 (by simp; omega) (fun k hk => (hown.lt k hk).1)
    · intro b hb hne
      rw [h3.block b (by simp; omega) (fun e => hne e.symm)]
      exact Below.heap_alloc _ _ _ hb

/-- What the reference's Take leaves, in a struct. -/
def RTPost (r : List It × ByteArray × Int) (w : World) (e : Ending) (w' : World) : Prop :=
  ∃ v, e = .returned (.agg #[v, .string r.2.1, .int .i64 r.2.2]) ∧ IsRow w' 3 v r.1.length (itCells r.1) ∧ Below w.heap.size w w'
/-- Where a slice lies: at a block or behind it. -/
def NewR (B : Nat) (v : Value) : Prop := ∀ a n c, v = .slice (some a) n c → B ≤ a.block
theorem NewR.nil (B : Nat) : NewR B (.slice none 0 0) := fun a n c h => by cases h
theorem NewR.own {w : World} {base : Nat} {e : TypeId} {sz : Nat} {v : Value} {n : Nat} {xs : List Value} (h : w.ownsRow base e sz v n xs) (B : Nat) (hB : B ≤ base) : NewR B v := by
  intro a m c hv
  rcases h.2 with ⟨h1, -⟩ | ⟨g, cap, cur, h1, hb, -⟩
  · rw [h1] at hv; cases hv
  · rw [h1] at hv; cases hv; exact Nat.le_trans hB hb
/-- The same, and where the row lies. -/
def RTPostN (r : List It × ByteArray × Int) (w : World) (e : Ending) (w' : World) : Prop :=
  ∃ v, e = .returned (.agg #[v, .string r.2.1, .int .i64 r.2.2]) ∧ IsRow w' 3 v r.1.length (itCells r.1) ∧ Below w.heap.size w w' ∧ NewR w.heap.size v
theorem RTPostN.old {r : List It × ByteArray × Int} {w : World} {e : Ending} {w' : World} (h : RTPostN r w e w') : RTPost r w e w' := by
  obtain ⟨v, h1, h2, h3, -⟩ := h
  exact ⟨v, h1, h2, h3⟩

set_option maxRecDepth 100000 in
set_option maxHeartbeats 2000000 in
theorem refTake_bad (s : ByteArray) (v : Value) (ks : List Int) (w : World) (h : IsRow w 1 v ks.length (intCells ks)) (hl : ks.length ≤ 4096) (hk : ks.all isK = false) :
    Calls Tryz.prog 14 #[.string s, v] w fun e w' => RTPostN ([], ⟨#[]⟩, 1) w e w' := by
  obtain ⟨a0, cap0, rfl⟩ := h.form
  have hl' : ¬ (4096 : Int) < ks.length := by omega
  have HK : Hid (ks.all isK = false) := hk
  clear hk
  go_enter Tryz.func14, Tryz.ntmps14
  go_wp2_with fail
  go_loopw [5] (fun i wx => ∃ k : Nat, k ≤ ks.length ∧ i = .int .i64 k ∧ (ks.take k).all isK = true ∧ (∀ j, wx.cell? ⟨w.heap.size, j, none⟩ = #[Value.slice none 0 0, .string ⟨#[]⟩, .int .i64 0][j]?) ∧ (∀ j, wx.frozen? ⟨w.heap.size, j, none⟩ = false) ∧ Below w.heap.size w wx) (fun i _ => ks.length - (intOf i).toNat)
  case atStart => exact ⟨0, Nat.zero_le _, rfl, rfl, fun j => by simp, fun j => by simp, (Below.refl _ _).alloc (Nat.le_refl _) _⟩
  case round =>
    obtain ⟨k, hk, rfl, hall, r0, rf, hb⟩ := hrel
    have HA : Hid ((ks.take k).all isK = true) := hall
    clear hall
    by_cases hlt : k < ks.length
    · obtain ⟨b, off, rfl, hbl, c0⟩ := ints_at (h.below hb) k hlt
      have hi : (k : Int) < ks.length := by omega
      by_cases hm1 : 1 ≤ ks[k]
      · by_cases hm4 : ks[k] ≤ 4
        · have HN : Hid ((ks.take (k + 1)).all isK = true) := allk_take hlt HA.out (by simp [isK, hm1, hm4])
          go_wp2
          go_roundw
          case rel => exact ⟨k + 1, by omega, by go_num, HN.out, r0, rf, hb⟩
          case measure => simp [intOf]; omega
        · have hd : decide (ks[k] ≤ 4) = false := by simpa using hm4
          go_wp2
          refine bodyPost_ret (v := .agg #[.slice none 0 0, .string ⟨#[]⟩, .int .i64 1]) (by simp [results, Tryz.results14, go_sem, r0]) rfl ⟨.slice none 0 0, rfl, IsRow.nil _ _, ?_, NewR.nil _⟩
          repeat (first | exact hb | refine Below.setCell ?_ (by exact Nat.le_refl _) _)
      · have hd : decide (1 ≤ ks[k]) = false := by simpa using hm1
        go_wp2
        refine bodyPost_ret (v := .agg #[.slice none 0 0, .string ⟨#[]⟩, .int .i64 1]) (by simp [results, Tryz.results14, go_sem, r0]) rfl ⟨.slice none 0 0, rfl, IsRow.nil _ _, ?_, NewR.nil _⟩
        repeat (first | exact hb | refine Below.setCell ?_ (by exact Nat.le_refl _) _)
    · exfalso
      have e : ks.take k = ks := List.take_of_length_le (by omega)
      have h1 := HA.out
      rw [e, HK.out] at h1
      cases h1

set_option maxRecDepth 100000 in
set_option maxHeartbeats 2000000 in
theorem refTake_ok (s : ByteArray) (v : Value) (ks : List Int) (w : World) (hs : s.size ≤ 140737488355328) (h : IsRow w 1 v ks.length (intCells ks)) (hl : ks.length ≤ 4096) (hk : ks.all isK = true) :
    Calls Tryz.prog 14 #[.string s, v] w fun e w' => RTPostN (tk [] s ks) w e w' := by
  obtain ⟨a0, cap0, rfl⟩ := h.form
  obtain ⟨i0, hi0, hz0, hz1, hz2⟩ := info_parts info_refItem
  have hl' : ¬ (4096 : Int) < ks.length := by omega
  have HK : Hid (ks.all isK = true) := hk
  clear hk
  go_enter Tryz.func14, Tryz.ntmps14
  go_wp2_with fail
  go_loopw [5] (fun i wx => ∃ k : Nat, k ≤ ks.length ∧ i = .int .i64 k ∧ (∀ j, wx.cell? ⟨w.heap.size, j, none⟩ = #[Value.slice none 0 0, .string ⟨#[]⟩, .int .i64 0][j]?) ∧ (∀ j, wx.frozen? ⟨w.heap.size, j, none⟩ = false) ∧ Below w.heap.size w wx ∧ w.heap.size < wx.heap.size) (fun i _ => ks.length - (intOf i).toNat)
  case atStart => exact ⟨0, Nat.zero_le _, rfl, fun j => by simp, fun j => by simp, (Below.refl _ _).alloc (Nat.le_refl _) _, by simp⟩
  case round =>
    obtain ⟨k, hk, rfl, r0, rf, hb, hsz⟩ := hrel
    by_cases hlt : k < ks.length
    · obtain ⟨b, off, rfl, hbl, c0⟩ := ints_at (h.below hb) k hlt
      have hi : (k : Int) < ks.length := by omega
      have HM : 1 ≤ ks[k] ∧ ks[k] ≤ 4 := of_decide_eq_true (List.all_eq_true.1 HK.out _ (List.getElem_mem hlt))
      obtain ⟨hm1, hm4⟩ := HM
      go_wp2
      go_roundw
      case rel => exact ⟨k + 1, by omega, by go_num, r0, rf, hb, hsz⟩
      case measure => simp [intOf]; omega
    · have hk' : k = ks.length := by omega
      subst hk'
      obtain ⟨W1, rfl⟩ : ∃ W1, W1 = wr := ⟨_, rfl⟩
      have hr1 := h.below hb
      have hs1 := hb.size
      go_wp2_with fail
      go_loopw [7] (fun i wx => ∃ (k : Nat) (acc : List It) (sj : ByteArray) (v : Value), k ≤ ks.length ∧ i = .int .i64 k ∧ sj.size ≤ 140737488355328 ∧ acc.length = k ∧ tk acc sj (ks.drop k) = tk [] s ks ∧
        wx.cell? ⟨W1.heap.size, 0, none⟩ = some v ∧ wx.cell? ⟨W1.heap.size, 1, none⟩ = some (.string sj) ∧ wx.cell? ⟨W1.heap.size, 2, none⟩ = some (.int .i64 0) ∧ (∀ j, wx.frozen? ⟨W1.heap.size, j, none⟩ = false) ∧
        (∀ j, wx.cell? ⟨w.heap.size, j, none⟩ = #[Value.slice none 0 0, .string ⟨#[]⟩, .int .i64 0][j]?) ∧ (∀ j, wx.frozen? ⟨w.heap.size, j, none⟩ = false) ∧
        wx.ownsRow (W1.heap.size + 1) 59 3 v acc.length (itCells acc) ∧ Below w.heap.size w wx ∧ W1.heap.size < wx.heap.size) (fun i _ => ks.length - (intOf i).toNat)
      case atStart =>
        refine ⟨0, [], s, .slice none 0 0, Nat.zero_le _, rfl, hs, rfl, rfl, by simp, by simp, by simp, fun j => by simp, ?_, ?_, World.ownsRow_nil _ _ _ _, hb.alloc (by omega) _, by simp⟩
        · intro j
          rw [((Below.refl W1.heap.size W1).alloc (Nat.le_refl _) _).cell (p := ⟨w.heap.size, j, none⟩) hsz]
          exact r0 j
        · intro j
          rw [((Below.refl W1.heap.size W1).alloc (Nat.le_refl _) _).frozen (p := ⟨w.heap.size, j, none⟩) hsz]
          exact rf j
      case round =>
        obtain ⟨k, acc, sj, v, hk, rfl, hsj, hal, htk, t0, t1, t2, tf, x0, xf, hown, hbx, htz⟩ := hrel
        have HT : Hid (tk acc sj (ks.drop k) = tk [] s ks) := htk
        have HAL : Hid (acc.length = k) := hal
        have hal1 : acc.length ≤ 4096 := by omega
        clear htk hal r0 rf
        have hsx := hbx.size
        by_cases hlt : k < ks.length
        · obtain ⟨b, off, rfl, hbl, c0⟩ := ints_at (h.below hbx) k hlt
          have hi : (k : Int) < ks.length := by omega
          have HM : 1 ≤ ks[k] ∧ ks[k] ≤ 4 := of_decide_eq_true (List.all_eq_true.1 HK.out _ (List.getElem_mem hlt))
          have HD : Hid (ks.drop k = ks[k] :: ks.drop (k + 1)) := List.drop_eq_getElem_cons hlt
          obtain ⟨hm1, hm4⟩ := HM
          generalize hkk : ks[k] = kk at *
          clear hkk
          go_wp2_with fail
          go_cut [8] (fun p wx => ∃ N, p = .pointer (some ⟨N, 0, none⟩) ∧ wr.heap.size ≤ N ∧ N < wx.heap.size ∧ (wx.cell? ⟨N, 0, none⟩ = some (.int .i64 (tN sj kk)) ∧ wx.cell? ⟨N, 1, none⟩ = some (.string (tS sj kk)) ∧ wx.cell? ⟨N, 2, none⟩ = some (.string (tR sj kk)) ∧ wx.cell? ⟨N, 3, none⟩ = some (.int .i64 (tE sj kk))) ∧ Below wr.heap.size wr wx)
          case first =>
            go_region_with (go_at_call 26; refine (refTk_any _ _ _ hsj hm1 hm4).mono ?_; rintro e w2 ⟨rfl, hb2⟩; first | (have hq := part_cells_d hb2; obtain ⟨hc, hf, hbl2, hz⟩ := hq) | (have hbl3 := below_undrew hb2))
            all_goals (try go_wp2_with fail)
            all_goals go_meet
            all_goals first
              | exact ⟨w2.heap.size, rfl, hbl3.size, by simp, ⟨by simp, by simp, by simp, by simp⟩, hbl3.alloc hbl3.size _⟩
              | exact ⟨wr.heap.size, rfl, Nat.le_refl _, by simpa using hz, set_four hc _ rfl, (((hbl2.setCell (Nat.le_refl _) _).setCell (Nat.le_refl _) _).setCell (Nat.le_refl _) _).setCell (Nat.le_refl _) _⟩
          case rest =>
            obtain ⟨N, rfl, hN, hNz, ⟨p0, p1, p2, p3⟩, hb2⟩ := hcut
            have hz2' := hb2.size
            have key : ∀ b j, b < wr.heap.size → wc.cell? ⟨b, j, none⟩ = wr.cell? ⟨b, j, none⟩ := fun b j hb => hb2.cell (p := ⟨b, j, none⟩) hb
            have keyf : ∀ b j, b < wr.heap.size → wc.frozen? ⟨b, j, none⟩ = wr.frozen? ⟨b, j, none⟩ := fun b j hb => hb2.frozen (p := ⟨b, j, none⟩) hb
            have own2 := owns_below hown hb2
            have hvT : v.ownBlock ≠ some W1.heap.size := fun e => by have := (hown.lt _ e).1; omega
            have hvR : v.ownBlock ≠ some w.heap.size := fun e => by have := (hown.lt _ e).1; omega
            have hvN : v.ownBlock ≠ some N := fun e => by have := (hown.lt _ e).2; omega
            have HB2 : Hid (Below w.heap.size w wc) := hbx.trans (hb2.mono hsx)
            have s0 := (key W1.heap.size 0 htz).trans t0
            have s1 := (key W1.heap.size 1 htz).trans t1
            have s2 := (key W1.heap.size 2 htz).trans t2
            have sf := fun j => (keyf W1.heap.size j htz).trans (tf j)
            have y0 := fun j => (key w.heap.size j (by omega)).trans (x0 j)
            have yf := fun j => (keyf w.heap.size j (by omega)).trans (xf j)
            have c1 := (key b (off + k) hbl).trans c0
            clear key keyf hb2 t0 t1 t2 tf x0 xf c0
            by_cases hte : tE sj kk = 0
            · have HN : Hid (tk (acc ++ [⟨kk, tN sj kk, tS sj kk⟩]) (tR sj kk) (ks.drop (k + 1)) = tk [] s ks) := by
                show _ = _
                rw [← HT.out, HD.out]
                show _ = (if tE sj kk = 0 then _ else _)
                rw [if_pos hte]
              have htr := tR_size sj kk
              have hte' : (tE sj kk != 0) = false := by rw [hte]; rfl
              have HTE : Hid (tE sj kk = 0) := hte
              clear hte
              go_wp2_with fail
              have h1c : ∀ u ∈ It.cells ⟨kk, tN sj kk, tS sj kk⟩, u.oneCell' = true := by intro u hu; simp [It.cells] at hu; rcases hu with rfl | rfl | rfl <;> rfl
              have hb1 : (acc.length + 1) * 32 ≤ 140737488355328 := by omega
              have hb2 : acc.length + 1 ≤ maxLen := by unfold maxLen; omega
              have hb3 : W1.heap.size + 1 ≤ wc.heap.size := by omega
              have s0a : ∀ o, (wc.alloc o).cell? ⟨W1.heap.size, 0, none⟩ = some v := fun o => (((Below.refl wc.heap.size wc).alloc (Nat.le_refl _) o).cell (p := ⟨W1.heap.size, 0, none⟩) hb3).trans s0
              go_region_law (refine step_appd rfl (.tmp 54) (.tmp 64) 55 59 rfl i0 _ 3 32 Tryz.underlying55 hi0 hz0 hz1 hz2 rfl (by decide) (W1.heap.size + 1) v acc.length (itCells acc) rfl own2 (It.cells ⟨kk, tN sj kk, tS sj kk⟩) rfl _ rfl rfl h1c hb1 hb2 hb3 ?_; intro v3 w3 hown3 hbw3 hst3 hform; obtain ⟨g3, c3, rfl⟩ := hform; have q0 := (World.cell?_of_block (a := ⟨W1.heap.size, 0, none⟩) (hst3 W1.heap.size (Nat.lt_of_lt_of_le htz hz2') hvT)).trans s0; have qf := (World.frozen?_of_block (a := ⟨W1.heap.size, 0, none⟩) (hst3 W1.heap.size (Nat.lt_of_lt_of_le htz hz2') hvT)).trans (sf 0))
              all_goals
                have key3 : ∀ b j, b < wc.heap.size → v.ownBlock ≠ some b → w3.cell? ⟨b, j, none⟩ = wc.cell? ⟨b, j, none⟩ := fun b j hb hn => World.cell?_of_block (a := ⟨b, j, none⟩) (hst3 b hb hn)
                have key3f : ∀ b j, b < wc.heap.size → v.ownBlock ≠ some b → w3.frozen? ⟨b, j, none⟩ = wc.frozen? ⟨b, j, none⟩ := fun b j hb hn => World.frozen?_of_block (a := ⟨b, j, none⟩) (hst3 b hb hn)
                have z1 := (key3 W1.heap.size 1 (by omega) hvT).trans s1
                have z2 := (key3 W1.heap.size 2 (by omega) hvT).trans s2
                have zf := fun j => (key3f W1.heap.size j (by omega) hvT).trans (sf j)
                have zx := fun j => (key3 w.heap.size j (by omega) hvR).trans (y0 j)
                have zxf := fun j => (key3f w.heap.size j (by omega) hvR).trans (yf j)
                have zp2 := (key3 N 2 hNz hvN).trans p2
                have hz3 := hbw3.size
                have HB3 : Hid (Below w.heap.size w w3) := HB2.out.trans (hbw3.mono (by omega))
                have HO3 : Hid (w3.ownsRow (W1.heap.size + 1) 59 3 (.slice (some g3) (acc.length + 1) c3) (acc.length + 1) (itCells acc ++ It.cells ⟨kk, tN sj kk, tS sj kk⟩)) := hown3
                have hne3 : (Value.slice (some g3) (acc.length + 1) c3).ownBlock ≠ some W1.heap.size := fun e => by have := (hown3.lt _ e).1; omega
                have hNT : ¬ N = W1.heap.size := by omega
                clear key3 key3f hst3 hbw3 hown3 s0 s1 s2 sf y0 yf p0 p1 p2 p3 c1 own2 hown s0a
                go_wp2
                obtain ⟨n0, n1, n2⟩ := set_two (a := .slice (some g3) (acc.length + 1) c3) (b := .string (tR sj kk)) q0 z1 z2
                go_roundw
                case rel =>
                  refine ⟨k + 1, acc ++ [⟨kk, tN sj kk, tS sj kk⟩], tR sj kk, .slice (some g3) (acc.length + 1) c3, by omega, by go_num, by omega, by simp [HAL.out], HN.out, n0, n1, n2, fun j => by simpa using zf j, ?_, fun j => by simpa using zxf j, ?_, ?_, by simp; omega⟩
                  · intro j
                    rw [World.cell?_setCell_other _ _ _ _ (addr_ne (by omega)), World.cell?_setCell_other _ _ _ _ (addr_ne (by omega))]; exact zx j
                  · rw [itCells_snoc, List.length_append]
                    exact owns_set (owns_set HO3.out hne3) hne3
                  · exact (HB3.out.setCell (p := ⟨W1.heap.size, 0, none⟩) (by show w.heap.size ≤ W1.heap.size; omega) _).setCell (p := ⟨W1.heap.size, 1, none⟩) (by show w.heap.size ≤ W1.heap.size; omega) _
                case measure => simp [intOf]; omega
            · have HN : Hid ((([] : List It), (⟨#[]⟩ : ByteArray), tE sj kk) = tk [] s ks) := by
                show _ = _
                rw [← HT.out, HD.out]
                show _ = (if tE sj kk = 0 then _ else _)
                rw [if_neg hte]
              have hte' : (tE sj kk != 0) = true := by rw [bne_iff_ne]; exact hte
              clear hte
              go_wp2
              refine bodyPost_ret (v := .agg #[.slice none 0 0, .string ⟨#[]⟩, .int .i64 (tE sj kk)]) (by simp [results, Tryz.results14, go_sem, y0]) rfl ⟨.slice none 0 0, ?_, ?_, ?_, NewR.nil _⟩
              · rw [← HN.out]
              · rw [← HN.out]; exact IsRow.nil _ _
              · exact ((HB2.out.setCell (p := ⟨w.heap.size, 0, none⟩) (Nat.le_refl _) _).setCell (p := ⟨w.heap.size, 1, none⟩) (Nat.le_refl _) _).setCell (p := ⟨w.heap.size, 2, none⟩) (Nat.le_refl _) _
        · have HN : Hid ((acc, sj, 0) = tk [] s ks) := by
            show _ = _
            rw [← HT.out, List.drop_of_length_le (by omega)]
            rfl
          have hk' : k = ks.length := by omega
          have HO : Hid (wr.ownsRow (W1.heap.size + 1) 59 3 v acc.length (itCells acc)) := hown
          have hvR : v.ownBlock ≠ some w.heap.size := fun e => by have := (hown.lt _ e).1; omega
          obtain ⟨av, cv, rfl⟩ := (IsRow.own hown).form
          clear hown
          subst hk'
          go_wp2
          refine bodyPost_ret (v := .agg #[.slice av acc.length cv, .string sj, .int .i64 0]) (by simp [results, Tryz.results14, go_sem, x0]) rfl ⟨.slice av acc.length cv, ?_, ?_, ?_, NewR.own HO.out _ (by omega)⟩
          · rw [← HN.out]
          · rw [← HN.out]; exact IsRow.own (owns_set (owns_set (owns_set HO.out hvR) hvR) hvR)
          · exact ((hbx.setCell (p := ⟨w.heap.size, 0, none⟩) (Nat.le_refl _) _).setCell (p := ⟨w.heap.size, 1, none⟩) (Nat.le_refl _) _).setCell (p := ⟨w.heap.size, 2, none⟩) (Nat.le_refl _) _
end Go.Proofs.YtoplpohpodkpdaaGreatDoor.Q
/- The reference's Take at every input up to 4,096 kinds; quic.Row. -/
namespace Go.Proofs.YtoplpohpodkpdaaGreatDoor.Q
open Go.RowKit

theorem refTake_new (s : ByteArray) (v : Value) (ks : List Int) (w : World) (hs : s.size ≤ 140737488355328) (h : IsRow w 1 v ks.length (intCells ks)) (hl : ks.length ≤ 4096) :
    Calls Tryz.prog 14 #[.string s, v] w fun e w' => RTPostN (takeR s ks) w e w' := by
  unfold takeR
  by_cases hc : ks.all isK = true
  · rw [if_pos hc]; exact refTake_ok s v ks w hs h hl hc
  · rw [if_neg hc]; exact refTake_bad s v ks w h hl (by simpa using hc)

theorem refTake_any (s : ByteArray) (v : Value) (ks : List Int) (w : World) (hs : s.size ≤ 140737488355328) (h : IsRow w 1 v ks.length (intCells ks)) (hl : ks.length ≤ 4096) :
    Calls Tryz.prog 14 #[.string s, v] w fun e w' => RTPost (takeR s ks) w e w' :=
  (refTake_new s v ks w hs h hl).mono fun _ _ h => h.old

/-- What Row leaves: a row of the items, the error. -/
def RowPost (l : List It) (x : Int) (w : World) (e : Ending) (w' : World) : Prop :=
  ∃ v, e = .returned (.tuple #[v, .int .i64 x]) ∧ IsRow w' 3 v l.length (itCells l) ∧ Below w.heap.size w w'

set_option maxHeartbeats 1000000 in
theorem row_err' (s : ByteArray) (v : Value) (ks : List Int) (w : World) (hs : s.size ≤ 140737488355328) (h : IsRow w 1 v ks.length (intCells ks)) (hl : ks.length ≤ 4096) (te : Int) (HT : Hid ((takeR s ks).2.2 = te)) (he' : (te != 0) = true) :
    Calls Tryz.prog 13 #[.string s, v] w fun e w' => RowPost [] te w e w' := by
  obtain ⟨a0, cap0, rfl⟩ := h.form
  go_enter Tryz.func13, Tryz.ntmps13
  go_wp2_with fail
  refine (take_any _ _ _ _ hs h hl).mono ?_
  rintro e w1 ⟨v1, rfl, hv1, hb1⟩
  obtain ⟨a1, cap1, rfl⟩ := hv1.form
  rw [HT.out]
  clear HT
  generalize (takeR s ks).1 = l at *
  generalize (takeR s ks).2.1 = rest at *
  have hb : Hid (Below w.heap.size w w1) := hb1
  clear hb1 hv1
  go_wp2
  go_ret2
  exact ⟨.slice none 0 0, rfl, IsRow.nil _ _, hb.out⟩
set_option maxHeartbeats 1000000 in
theorem row_long (s : ByteArray) (v : Value) (ks : List Int) (w : World) (hs : s.size ≤ 140737488355328) (h : IsRow w 1 v ks.length (intCells ks)) (hl : ks.length ≤ 4096) (he : (takeR s ks).2.2 = 0) (hr : (takeR s ks).2.1.toList.isEmpty = false) :
    Calls Tryz.prog 13 #[.string s, v] w fun e w' => RowPost [] 2 w e w' := by
  obtain ⟨a0, cap0, rfl⟩ := h.form
  go_enter Tryz.func13, Tryz.ntmps13
  go_wp2_with fail
  refine (take_any _ _ _ _ hs h hl).mono ?_
  rintro e w1 ⟨v1, rfl, hv1, hb1⟩
  obtain ⟨a1, cap1, rfl⟩ := hv1.form
  rw [he]
  clear he
  generalize (takeR s ks).1 = l at *
  generalize (takeR s ks).2.1 = rest at *
  have hb : Hid (Below w.heap.size w w1) := hb1
  clear hb1 hv1
  go_wp2
  go_ret2
  exact ⟨.slice none 0 0, rfl, IsRow.nil _ _, hb.out⟩

set_option maxHeartbeats 1000000 in
theorem row_all' (s : ByteArray) (v : Value) (ks : List Int) (w : World) (hs : s.size ≤ 140737488355328) (h : IsRow w 1 v ks.length (intCells ks)) (hl : ks.length ≤ 4096) (he : (takeR s ks).2.2 = 0) (hr : (takeR s ks).2.1.toList.isEmpty = true) (l : List It) (HLL : Hid ((takeR s ks).1 = l)) :
    Calls Tryz.prog 13 #[.string s, v] w fun e w' => RowPost l 0 w e w' := by
  obtain ⟨a0, cap0, rfl⟩ := h.form
  go_enter Tryz.func13, Tryz.ntmps13
  go_wp2_with fail
  refine (take_any _ _ _ _ hs h hl).mono ?_
  rintro e w1 ⟨v1, rfl, hv1, hb1⟩
  rw [HLL.out] at hv1
  obtain ⟨a1, cap1, rfl⟩ := hv1.form
  rw [he]
  clear he HLL
  generalize (takeR s ks).2.1 = rest at *
  have hb : Hid (Below w.heap.size w w1) := hb1
  have hv : Hid (IsRow w1 3 (.slice a1 l.length cap1) l.length (itCells l)) := hv1
  clear hb1 hv1
  go_wp2
  go_ret2
  exact ⟨.slice a1 l.length cap1, rfl, hv.out, hb.out⟩
end Go.Proofs.YtoplpohpodkpdaaGreatDoor.Q
