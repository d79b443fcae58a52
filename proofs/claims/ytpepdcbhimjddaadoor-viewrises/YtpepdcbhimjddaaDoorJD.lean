/- ring.stands: its walk. -/
import Derived.Test.YtpepdcbhimjddaaDoorJC
namespace Go.Proofs.YtpepdcbhimjddaaDoor
open Go.RowKit

/-- A ring in cells. -/
def stCells (r : List Nat) : List Value := (r.map st).flatMap enS
/-- What stands leaves. -/
def StPost (l : List Int) (w : World) (e : Ending) (w' : World) : Prop :=
  ∃ v', e = .returned v' ∧ IsRow w' 2 v' (rgL l).length (stCells (rgL l)) ∧ Below w.heap.size w w'
theorem wpl_app2 {P : Program} (wr : World) {ops : Array Oper} {rest : List Oper} {o : Oper} {a : Act} {Q : Exit → Act → World → Prop} (hgd : o.guard = none) (s x : Operand) (t e : TypeId)
    (ho : o.op = .call { callee := .builtin .append, args := #[s, x], argTypes := #[t, t] })
    (i : TypeInfo) (z : Value) (size bytes : Nat) (ht : P.underlying t = some (.slice e)) (hi : P.info? e = some i) (hz : i.zero = some z)
    (hsize : i.size = size) (hby : i.bytes = bytes) (hzs : z.cells.size = size) (hsz : 0 < size)
    (base : Nat) (v : Value) (n : Nat) (xs : List Value) (hs : a.eval s = v) (hown : wr.ownsRow base e size v n xs)
    (es : List Value) (hes : es.length = size) (C : Array Value) (hC : C = es.toArray) (hx : a.eval x = .slice (some ⟨wr.heap.size, 0, none⟩) 1 1) (h1 : ∀ u ∈ es, u.oneCell' = true)
    (hbytes : (n + 1) * bytes ≤ 140737488355328) (h63 : n + 1 ≤ maxLen) (hbase : base ≤ wr.heap.size)
    (h : ∀ v' w', w'.ownsRow base e size v' (n + 1) (xs ++ es) → Below base wr w' → wpList P ops Q rest (a.put o.dst v') w') :
    wpList P ops Q (o :: rest) a (wr.alloc (.cells C e)) := by
  subst hC
  refine wpList_append_own _ hgd s x t ho base e i z size bytes ht hi hz hsize hby hzs hsz v n xs hs (hown.alloc _) ⟨wr.heap.size, 0, none⟩ 1 1 es hx (by omega) ?_ h1 h63 hbytes ?_ ?_
  · intro j u hj
    have : (⟨wr.heap.size, 0, none⟩ : Addr).add j = ⟨wr.heap.size, j, none⟩ := by unfold Addr.add; split <;> simp_all
    rw [this]
    simp
    exact hj
  · simp; omega
  · intro v' w' h2 h3 _
    exact h v' w' h2 (((Below.refl _ _).alloc hbase _).grown h3 (by simp; omega) (fun k hk => (hown.lt k hk).1))
theorem info_st : (Tryd.prog.info? 117).map (fun i => (i.zero, i.size, i.bytes)) = some (some (.agg #[.int .i64 0, .int .u64 0]), 2, 16) := by kernel_rfl
/-- Nodes where they stand. -/
def dL (l : List Int) : List (Int × Int) := l.map fun x => (x, (pt x.toNat : Int))
theorem dL_take (l : List Int) (k : Nat) (hk : k < l.length) : (dL (l.take (k + 1))).flatMap enS = (dL (l.take k)).flatMap enS ++ [.int .i64 l[k], .int .u64 (pt l[k].toNat : Int)] := by
  unfold dL
  rw [List.take_succ_eq_append_getElem hk, List.map_append, List.flatMap_append]
  rfl
theorem own_belowJ {w w1 : World} {base : Nat} {e : TypeId} {sz : Nat} {v : Value} {n : Nat} {xs : List Value} (h : w.ownsRow base e sz v n xs) (hb : Below w.heap.size w w1) : w1.ownsRow base e sz v n xs :=
  h.kept (row := none) ⟨hb.os, hb.tape, hb.output, hb.size, fun k hk _ => hb.block k hk⟩ (by cases hv : v.ownBlock <;> simp)
set_option maxRecDepth 100000 in
set_option maxHeartbeats 2000000 in
theorem stands_any (v : Value) (l : List Int) (w : World) (hr : IsRow w 1 v l.length (iCells l)) (hl : l.length ≤ 1000) :
    Calls Tryd.prog 62 #[v] w fun e w' => StPost l w e w' := by
  obtain ⟨a0, cap0, rfl⟩ := hr.form
  have HR : Hid (IsRow w 1 (.slice a0 l.length cap0) l.length (iCells l)) := hr
  clear hr
  by_cases hN : NodesP l
  rotate_left
  · have HN : Hid (∀ w, IsRow w 1 (.slice a0 l.length cap0) l.length (iCells l) → Calls Tryd.prog 33 #[.slice a0 l.length cap0] w fun e w' => e = .returned (.bool false) ∧ w' = w) := fun w h => by have := nodes_any _ l w h (by omega); rw [nodesB_false hN] at this; exact this
    have HG : Hid (rgL l = []) := rgL_not hN
    go_enter Tryd.func62, Tryd.ntmps62
    go_wp2_with fail
    refine (HN.out _ HR.out).mono ?_
    rintro e w' ⟨rfl, hw⟩
    subst hw
    go_wp2
    go_ret
    exact ⟨_, rfl, by rw [HG.out]; exact IsRow.nil _ _, Below.refl _ _⟩
  have HN : Hid (∀ w, IsRow w 1 (.slice a0 l.length cap0) l.length (iCells l) → Calls Tryd.prog 33 #[.slice a0 l.length cap0] w fun e w' => e = .returned (.bool true) ∧ w' = w) := fun w h => by have := nodes_any _ l w h (by omega); rw [nodesB_true hN] at this; exact this
  have HNP : Hid (NodesP l) := hN
  clear hN
  obtain ⟨i0, hi0, hz0, hz1, hz2⟩ := info_parts info_st
  go_enter Tryd.func62, Tryd.ntmps62
  go_wp2_with fail
  refine (HN.out _ HR.out).mono ?_
  rintro e w0 ⟨rfl, hw⟩
  subst hw
  clear HN
  go_wp2_with fail
  go_loopw [2, 10] (fun r i wr => ∃ k : Nat, k ≤ l.length ∧ i = .int .i64 (k : Int) ∧ wr.ownsRow w0.heap.size 117 2 r k ((dL (l.take k)).flatMap enS) ∧ Below w0.heap.size w0 wr) (fun _ i _ => l.length - (intOf i).toNat)
  case atStart => exact ⟨0, Nat.zero_le _, rfl, World.ownsRow_nil _ _ _ _, Below.refl _ _⟩
  case round =>
    obtain ⟨k, hk, rfl, hown, hB⟩ := hrel
    have hsz := hB.size
    by_cases hlk : k < l.length
    · have dk : decide ((k : Int) < l.length) = true := by simp; omega
      obtain ⟨b, off, rfl, -, hlt, hcap, hc⟩ := iCells_at (HR.out.below hB) (by omega)
      have ck := hc k hlk
      have hnk := HNP.out k hlk
      have HT : Hid ((dL (l.take (k + 1))).flatMap enS = (dL (l.take k)).flatMap enS ++ [.int .i64 l[k], .int .u64 (pt l[k].toNat : Int)]) := dL_take l k hlk
      have HP : Hid (∀ w, Calls Tryd.prog 80 #[.int .i64 l[k]] w fun e w' => e = .returned (.int .u64 (pt l[k].toNat : Int)) ∧ w' = w) := fun w => by
        have := point_any l[k] w
        rw [ptI, if_pos (isN_of hnk.1 hnk.2.1)] at this
        exact this
      have HO : Hid (wr.ownsRow w0.heap.size 117 2 u2 k ((dL (l.take k)).flatMap enS)) := hown
      generalize l[k]'hlk = x at *
      generalize pt x.toNat = y at *
      clear hc hnk hown
      go_wp2_with fail
      refine (HP.out _).mono ?_
      rintro e w2 ⟨rfl, hw⟩
      subst hw
      go_wp2_with (at_builtin; go_loud (refine wpl_app2 w2 rfl (.tmp 14) (.tmp 19) 113 117 rfl i0 _ 2 16 Tryd.underlying113 hi0 hz0 hz1 hz2 rfl (by decide) w0.heap.size u2 k _ rfl HO.out [.int .i64 x, .int .u64 (y : Int)] rfl _ rfl rfl (by intro u hu; simp at hu; rcases hu with rfl | rfl <;> rfl) (by omega) (by unfold maxLen; omega) hsz ?_; intro v4 w4 hown4 hb4))
      have HO4 : Hid (w4.ownsRow w0.heap.size 117 2 v4 (k + 1) ((dL (l.take (k + 1))).flatMap enS)) := by show World.ownsRow _ _ _ _ _ _ _; rw [HT.out]; exact hown4
      have HB4 : Hid (Below w0.heap.size w0 w4) := hB.trans hb4
      clear hown4 hb4 HT HO hB
      go_wp2
      go_roundw
      case rel => exact ⟨k + 1, by omega, by simp, HO4.out, HB4.out⟩
      case measure => simp [intOf]; omega
    · have hk' : k = l.length := by omega
      subst hk'
      have dk : decide ((l.length : Int) < l.length) = false := by simp
      rw [List.take_of_length_le (Nat.le_refl _)] at hown
      have HO : Hid (wr.ownsRow w0.heap.size 117 2 u2 l.length ((dL l).flatMap enS)) := hown
      have hdl : (dL l).length = l.length := by simp [dL]
      rcases hown.2 with ⟨hv, h0⟩ | ⟨g, cap, cur, hv, hbg, hg, q1, q2, q3, q4⟩
      · have HG : Hid (rgL l = []) := List.eq_nil_of_length_eq_zero (by rw [rgL_len HNP.out]; exact h0)
        subst hv
        clear hown HO hdl
        go_wp2_with fail
        refine (AnyF.slices_SortFunc_none { Tryd.sortSt with } none 0 _ wr).mono ?_
        rintro e w5 ⟨rfl, hw⟩
        subst hw
        have HB : Hid (Below w0.heap.size w0 w5) := hB
        clear hB
        go_wp2
        go_ret
        exact ⟨_, rfl, by rw [HG.out]; exact IsRow.nil _ _, HB.out⟩
      · subst hv
        have HS : Hid (Calls Tryd.prog 81 #[.slice (some ⟨g, 0, none⟩) l.length cap, .func (.func 82) #[] #[]] wr fun e w' => e = .returned (.tuple #[]) ∧
            ∃ D' : List (Int × Int), D'.Perm (dL l) ∧ D'.Pairwise (fun a b => ¬ cfS b a < 0) ∧ IsRow w' 2 (.slice (some ⟨g, 0, none⟩) l.length cap) l.length (D'.flatMap enS) ∧ Below w0.heap.size wr w') := by
          have := sort_own g cap w0.heap.size (dL l) wr (by rw [hdl]; exact HO.out) (by rw [hdl]; omega)
          rw [hdl] at this
          exact this
        clear hown HO hdl hg q1 q2 q3 q4
        go_wp2_with fail
        refine HS.out.mono ?_
        rintro e w5 ⟨rfl, D', hp, hs, hrow, hb5⟩
        have e5 := sorted_ring HNP.out hp (hs.imp fun h => by omega)
        subst e5
        have HB : Hid (Below w0.heap.size w0 w5) := hB.trans hb5
        have HRow : Hid (IsRow w5 2 (.slice (some ⟨g, 0, none⟩) l.length cap) (rgL l).length (stCells (rgL l))) := by show IsRow _ _ _ _ _; rw [rgL_len HNP.out]; exact hrow
        clear hB hb5 hrow hp hs
        go_wp2
        go_ret
        exact ⟨_, rfl, HRow.out, HB.out⟩
end Go.Proofs.YtpepdcbhimjddaaDoor
