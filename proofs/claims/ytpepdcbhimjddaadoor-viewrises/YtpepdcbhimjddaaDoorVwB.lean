/- Rows of members; view.counts, membersMayBe, Check: walks. -/
import Derived.Test.YtpepdcbhimjddaaDoorVwA
import Derived.Test.YtpepdcbhimjddaaDoorJB0
import Derived.Deep.DeepCutAuto
namespace Go.Proofs.YtpepdcbhimjddaaDoor
open Go.RowKit

/-- An append of one element of some cells onto a row of the call's own. -/
theorem wpl_appV {P : Program} (wr : World) {ops : Array Oper} {rest : List Oper} {o : Oper} {a : Act} {Q : Exit → Act → World → Prop} (hgd : o.guard = none) (s x : Operand) (t e : TypeId)
    (ho : o.op = .call { callee := .builtin .append, args := #[s, x], argTypes := #[t, t] })
    (i : TypeInfo) (z : Value) (size bytes : Nat) (ht : P.underlying t = some (.slice e)) (hi : P.info? e = some i) (hz : i.zero = some z)
    (hsize : i.size = size) (hby : i.bytes = bytes) (hzs : z.cells.size = size) (hsz : 0 < size)
    (base : Nat) (v : Value) (n : Nat) (xs : List Value) (hs : a.eval s = v) (hown : wr.ownsRow base e size v n xs)
    (es : List Value) (hes : es.length = size) (C : Array Value) (hC : C = es.toArray) (N : Nat) (hN : N = wr.heap.size) (hx : a.eval x = .slice (some ⟨N, 0, none⟩) 1 1) (h1 : ∀ u ∈ es, u.oneCell' = true)
    (hbytes : (n + 1) * bytes ≤ 140737488355328) (h63 : n + 1 ≤ maxLen) (hbase : base ≤ wr.heap.size)
    (h : ∀ v' w', w'.ownsRow base e size v' (n + 1) (xs ++ es) → Below base wr w' → (∀ b, b < wr.heap.size → v.ownBlock ≠ some b → w'.heap[b]? = wr.heap[b]?) → wpList P ops Q rest (a.put o.dst v') w') :
    wpList P ops Q (o :: rest) a (wr.alloc (.cells C e)) := by
  subst hN
  subst hC
  refine wpList_append_own _ hgd s x t ho base e i z size bytes ht hi hz hsize hby hzs hsz v n xs hs (hown.alloc _) ⟨wr.heap.size, 0, none⟩ 1 1 es hx (by omega) ?_ h1 h63 hbytes ?_ ?_
  · intro j u hj
    have : (⟨wr.heap.size, 0, none⟩ : Addr).add j = ⟨wr.heap.size, j, none⟩ := by unfold Addr.add; split <;> simp_all
    rw [this]
    simp
    exact hj
  · simp; omega
  · intro v' w' h2 h3 _
    refine h v' w' h2 (((Below.refl _ _).alloc hbase _).grown h3 (by simp; omega) (fun k hk => (hown.lt k hk).1)) ?_
    intro b hb hne
    have := h3.block b (by simp; omega) hne.symm
    rw [this]
    exact Below.heap_alloc wr _ b hb
theorem own_belowV {w w1 : World} {base : Nat} {e : TypeId} {sz : Nat} {v : Value} {n : Nat} {xs : List Value} (h : w.ownsRow base e sz v n xs) (hb : Below w.heap.size w w1) : w1.ownsRow base e sz v n xs :=
  h.kept (row := none) ⟨hb.os, hb.tape, hb.output, hb.size, fun k hk _ => hb.block k hk⟩ (by cases hv : v.ownBlock <;> simp)
theorem al_belowV (w : World) (o : Obj) : Below w.heap.size w (w.alloc o) := (Below.refl _ _).alloc (Nat.le_refl _) _
theorem info_inV : (Tryd.prog.info? 3).map (fun i => (i.zero, i.size, i.bytes)) = some (some (.int .i64 0), 1, 8) := by kernel_rfl
theorem info_mb : (Tryd.prog.info? 58).map (fun i => (i.zero, i.size, i.bytes)) = some (some (.agg #[.int .i64 0, .int .i64 0, .bool false]), 3, 24) := by kernel_rfl
/-- A member's cells where it lies. -/
theorem mb_at {w : World} {v : Value} {l : List Mb} (h : IsRow w 3 v l.length (mCells l)) {i : Nat} (hi : i < l.length) :
    ∃ b off cap, v = .slice (some ⟨b, off, none⟩) l.length cap ∧ b < w.heap.size ∧ l.length ≤ cap ∧ cap ≤ maxLen ∧ (w.cell? ⟨b, off + i * 3, none⟩ = some (.int .i64 l[i].nd) ∧ w.cell? ⟨b, off + i * 3 + 1, none⟩ = some (.int .i64 l[i].lf) ∧ w.cell? ⟨b, off + i * 3 + 2, none⟩ = some (.bool l[i].up)) := by
  rcases h.2 with ⟨h0, -⟩ | ⟨b, off, cap, hv, hb, h1, h2, hc⟩
  · omega
  refine ⟨b, off, cap, hv, hb, h1, h2, ?_, ?_, ?_⟩
  · exact hc (i * 3 + 0) _ (mCells_get l i hi 0 (by omega))
  · exact hc (i * 3 + 1) _ (mCells_get l i hi 1 (by omega))
  · exact hc (i * 3 + 2) _ (mCells_get l i hi 2 (by omega))
/-- A view as a value. -/
abbrev vwV (ep : Int) (v : Value) : Value := .agg #[.int .i64 ep, v]

theorem counts_any (n : Int) (w : World) : Calls Tryd.prog 35 #[.int .i64 n] w fun e w' => e = .returned (.bool (cntB n)) ∧ w' = w := by
  by_cases h1 : 1 ≤ n
  · have d1 : decide (1 ≤ n) = true := by simpa using h1
    by_cases h2 : n ≤ 1099511627775
    · have d2 : decide (n ≤ 1099511627775) = true := by simpa using h2
      have e : cntB n = true := cntB_iff.2 ⟨h1, h2⟩
      rw [e]
      go_enter Tryd.func35, Tryd.ntmps35
      go_wp2
      go_ret
      exact ⟨rfl, rfl⟩
    · have d2 : decide (n ≤ 1099511627775) = false := by simpa using h2
      have e : cntB n = false := by simp [cntB, h2]
      rw [e]
      go_enter Tryd.func35, Tryd.ntmps35
      go_wp2
      go_ret
      exact ⟨rfl, rfl⟩
  · have d1 : decide (1 ≤ n) = false := by simpa using h1
    have e : cntB n = false := by simp [cntB, h1]
    rw [e]
    go_enter Tryd.func35, Tryd.ntmps35
    go_wp2
    go_ret
    exact ⟨rfl, rfl⟩
/-- May members be? -/
def MbP (l : List Mb) : Prop := (∀ m ∈ l, cntB m.lf = true) ∧ NodesP (nds l)
open Classical in
noncomputable def mbB (l : List Mb) : Bool := decide (MbP l)
open Classical in
theorem mbB_true {l : List Mb} (h : MbP l) : mbB l = true := by unfold mbB; exact decide_eq_true h
open Classical in
theorem mbB_false {l : List Mb} (h : ¬ MbP l) : mbB l = false := by unfold mbB; exact decide_eq_false h
set_option maxRecDepth 100000 in
set_option maxHeartbeats 1000000 in
theorem members_any (v : Value) (l : List Mb) (w : World) (hr : IsRow w 3 v l.length (mCells l)) (hl : l.length ≤ 1000) :
    Calls Tryd.prog 36 #[v] w fun e w' => e = .returned (.bool (mbB l)) ∧ Below w.heap.size w w' := by
  obtain ⟨a0, cap0, rfl⟩ := hr.form
  have HR : Hid (IsRow w 3 (.slice a0 l.length cap0) l.length (mCells l)) := hr
  clear hr
  obtain ⟨i0, hi0, hz0, hz1, hz2⟩ := info_parts info_inV
  obtain ⟨w1, hmk, hown, hgr⟩ := run_make_own (P := Tryd.prog) w w.heap.size 25 3 i0 _ 1 Tryd.underlying25 hi0 hz0 hz1 .i64 .i64 l.length (by rw [hz2]; omega) (by unfold maxLen; omega) (Nat.le_refl _)
  have hb1 : Below w.heap.size w w1 := (Below.refl w.heap.size w).grown hgr (Nat.le_refl _) (fun k hk => by cases hk)
  have hs1 := hb1.size
  clear hgr
  have HC : Hid (∀ n w, Calls Tryd.prog 35 #[.int .i64 n] w fun e w' => e = .returned (.bool (cntB n)) ∧ w' = w) := counts_any
  have HN : Hid (∀ v w, IsRow w 1 v (nds l).length (iCells (nds l)) → Calls Tryd.prog 33 #[v] w fun e w' => e = .returned (.bool (nodesB (nds l))) ∧ w' = w) := fun v w h => nodes_any v (nds l) w h (by simp; omega)
  go_enter Tryd.func36, Tryd.ntmps36
  go_wp2_with fail
  clear hmk
  go_loopw [2, 3, 11] (fun r o i wr => r = .bool false ∧ ∃ k : Nat, k ≤ l.length ∧ i = .int .i64 (k : Int) ∧ Hid (∀ m ∈ l.take k, cntB m.lf = true) ∧ wr.ownsRow w.heap.size 3 1 o k (iCells (nds (l.take k))) ∧ Below w.heap.size w wr) (fun _ _ i _ => l.length - (intOf i).toNat)
  case atStart => exact ⟨rfl, 0, Nat.zero_le _, rfl, fun m hm => by simp at hm, hown, hb1⟩
  case round =>
    obtain ⟨rfl, k, hk, rfl, HA, hown, hB⟩ := hrel
    have hsz := hB.size
    by_cases hlk : k < l.length
    · have dk : decide ((k : Int) < l.length) = true := by simp; omega
      obtain ⟨b, off, cap, hv, hlt, hc1, hc2, c0, c1, c2⟩ := mb_at (HR.out.below hB) hlk
      obtain ⟨rfl, -, rfl⟩ := Value.slice.inj hv
      have HT : Hid (iCells (nds (l.take (k + 1))) = iCells (nds (l.take k)) ++ [.int .i64 l[k].nd]) := by
        show _ = _
        rw [List.take_succ_eq_append_getElem hlk, show nds (l.take k ++ [l[k]]) = nds (l.take k) ++ [l[k].nd] from List.map_append]
        exact List.map_append
      have HA2 : Hid (cntB l[k].lf = true → ∀ m ∈ l.take (k + 1), cntB m.lf = true) := fun h m hm => by
        rw [List.take_succ_eq_append_getElem hlk] at hm
        rcases List.mem_append.1 hm with h2 | h2
        · exact HA.out m h2
        · simp at h2; subst h2; exact h
      have HF : Hid (cntB l[k].lf = false → mbB l = false) := fun h => mbB_false fun hp => by have := hp.1 l[k] (List.getElem_mem hlk); rw [h] at this; cases this
      generalize l[k]'hlk = m at *
      obtain ⟨mn, ml, mu⟩ := m
      dsimp only at *
      have HO : Hid ((wr.alloc (.cells #[.int .i64 mn, .int .i64 ml, .bool mu] 58)).ownsRow w.heap.size 3 1 u3 k (iCells (nds (l.take k)))) := own_belowV hown (al_belowV wr _)
      have HBa : Hid (Below w.heap.size w (wr.alloc (.cells #[.int .i64 mn, .int .i64 ml, .bool mu] 58))) := hB.trans ((al_belowV wr _).mono hsz)
      have hsa : w.heap.size ≤ (wr.alloc (.cells #[.int .i64 mn, .int .i64 ml, .bool mu] 58)).heap.size := HBa.out.size
      clear hown hB hv HA HN HR
      go_wp2_with fail
      refine (HC.out _ _).mono ?_
      rintro e w' ⟨rfl, hw⟩
      subst hw
      cases hcb : cntB ml
      · have HF2 : Hid (mbB l = false) := HF.out hcb
        clear HF hcb HA2
        go_wp2
        go_ret
        exact ⟨by rw [HF2.out]; rfl, HBa.out⟩
      · have HA3 : Hid (∀ m ∈ l.take (k + 1), cntB m.lf = true) := HA2.out hcb
        clear HF HA2 hcb
        go_wp2_with (at_builtin; go_loud (refine wpl_appV (wr.alloc (.cells #[.int .i64 mn, .int .i64 ml, .bool mu] 58)) rfl (.tmp 19) (.tmp 22) 25 3 rfl i0 _ 1 8 Tryd.underlying25 hi0 hz0 hz1 hz2 rfl (by decide) w.heap.size u3 k _ rfl HO.out [.int .i64 mn] rfl _ rfl (wr.heap.size + 1) (by simp) rfl (by simp [Value.oneCell']) (by omega) (by unfold maxLen; omega) hsa ?_; intro v4 w4 hown4 hb4 hne4))
        have HO4 : Hid (w4.ownsRow w.heap.size 3 1 v4 (k + 1) (iCells (nds (l.take (k + 1))))) := by show World.ownsRow _ _ _ _ _ _ _; rw [HT.out]; exact hown4
        have HB4 : Hid (Below w.heap.size w w4) := HBa.out.trans hb4
        clear hown4 hb4 HT HO hne4
        go_wp2
        go_roundw
        case rel => exact ⟨rfl, k + 1, by omega, by simp, HA3, HO4.out, HB4.out⟩
        case measure => simp [intOf]; omega
    · have hk' : k = l.length := by omega
      subst hk'
      have dk : decide ((l.length : Int) < l.length) = false := by simp
      rw [List.take_of_length_le (Nat.le_refl _)] at hown HA
      have hrow : IsRow wr 1 u3 (nds l).length (iCells (nds l)) := by have := IsRow.own hown; rw [show (nds l).length = l.length by simp]; exact this
      have HX : Hid (Calls Tryd.prog 33 #[u3] wr fun e w' => e = .returned (.bool (nodesB (nds l))) ∧ w' = wr) := HN.out _ _ hrow
      have HB : Hid (Below w.heap.size w wr) := hB
      have HE : Hid (nodesB (nds l) = mbB l) := by
        show _ = _
        by_cases hn : NodesP (nds l)
        · rw [nodesB_true hn, mbB_true ⟨HA.out, hn⟩]
        · rw [nodesB_false hn, mbB_false fun h => hn h.2]
      clear hown hB HN HR hrow HA
      go_wp2_with fail
      refine HX.out.mono ?_
      rintro e w' ⟨rfl, hw⟩
      subst hw
      go_wp2
      go_ret
      exact ⟨by rw [← HE.out]; rfl, HB.out⟩
theorem vB_split (ep : Int) (l : List Mb) : vB ep l = (cntB ep && (decide (1 ≤ (l.length : Int)) && (decide ((l.length : Int) ≤ 15) && mbB l))) := by
  by_cases h : VwP ep l
  · have h1 := h.len
    have h2 := h.pos
    rw [vB_true h, h.1, mbB_true h.2.2, decide_eq_true (by omega), decide_eq_true (by omega)]
    rfl
  · rw [vB_false h]
    symm
    rw [Bool.eq_false_iff]
    intro e
    simp only [Bool.and_eq_true, decide_eq_true_eq] at e
    refine h ⟨e.1, fun e2 => ?_, ?_⟩
    · rw [e2] at e; simp at e
    · apply Classical.byContradiction
      intro hn
      have := e.2.2.2
      rw [mbB_false hn] at this
      cases this
set_option maxRecDepth 100000 in
set_option maxHeartbeats 1000000 in
theorem check_any (ep : Int) (v : Value) (l : List Mb) (w : World) (hr : IsRow w 3 v l.length (mCells l)) (hl : l.length ≤ 140737488355328) :
    Calls Tryd.prog 14 #[vwV ep v] w fun e w' => e = .returned (.bool (vB ep l)) ∧ Below w.heap.size w w' := by
  obtain ⟨a0, cap0, rfl⟩ := hr.form
  have HC : Hid (∀ n w, Calls Tryd.prog 35 #[.int .i64 n] w fun e w' => e = .returned (.bool (cntB n)) ∧ w' = w) := counts_any
  have HB1 : Hid (Below w.heap.size w (w.alloc (.cells #[.int .i64 ep, .slice a0 l.length cap0] 24))) := al_belowV w _
  have HM : Hid (l.length ≤ 15 → Calls Tryd.prog 36 #[.slice a0 l.length cap0] (w.alloc (.cells #[.int .i64 ep, .slice a0 l.length cap0] 24)) fun e w' => e = .returned (.bool (mbB l)) ∧ Below w.heap.size w w') := fun h => (members_any _ l _ (hr.below (al_belowV w _)) (by omega)).mono fun e w' ⟨h1, h2⟩ => ⟨h1, HB1.out.trans (h2.mono (by simp))⟩
  have HS : Hid (vB ep l = (cntB ep && (decide (1 ≤ (l.length : Int)) && (decide ((l.length : Int) ≤ 15) && mbB l)))) := vB_split ep l
  clear hr
  cases h0 : cntB ep
  · have e : vB ep l = false := by rw [HS.out, h0]; rfl
    rw [e]
    clear e HS
    go_enter Tryd.func14, Tryd.ntmps14
    go_wp2_with fail
    refine (HC.out _ _).mono ?_
    rintro e w' ⟨rfl, hw⟩
    subst hw
    rw [h0]
    go_wp2
    go_ret
    exact ⟨rfl, HB1.out⟩
  by_cases h1 : (1 : Int) ≤ (l.length : Int)
  · have d1 : decide ((1 : Int) ≤ (l.length : Int)) = true := by simpa using h1
    have d1' : decide (1 ≤ l.length) = true := decide_eq_true (by omega)
    by_cases h2 : (l.length : Int) ≤ 15
    · have d2 : decide ((l.length : Int) ≤ 15) = true := by simpa using h2
      have d2' : decide (l.length ≤ 15) = true := decide_eq_true (by omega)
      have e : vB ep l = mbB l := by rw [HS.out, h0, d1, d2]; simp
      rw [e]
      have HM2 := HM.out (by omega)
      have HM2 : Hid (Calls Tryd.prog 36 #[.slice a0 l.length cap0] (w.alloc (.cells #[.int .i64 ep, .slice a0 l.length cap0] 24)) fun e w' => e = .returned (.bool (mbB l)) ∧ Below w.heap.size w w') := HM2
      clear e HS HM
      generalize mbB l = B at *
      go_enter Tryd.func14, Tryd.ntmps14
      go_wp2_with fail
      refine (HC.out _ _).mono ?_
      rintro e w' ⟨rfl, hw⟩
      subst hw
      rw [h0]
      go_wp2_with fail
      refine HM2.out.mono ?_
      rintro e w' ⟨rfl, hb⟩
      have HB2 : Hid (Below w.heap.size w w') := hb
      clear hb HM2
      go_wp2
      go_ret
      exact ⟨rfl, HB2.out⟩
    · have d2 : decide ((l.length : Int) ≤ 15) = false := by simpa using h2
      have d2' : decide (l.length ≤ 15) = false := decide_eq_false (by omega)
      have e : vB ep l = false := by rw [HS.out, h0, d1, d2]; rfl
      rw [e]
      clear e HS HM
      go_enter Tryd.func14, Tryd.ntmps14
      go_wp2_with fail
      refine (HC.out _ _).mono ?_
      rintro e w' ⟨rfl, hw⟩
      subst hw
      rw [h0]
      go_wp2
      go_ret
      exact ⟨rfl, HB1.out⟩
  · have d1 : decide ((1 : Int) ≤ (l.length : Int)) = false := by simpa using h1
    have d1' : decide (1 ≤ l.length) = false := decide_eq_false (by omega)
    have e : vB ep l = false := by rw [HS.out, h0, d1]; rfl
    rw [e]
    clear e HS HM
    go_enter Tryd.func14, Tryd.ntmps14
    go_wp2_with fail
    refine (HC.out _ _).mono ?_
    rintro e w' ⟨rfl, hw⟩
    subst hw
    rw [h0]
    go_wp2
    go_ret
    exact ⟨rfl, HB1.out⟩
end Go.Proofs.YtpepdcbhimjddaaDoor
