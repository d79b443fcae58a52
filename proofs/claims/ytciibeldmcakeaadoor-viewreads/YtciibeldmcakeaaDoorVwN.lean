/- view.Text: its walk. -/
import Derived.Test.YtciibeldmcakeaaDoorZa
import Derived.Test.YtciibeldmcakeaaDoorPut
namespace Go.Proofs.YtciibeldmcakeaaDoor
open Go.RowKit

abbrev e0 : ByteArray := ⟨#[]⟩
/-- A member's items; a view's. -/
def itM (m : Mb) : List It := [⟨1, m.nd, e0⟩, ⟨1, m.lf, e0⟩, ⟨3, if m.up = true then 1 else 0, e0⟩]
def itsV (ep : Int) (n : Nat) (l : List Mb) : List It := ⟨1, ep, e0⟩ :: ⟨1, (n : Int), e0⟩ :: l.flatMap itM
theorem itsV_len (ep : Int) (n : Nat) (l : List Mb) : (itsV ep n l).length = 2 + 3 * l.length := by
  have : (l.flatMap itM).length = 3 * l.length := by
    induction l with
    | nil => rfl
    | cons x l ih => rw [List.flatMap_cons, List.length_append, ih]; simp [itM]; omega
  simp [itsV, this]
  omega
theorem itsV_snoc (ep : Int) (n : Nat) (l : List Mb) (m : Mb) : itCells (itsV ep n (l ++ [m])) = itCells (itsV ep n l) ++ [.int .i64 1, .int .i64 m.nd, .string e0, .int .i64 1, .int .i64 m.lf, .string e0, .int .i64 3, .int .i64 (if m.up = true then 1 else 0), .string e0] := by
  simp [itCells, itsV, itM, It.cells]
theorem its_may {ep : Int} {l : List Mb} (h : VwP ep l) : (itsV ep l.length l).all Q.mayIt = true := by
  have h15 := h.len
  have hep := cntB_iff.1 h.1
  rw [List.all_eq_true]
  intro x hx
  have may1 : ∀ n : Int, 0 ≤ n → n ≤ 1099511627775 → Q.mayIt ⟨1, n, e0⟩ = true := fun n h1 h2 => by
    unfold Q.mayIt Q.mayB
    rw [if_pos rfl, Q.isEmpty_to e0 rfl, decide_eq_true (show 0 ≤ n ∧ n ≤ 4611686018427387903 by omega)]
    rfl
  have may3 : ∀ b : Bool, Q.mayIt ⟨3, if b = true then 1 else 0, e0⟩ = true := fun b => by
    unfold Q.mayIt Q.mayB
    rw [if_neg (show ¬ (3 : Int) = 1 by decide), if_neg (show ¬ (3 : Int) = 2 by decide), if_pos rfl, Q.isEmpty_to e0 rfl]
    cases b <;> rfl
  simp only [itsV, List.mem_cons] at hx
  rcases hx with rfl | rfl | hx
  · exact may1 _ (by omega) (by omega)
  · exact may1 _ (by omega) (by omega)
  · obtain ⟨m, hm, hx⟩ := List.mem_flatMap.1 hx
    have hlf := cntB_iff.1 (h.2.2.1 m hm)
    have hnd := nodes_mem h.2.2.2 (x := m.nd) (List.mem_map.2 ⟨m, hm, rfl⟩)
    simp only [itM, List.mem_cons, List.not_mem_nil, or_false] at hx
    rcases hx with rfl | rfl | rfl
    · exact may1 _ (by omega) (by omega)
    · exact may1 _ (by omega) (by omega)
    · exact may3 _
/-- A view's bytes. -/
noncomputable def txV (ep : Int) (l : List Mb) : ByteArray := if vB ep l = true then ⟨((itsV ep l.length l).flatMap Q.itB).toArray⟩ else e0
theorem info_it : (Tryd.prog.info? 49).map (fun i => (i.zero, i.size, i.bytes)) = some (some (.agg #[.int .i64 0, .int .i64 0, .string ⟨#[]⟩]), 3, 32) := by kernel_rfl
/-- An append of some elements that were just laid, onto a row of the call's own. -/
theorem wpl_appM {P : Program} (wr : World) {ops : Array Oper} {rest : List Oper} {o : Oper} {a : Act} {Q : Exit → Act → World → Prop} (hgd : o.guard = none) (s x : Operand) (t e : TypeId)
    (ho : o.op = .call { callee := .builtin .append, args := #[s, x], argTypes := #[t, t] })
    (i : TypeInfo) (z : Value) (size bytes : Nat) (ht : P.underlying t = some (.slice e)) (hi : P.info? e = some i) (hz : i.zero = some z)
    (hsize : i.size = size) (hby : i.bytes = bytes) (hzs : z.cells.size = size) (hsz : 0 < size)
    (base : Nat) (v : Value) (n : Nat) (xs : List Value) (hs : a.eval s = v) (hown : wr.ownsRow base e size v n xs) (m : Nat)
    (es : List Value) (hes : es.length = m * size) (C : Array Value) (hC : C = es.toArray) (N : Nat) (hN : N = wr.heap.size) (hx : a.eval x = .slice (some ⟨N, 0, none⟩) m m) (h1 : ∀ u ∈ es, u.oneCell' = true)
    (hbytes : (n + m) * bytes ≤ 140737488355328) (h63 : n + m ≤ maxLen) (hbase : base ≤ wr.heap.size)
    (h : ∀ v' w', w'.ownsRow base e size v' (n + m) (xs ++ es) → Below base wr w' → wpList P ops Q rest (a.put o.dst v') w') :
    wpList P ops Q (o :: rest) a (wr.alloc (.cells C e)) := by
  subst hN
  subst hC
  refine wpList_append_own _ hgd s x t ho base e i z size bytes ht hi hz hsize hby hzs hsz v n xs hs (hown.alloc _) ⟨wr.heap.size, 0, none⟩ m m es hx hes ?_ h1 h63 hbytes ?_ ?_
  · intro j u hj
    have : (⟨wr.heap.size, 0, none⟩ : Addr).add j = ⟨wr.heap.size, j, none⟩ := by unfold Addr.add; split <;> simp_all
    rw [this]
    simp
    exact hj
  · simp; omega
  · intro v' w' h2 h3 _
    exact h v' w' h2 (((Below.refl _ _).alloc hbase _).grown h3 (by simp; omega) (fun k hk => (hown.lt k hk).1))
set_option maxRecDepth 100000 in
set_option maxHeartbeats 2000000 in
theorem text_any (ep : Int) (v : Value) (l : List Mb) (w : World) (hr : IsRow w 3 v l.length (mCells l)) (hl : l.length ≤ 140737488355328) (hT : Q.Tab w) :
    Calls Tryd.prog 8 #[vwV ep v] w fun e w' => e = .returned (.string (txV ep l)) ∧ Below w.heap.size w w' := by
  obtain ⟨a0, cap0, rfl⟩ := hr.form
  obtain ⟨i0, hi0, hz0, hz1, hz2⟩ := info_parts info_it
  have HR : Hid (∀ w', Below w.heap.size w w' → IsRow w' 3 (.slice a0 l.length cap0) l.length (mCells l)) := fun w' h => hr.below h
  have HT : Hid (∀ w', Below w.heap.size w w' → Q.Tab w') := fun w' h => hT.below h hT.size
  have HB0 : Hid (Below w.heap.size w (w.alloc (.cells #[.int .i64 ep, .slice a0 l.length cap0] 24))) := al_belowV w _
  have HC : Hid (Calls Tryd.prog 12 #[.agg #[.int .i64 ep, .slice a0 l.length cap0]] (w.alloc (.cells #[.int .i64 ep, .slice a0 l.length cap0] 24)) fun e w' => e = .returned (.bool (vB ep l)) ∧ Below (w.alloc (.cells #[.int .i64 ep, .slice a0 l.length cap0] 24)).heap.size (w.alloc (.cells #[.int .i64 ep, .slice a0 l.length cap0] 24)) w') := check_any ep _ l _ (hr.below HB0.out) hl
  clear hr hT
  go_enter Tryd.func8, Tryd.ntmps8
  go_wp2_with fail
  refine HC.out.mono ?_
  rintro e w1 ⟨rfl, hb1⟩
  have HB1 : Hid (Below w.heap.size w w1) := HB0.out.trans (hb1.mono HB0.out.size)
  have h0 : w1.heap[w.heap.size]? = some (.cells #[.int .i64 ep, .slice a0 l.length cap0] 24 (0, 0)) := (hb1.block _ (by simp)).trans (alloc_top w _)
  obtain ⟨p0, p1, -, -⟩ := two_V h0
  have hs1 := HB1.out.size
  have hg1 := (heap_at h0).2.2
  clear hb1 HC HB0 h0
  by_cases hv : VwP ep l
  · have hvb : vB ep l = true := vB_true hv
    rw [hvb]
    have HE : Hid (txV ep l = ⟨((itsV ep l.length l).flatMap Q.itB).toArray⟩) := if_pos hvb
    have HM : Hid ((itsV ep l.length l).all Q.mayIt = true) := its_may hv
    have h15 := hv.len
    have HI0 : Hid ((w1.alloc (.cells #[.int .i64 1, .int .i64 ep, .string e0, .int .i64 1, .int .i64 (l.length : Int), .string e0] 49)).ownsRow w1.heap.size 49 3 (.slice (some ⟨w1.heap.size, 0, none⟩) 2 2) 2 (itCells (itsV ep l.length []))) := ⟨by simp [itCells, itsV, It.cells], .inr ⟨w1.heap.size, 2, _, rfl, Nat.le_refl _, alloc_top _ _, Nat.le_refl _, by decide, rfl, rfl⟩⟩
    have HB2 : Hid (Below w.heap.size w (w1.alloc (.cells #[.int .i64 1, .int .i64 ep, .string e0, .int .i64 1, .int .i64 (l.length : Int), .string e0] 49))) := HB1.out.alloc hs1 _
    clear hvb hv
    go_wp2_with fail
    go_loopw [3, 23] (fun o i wr => ∃ k : Nat, k ≤ l.length ∧ i = .int .i64 (k : Int) ∧ Hid (wr.ownsRow w1.heap.size 49 3 o (2 + 3 * k) (itCells (itsV ep l.length (l.take k)))) ∧ Hid (Below w.heap.size w wr) ∧ Hid (w1.heap.size ≤ wr.heap.size)) (fun _ i _ => l.length - (intOf i).toNat)
    case atStart => exact ⟨0, Nat.zero_le _, rfl, HI0, HB2, by show _ ≤ _; simp⟩
    case round =>
      clear HI0 HB2
      obtain ⟨k, hk, rfl, HO, HB, HS⟩ := hrel
      have hsz := HB.out.size
      have hsz1 := HS.out
      by_cases hlk : k < l.length
      · have dk : decide ((k : Int) < l.length) = true := by simp; omega
        obtain ⟨b, off, cap, hvv, hlt, hc1, hc2, c0, c1, c2⟩ := mb_at (HR.out _ HB.out) hlk
        obtain ⟨rfl, -, rfl⟩ := Value.slice.inj hvv
        have HTk : Hid _ := itsV_snoc ep l.length (l.take k) l[k]
        have HTt : Hid (l.take (k + 1) = l.take k ++ [l[k]]) := List.take_succ_eq_append_getElem hlk
        generalize l[k]'hlk = m at *
        obtain ⟨mn, ml, mu⟩ := m
        dsimp only at *
        have HNx : Hid (∀ (v4 : Value) (w4 : World), w4.ownsRow w1.heap.size 49 3 v4 (2 + 3 * k + 3) (itCells (itsV ep l.length (l.take k)) ++ [.int .i64 1, .int .i64 mn, .string e0, .int .i64 1, .int .i64 ml, .string e0, .int .i64 3, .int .i64 (if mu = true then 1 else 0), .string e0]) → Hid (w4.ownsRow w1.heap.size 49 3 v4 (2 + 3 * (k + 1)) (itCells (itsV ep l.length (l.take (k + 1)))))) := fun v4 w4 h => by
          show World.ownsRow _ _ _ _ _ _ _
          rw [HTt.out, HTk.out]
          exact h
        clear hvv HTk HTt HR
        cases mu
        all_goals
          simp only [Bool.false_eq_true, if_false, if_true] at HNx
        · have HOa : Hid (((wr.alloc (.cells #[.int .i64 mn, .int .i64 ml, .bool false] 51)).alloc (.cells #[.int .i64 3, .int .i64 0, .string e0] 49)).ownsRow w1.heap.size 49 3 u3 (2 + 3 * k) (itCells (itsV ep l.length (l.take k)))) := own_belowV (own_belowV HO.out (al_belowV wr _)) (al_belowV _ _)
          have HBa : Hid (Below w.heap.size w ((wr.alloc (.cells #[.int .i64 mn, .int .i64 ml, .bool false] 51)).alloc (.cells #[.int .i64 3, .int .i64 0, .string e0] 49))) := (HB.out.alloc hsz _).alloc (by simp; omega) _
          have hsa : w1.heap.size ≤ ((wr.alloc (.cells #[.int .i64 mn, .int .i64 ml, .bool false] 51)).alloc (.cells #[.int .i64 3, .int .i64 0, .string e0] 49)).heap.size := by simp; omega
          clear HO HB
          go_wp2_with (at_builtin; go_loud (refine wpl_appM ((wr.alloc (.cells #[.int .i64 mn, .int .i64 ml, .bool false] 51)).alloc (.cells #[.int .i64 3, .int .i64 0, .string e0] 49)) rfl (.tmp 31) (.tmp 39) 45 49 rfl i0 _ 3 32 Tryd.underlying45 hi0 hz0 hz1 hz2 rfl (by decide) w1.heap.size u3 (2 + 3 * k) (itCells (itsV ep l.length (l.take k))) rfl HOa.out 3 [.int .i64 1, .int .i64 mn, .string e0, .int .i64 1, .int .i64 ml, .string e0, .int .i64 3, .int .i64 0, .string e0] rfl _ rfl (wr.heap.size + 1 + 1) (by simp) rfl (by simp [Value.oneCell']) (by omega) (by unfold maxLen; omega) hsa ?_; intro v4 w4 hown4 hb4))
          have HO4 := HNx.out _ _ hown4
          have HB4 : Hid (Below w.heap.size w w4) := HBa.out.trans (hb4.mono hs1)
          have HS4 : Hid (w1.heap.size ≤ w4.heap.size) := Nat.le_trans hsa hb4.size
          clear hown4 hb4 HNx HOa
          go_wp2
          go_roundw
          case rel => exact ⟨k + 1, by omega, by simp, HO4, HB4, HS4⟩
          case measure => simp [intOf]; omega
        · have HOa : Hid (((wr.alloc (.cells #[.int .i64 mn, .int .i64 ml, .bool true] 51)).alloc (.cells #[.int .i64 3, .int .i64 1, .string e0] 49)).ownsRow w1.heap.size 49 3 u3 (2 + 3 * k) (itCells (itsV ep l.length (l.take k)))) := own_belowV (own_belowV HO.out (al_belowV wr _)) (al_belowV _ _)
          have HBa : Hid (Below w.heap.size w ((wr.alloc (.cells #[.int .i64 mn, .int .i64 ml, .bool true] 51)).alloc (.cells #[.int .i64 3, .int .i64 1, .string e0] 49))) := (HB.out.alloc hsz _).alloc (by simp; omega) _
          have hsa : w1.heap.size ≤ ((wr.alloc (.cells #[.int .i64 mn, .int .i64 ml, .bool true] 51)).alloc (.cells #[.int .i64 3, .int .i64 1, .string e0] 49)).heap.size := by simp; omega
          clear HO HB
          go_wp2_with (at_builtin; go_loud (refine wpl_appM ((wr.alloc (.cells #[.int .i64 mn, .int .i64 ml, .bool true] 51)).alloc (.cells #[.int .i64 3, .int .i64 1, .string e0] 49)) rfl (.tmp 31) (.tmp 39) 45 49 rfl i0 _ 3 32 Tryd.underlying45 hi0 hz0 hz1 hz2 rfl (by decide) w1.heap.size u3 (2 + 3 * k) (itCells (itsV ep l.length (l.take k))) rfl HOa.out 3 [.int .i64 1, .int .i64 mn, .string e0, .int .i64 1, .int .i64 ml, .string e0, .int .i64 3, .int .i64 1, .string e0] rfl _ rfl (wr.heap.size + 1 + 1) (by simp) rfl (by simp [Value.oneCell']) (by omega) (by unfold maxLen; omega) hsa ?_; intro v4 w4 hown4 hb4))
          have HO4 := HNx.out _ _ hown4
          have HB4 : Hid (Below w.heap.size w w4) := HBa.out.trans (hb4.mono hs1)
          have HS4 : Hid (w1.heap.size ≤ w4.heap.size) := Nat.le_trans hsa hb4.size
          clear hown4 hb4 HNx HOa
          go_wp2
          go_roundw
          case rel => exact ⟨k + 1, by omega, by simp, HO4, HB4, HS4⟩
          case measure => simp [intOf]; omega
      · have hk' : k = l.length := by omega
        subst hk'
        have dk : decide ((l.length : Int) < l.length) = false := by simp
        have hown := HO.out
        rw [List.take_of_length_le (Nat.le_refl _)] at hown
        have hrow : IsRow wr 3 u3 (itsV ep l.length l).length (itCells (itsV ep l.length l)) := by rw [itsV_len]; exact IsRow.own hown
        have HP : Hid (Calls Tryd.prog 21 #[u3] wr fun e w' => e = .returned (.tuple #[.string ⟨((itsV ep l.length l).flatMap Q.itB).toArray⟩, .int .i64 0]) ∧ Below wr.heap.size wr w') := Q.put_ok u3 _ wr hrow (HT.out _ HB.out) (by rw [itsV_len]; omega) (fun x hx => by
          have he : x.s.size = 0 := by
            simp only [itsV, List.mem_cons] at hx
            rcases hx with rfl | rfl | hx
            · rfl
            · rfl
            · obtain ⟨m, hm, hx⟩ := List.mem_flatMap.1 hx
              simp only [itM, List.mem_cons, List.not_mem_nil, or_false] at hx
              rcases hx with rfl | rfl | rfl <;> rfl
          omega) HM.out
        clear hown HO HR HT HM hrow
        go_wp2_with fail
        refine HP.out.mono ?_
        rintro e w5 ⟨rfl, hb5⟩
        have HB5 : Hid (Below w.heap.size w w5) := HB.out.trans (hb5.mono hsz)
        clear hb5 HP
        generalize (⟨((itsV ep l.length l).flatMap Q.itB).toArray⟩ : ByteArray) = TX at *
        go_wp2
        go_ret
        exact ⟨by rw [HE.out]; rfl, HB5.out⟩
  · have hvb : vB ep l = false := vB_false hv
    rw [hvb]
    have HE : Hid (txV ep l = e0) := if_neg (by rw [hvb]; decide)
    clear hvb hv HR HT
    go_wp2
    go_ret
    exact ⟨by rw [HE.out]; rfl, HB1.out⟩
end Go.Proofs.YtciibeldmcakeaaDoor
