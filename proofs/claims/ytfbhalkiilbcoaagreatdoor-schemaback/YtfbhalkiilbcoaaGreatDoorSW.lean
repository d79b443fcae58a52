/- schema.Text, schema.AttrText: their walks. -/
import Derived.Test.YtfbhalkiilbcoaaGreatDoorSR
import Derived.Test.YtfbhalkiilbcoaaGreatDoorEL
import Derived.Test.YtfbhalkiilbcoaaGreatDoorLB
import Derived.Test.YtfbhalkiilbcoaaGreatDoorVB
namespace Go.Proofs.YtfbhalkiilbcoaaGreatDoor
open Go.RowKit

theorem may1S (n : Int) (h1 : 0 ≤ n) (h2 : n ≤ 1099511627775) : Q.mayIt ⟨1, n, e0S⟩ = true := by
  unfold Q.mayIt Q.mayB
  rw [if_pos rfl, Q.isEmpty_to e0S rfl, decide_eq_true (show 0 ≤ n ∧ n ≤ 4611686018427387903 by omega)]
  rfl
theorem may3bS (b : Bool) : Q.mayIt ⟨3, if b = true then 1 else 0, e0S⟩ = true := by
  unfold Q.mayIt Q.mayB
  rw [if_neg (show ¬ (3 : Int) = 1 by decide), if_neg (show ¬ (3 : Int) = 2 by decide), if_pos rfl, Q.isEmpty_to e0S rfl]
  cases b <;> rfl
theorem may4S {s : ByteArray} (h : s.size ≤ 65536) : Q.mayIt ⟨4, 0, s⟩ = true := by
  unfold Q.mayIt Q.mayB
  rw [if_neg (show ¬ (4 : Int) = 1 by decide), if_neg (show ¬ (4 : Int) = 2 by decide), if_neg (show ¬ (4 : Int) = 3 by decide), if_pos rfl]
  exact decide_eq_true ⟨rfl, h⟩
theorem itF_may {x : Fd} (h : mayF x = true) (hn : x.n.size ≤ 65536) : ∀ y ∈ itF x, Q.mayIt y = true := by
  have hk := may_k h
  intro y hy
  simp only [itF, List.mem_cons, List.not_mem_nil, or_false] at hy
  rcases hy with rfl | rfl | rfl
  · exact may4S hn
  · exact may1S _ (by omega) (by omega)
  · exact may3bS _
theorem itS_may {l : List Fd} (h : chkF l = true) (hn : ∀ x ∈ l, x.n.size ≤ 65536) : (itS l).all Q.mayIt = true := by
  have h24 := chk_len h
  rw [List.all_eq_true]
  intro x hx
  simp only [itS, List.mem_cons] at hx
  rcases hx with rfl | hx
  · exact may1S _ (by omega) (by omega)
  · obtain ⟨m, hm, hx⟩ := List.mem_flatMap.1 hx
    obtain ⟨i, hi, rfl⟩ := List.mem_iff_getElem.1 hm
    exact itF_may (chk_ok h i hi).1 (hn _ hm) x hx
def itN (n : Nat) (l : List Fd) : List It := ⟨1, (n : Int), e0S⟩ :: l.flatMap itF
theorem itN_len (n : Nat) (l : List Fd) : (itN n l).length = 1 + 3 * l.length := by
  have : (l.flatMap itF).length = 3 * l.length := by
    induction l with
    | nil => rfl
    | cons x l ih => rw [List.flatMap_cons, List.length_append, ih]; simp [itF]; omega
  simp [itN, this]
  omega
theorem itN_snoc (n : Nat) (l : List Fd) (x : Fd) : itCells (itN n (l ++ [x])) = itCells (itN n l) ++ [.int .i64 4, .int .i64 0, .string x.n, .int .i64 1, .int .i64 x.k, .string e0S, .int .i64 3, .int .i64 (if x.m = true then 1 else 0), .string e0S] := by
  simp [itCells, itN, itF, It.cells]
theorem info_itS : (Tryz.prog.info? 63).map (fun i => (i.zero, i.size, i.bytes)) = some (some (.agg #[.int .i64 0, .int .i64 0, .string ⟨#[]⟩]), 3, 32) := by kernel_rfl
/-- An append of some elements that were just laid, onto a row of the call's own. -/
theorem wpl_appS {P : Program} (wr : World) {ops : Array Oper} {rest : List Oper} {o : Oper} {a : Act} {Q : Exit → Act → World → Prop} (hgd : o.guard = none) (s x : Operand) (t e : TypeId)
    (ho : o.op = .call { callee := .builtin .append, args := #[s, x], argTypes := #[t, t] })
    (i : TypeInfo) (z : Value) (size bytes : Nat) (ht : P.underlying t = some (.slice e)) (hi : P.info? e = some i) (hz : i.zero = some z)
    (hsize : i.size = size) (hby : i.bytes = bytes) (hzs : z.cells.size = size) (hsz : 0 < size)
    (base : Nat) (v : Value) (n : Nat) (xs : List Value) (hs : a.eval s = v) (hown : wr.ownsRow base e size v n xs) (m : Nat)
    (es : List Value) (hes : es.length = m * size) (C : Array Value) (hC : C = es.toArray) (N : Nat) (hN : N = wr.heap.size) (hx : a.eval x = .slice (some ⟨N, 0, none⟩) m m) (h1 : ∀ u ∈ es, u.oneCell' = true)
    (hbytes : (n + m) * bytes ≤ 140737488355328) (h63 : n + m ≤ maxLen) (hbase : base ≤ wr.heap.size)
    (h : ∀ v' w', w'.ownsRow base e size v' (n + m) (xs ++ es) → Below base wr w' → wpList P ops Q rest (a.put o.dst v') w') :
    wpList P ops Q (o :: rest) a (wr.alloc (.cells C e)) := by
  subst hN
  subst hC
  refine wpList_append_own _ hgd s x t ho base e i z size bytes ht hi hz hsize hby hzs hsz v n xs hs (hown.alloc _) ⟨wr.heap.size, 0, none⟩ m m es hx hes ?_ h1 h63 hbytes ?_ ?_
  · intro j u hj
    have : (⟨wr.heap.size, 0, none⟩ : Addr).add j = ⟨wr.heap.size, j, none⟩ := by unfold Addr.add; split <;> simp_all
    rw [this]
    simp
    exact hj
  · simp; omega
  · intro v' w' h2 h3 _
    exact h v' w' h2 (((Below.refl _ _).alloc hbase _).grown h3 (by simp; omega) (fun k hk => (hown.lt k hk).1))
set_option maxRecDepth 100000 in
set_option maxHeartbeats 2000000 in
theorem textS_any (v : Value) (l : List Fd) (w : World) (hr : IsRow w 3 v l.length (fCells l)) (hl : l.length ≤ 1000000) (hn : ∀ x ∈ l, x.n.size ≤ 65536) (hW : W4 w) (hQ : Q.Tab w) :
    Calls Tryz.prog 12 #[v] w fun e w' => e = .returned (.string (textS l)) ∧ Below w.heap.size w w' := by
  obtain ⟨a0, cap0, rfl⟩ := hr.form
  obtain ⟨i0, hi0, hz0, hz1, hz2⟩ := info_parts info_itS
  have HR : Hid (∀ w', Below w.heap.size w w' → IsRow w' 3 (.slice a0 l.length cap0) l.length (fCells l)) := fun w' h => hr.below h
  have HT : Hid (∀ w', Below w.heap.size w w' → Q.Tab w') := fun w' h => hQ.below h hQ.size
  have HN : Hid (∀ x ∈ l, x.n.size ≤ 65536) := hn
  have HC : Hid (Calls Tryz.prog 8 #[.slice a0 l.length cap0] w fun e w' => e = .returned (.bool (chkF l)) ∧ Below w.heap.size w w') := checkF_any _ l w hr hl (fun x hx => Nat.le_trans (hn x hx) (by decide)) hW.t hW.m
  clear hr hQ hW hn
  cases hv : chkF l
  · rw [hv] at HC
    have HE : Hid (textS l = e0S) := if_neg (by rw [hv]; decide)
    clear hv HR HT
    go_enter Tryz.func12, Tryz.ntmps12
    go_wp2_with (refine HC.out.mono ?_; rintro e w1 ⟨rfl, hb1⟩)
    go_ret
    exact ⟨by rw [HE.out]; rfl, hb1⟩
  · rw [hv] at HC
    have HE : Hid (textS l = ⟨((itN l.length l).flatMap Q.itB).toArray⟩) := if_pos hv
    have HM : Hid ((itN l.length l).all Q.mayIt = true) := itS_may hv HN.out
    have h24 := chk_len hv
    clear hv
    go_enter Tryz.func12, Tryz.ntmps12
    go_wp2_with fail
    refine HC.out.mono ?_
    rintro e w1 ⟨rfl, hb1⟩
    have HB1 : Hid (Below w.heap.size w w1) := hb1
    have hs1 := hb1.size
    have HI0 : Hid ((w1.alloc (.cells #[.int .i64 1, .int .i64 (l.length : Int), .string e0S] 63)).ownsRow w1.heap.size 63 3 (.slice (some ⟨w1.heap.size, 0, none⟩) 1 1) 1 (itCells (itN l.length []))) := ⟨by simp [itCells, itN, It.cells], .inr ⟨w1.heap.size, 1, _, rfl, Nat.le_refl _, alloc_topS _ _, Nat.le_refl _, by decide, rfl, rfl⟩⟩
    have HB2 : Hid (Below w.heap.size w (w1.alloc (.cells #[.int .i64 1, .int .i64 (l.length : Int), .string e0S] 63))) := HB1.out.alloc hs1 _
    clear HC hb1
    go_wp2_with fail
    go_loopw [3, 18] (fun o i wr => ∃ k : Nat, k ≤ l.length ∧ i = .int .i64 (k : Int) ∧ Hid (wr.ownsRow w1.heap.size 63 3 o (1 + 3 * k) (itCells (itN l.length (l.take k)))) ∧ Hid (Below w.heap.size w wr) ∧ Hid (w1.heap.size ≤ wr.heap.size)) (fun _ i _ => l.length - (intOf i).toNat)
    case atStart => exact ⟨0, Nat.zero_le _, rfl, HI0, HB2, by show _ ≤ _; simp⟩
    case round =>
      clear HI0 HB2
      obtain ⟨k, hk, rfl, HO, HB, HS⟩ := hrel
      have hsz := HB.out.size
      have hsz1 := HS.out
      by_cases hlk : k < l.length
      · have dk : decide ((k : Int) < l.length) = true := by simp; omega
        obtain ⟨b, off, hvv, hlt, hc1, hcc⟩ := f_at (HR.out _ HB.out) (by omega)
        subst hvv
        obtain ⟨c0, c1, c2⟩ := hcc k hlk
        have HTk : Hid _ := itN_snoc l.length (l.take k) l[k]
        have HTt : Hid (l.take (k + 1) = l.take k ++ [l[k]]) := List.take_succ_eq_append_getElem hlk
        generalize l[k]'hlk = m at *
        obtain ⟨mn, mk, mu⟩ := m
        dsimp only at *
        have HNx : Hid (∀ (v4 : Value) (w4 : World), w4.ownsRow w1.heap.size 63 3 v4 (1 + 3 * k + 3) (itCells (itN l.length (l.take k)) ++ [.int .i64 4, .int .i64 0, .string mn, .int .i64 1, .int .i64 mk, .string e0S, .int .i64 3, .int .i64 (if mu = true then 1 else 0), .string e0S]) → Hid (w4.ownsRow w1.heap.size 63 3 v4 (1 + 3 * (k + 1)) (itCells (itN l.length (l.take (k + 1)))))) := fun v4 w4 h => by
          show World.ownsRow _ _ _ _ _ _ _
          rw [HTt.out, HTk.out]
          exact h
        clear hcc HTk HTt HR
        cases mu
        all_goals
          simp only [Bool.false_eq_true, if_false, if_true] at HNx
        · have HOa : Hid (((wr.alloc (.cells #[.string mn, .int .i64 mk, .bool false] 45)).alloc (.cells #[.int .i64 3, .int .i64 0, .string e0S] 63)).ownsRow w1.heap.size 63 3 u3 (1 + 3 * k) (itCells (itN l.length (l.take k)))) := own_belowE (own_belowE HO.out (al_b wr _)) (al_b _ _)
          have HBa : Hid (Below w.heap.size w ((wr.alloc (.cells #[.string mn, .int .i64 mk, .bool false] 45)).alloc (.cells #[.int .i64 3, .int .i64 0, .string e0S] 63))) := (HB.out.alloc hsz _).alloc (by simp; omega) _
          have hsa : w1.heap.size ≤ ((wr.alloc (.cells #[.string mn, .int .i64 mk, .bool false] 45)).alloc (.cells #[.int .i64 3, .int .i64 0, .string e0S] 63)).heap.size := by simp; omega
          clear HO HB
          go_wp2_with (at_builtin; go_loud (refine wpl_appS ((wr.alloc (.cells #[.string mn, .int .i64 mk, .bool false] 45)).alloc (.cells #[.int .i64 3, .int .i64 0, .string e0S] 63)) rfl (.tmp 26) (.tmp 34) 64 63 rfl i0 _ 3 32 Tryz.underlying64 hi0 hz0 hz1 hz2 rfl (by decide) w1.heap.size u3 (1 + 3 * k) (itCells (itN l.length (l.take k))) rfl HOa.out 3 [.int .i64 4, .int .i64 0, .string mn, .int .i64 1, .int .i64 mk, .string e0S, .int .i64 3, .int .i64 0, .string e0S] rfl _ rfl (wr.heap.size + 1 + 1) (by simp) rfl (by simp [Value.oneCell']) (by omega) (by unfold maxLen; omega) hsa ?_; intro v4 w4 hown4 hb4))
          have HO4 := HNx.out _ _ hown4
          have HB4 : Hid (Below w.heap.size w w4) := HBa.out.trans (hb4.mono hs1)
          have HS4 : Hid (w1.heap.size ≤ w4.heap.size) := Nat.le_trans hsa hb4.size
          clear hown4 hb4 HNx HOa
          go_wp2
          go_roundw
          case rel => exact ⟨k + 1, by omega, by simp, HO4, HB4, HS4⟩
          case measure => simp [intOf]; omega
        · have HOa : Hid (((wr.alloc (.cells #[.string mn, .int .i64 mk, .bool true] 45)).alloc (.cells #[.int .i64 3, .int .i64 1, .string e0S] 63)).ownsRow w1.heap.size 63 3 u3 (1 + 3 * k) (itCells (itN l.length (l.take k)))) := own_belowE (own_belowE HO.out (al_b wr _)) (al_b _ _)
          have HBa : Hid (Below w.heap.size w ((wr.alloc (.cells #[.string mn, .int .i64 mk, .bool true] 45)).alloc (.cells #[.int .i64 3, .int .i64 1, .string e0S] 63))) := (HB.out.alloc hsz _).alloc (by simp; omega) _
          have hsa : w1.heap.size ≤ ((wr.alloc (.cells #[.string mn, .int .i64 mk, .bool true] 45)).alloc (.cells #[.int .i64 3, .int .i64 1, .string e0S] 63)).heap.size := by simp; omega
          clear HO HB
          go_wp2_with (at_builtin; go_loud (refine wpl_appS ((wr.alloc (.cells #[.string mn, .int .i64 mk, .bool true] 45)).alloc (.cells #[.int .i64 3, .int .i64 1, .string e0S] 63)) rfl (.tmp 26) (.tmp 34) 64 63 rfl i0 _ 3 32 Tryz.underlying64 hi0 hz0 hz1 hz2 rfl (by decide) w1.heap.size u3 (1 + 3 * k) (itCells (itN l.length (l.take k))) rfl HOa.out 3 [.int .i64 4, .int .i64 0, .string mn, .int .i64 1, .int .i64 mk, .string e0S, .int .i64 3, .int .i64 1, .string e0S] rfl _ rfl (wr.heap.size + 1 + 1) (by simp) rfl (by simp [Value.oneCell']) (by omega) (by unfold maxLen; omega) hsa ?_; intro v4 w4 hown4 hb4))
          have HO4 := HNx.out _ _ hown4
          have HB4 : Hid (Below w.heap.size w w4) := HBa.out.trans (hb4.mono hs1)
          have HS4 : Hid (w1.heap.size ≤ w4.heap.size) := Nat.le_trans hsa hb4.size
          clear hown4 hb4 HNx HOa
          go_wp2
          go_roundw
          case rel => exact ⟨k + 1, by omega, by simp, HO4, HB4, HS4⟩
          case measure => simp [intOf]; omega
      · have hk' : k = l.length := by omega
        subst hk'
        have dk : decide ((l.length : Int) < l.length) = false := by simp
        have hown := HO.out
        rw [List.take_of_length_le (Nat.le_refl _)] at hown
        have hrow : IsRow wr 3 u3 (itN l.length l).length (itCells (itN l.length l)) := by rw [itN_len]; exact IsRow.own hown
        have HP : Hid (Calls Tryz.prog 32 #[u3] wr fun e w' => e = .returned (.tuple #[.string ⟨((itN l.length l).flatMap Q.itB).toArray⟩, .int .i64 0]) ∧ Below wr.heap.size wr w') := Q.put_ok u3 _ wr hrow (HT.out _ HB.out) (by rw [itN_len]; omega) (fun x hx => by
          have he : x.s.size ≤ 65536 := by
            simp only [itN, List.mem_cons] at hx
            rcases hx with rfl | hx
            · show 0 ≤ _
              exact Nat.zero_le _
            · obtain ⟨m, hm, hx⟩ := List.mem_flatMap.1 hx
              simp only [itF, List.mem_cons, List.not_mem_nil, or_false] at hx
              rcases hx with rfl | rfl | rfl
              · exact HN.out m hm
              · show 0 ≤ _
                exact Nat.zero_le _
              · show 0 ≤ _
                exact Nat.zero_le _
          omega) HM.out
        clear hown HO HR HT HM hrow HN
        go_wp2_with fail
        refine HP.out.mono ?_
        rintro e w5 ⟨rfl, hb5⟩
        have HB5 : Hid (Below w.heap.size w w5) := HB.out.trans (hb5.mono hsz)
        clear hb5 HP
        generalize (⟨((itN l.length l).flatMap Q.itB).toArray⟩ : ByteArray) = TX at *
        go_wp2
        go_ret
        exact ⟨by rw [HE.out]; rfl, HB5.out⟩
end Go.Proofs.YtfbhalkiilbcoaaGreatDoor
