/- The law's refs and few; the reference's Put. -/
import Derived.Test.YtjgefiomcfpmeaaDoorOne
namespace Go.Proofs.YtjgefiomcfpmeaaDoor
open Go.RowKit

/-- An append of one element of several cells onto a row that the call owns. -/
theorem wpl_appk {P : Program} (wr : World) {ops : Array Oper} {rest : List Oper} {o : Oper} {a : Act} {Q : Exit → Act → World → Prop} (hgd : o.guard = none) (s x : Operand) (t e : TypeId)
    (ho : o.op = .call { callee := .builtin .append, args := #[s, x], argTypes := #[t, t] })
    (i : TypeInfo) (z : Value) (size bytes : Nat) (ht : P.underlying t = some (.slice e)) (hi : P.info? e = some i) (hz : i.zero = some z)
    (hsize : i.size = size) (hby : i.bytes = bytes) (hzs : z.cells.size = size) (hsz : 0 < size)
    (base : Nat) (v : Value) (n : Nat) (xs : List Value) (hs : a.eval s = v) (hown : wr.ownsRow base e size v n xs)
    (es : List Value) (hes : es.length = size) (C : Array Value) (hC : C = es.toArray) (hx : a.eval x = .slice (some ⟨wr.heap.size, 0, none⟩) 1 1) (h1 : ∀ u ∈ es, u.oneCell' = true)
    (hbytes : (n + 1) * bytes ≤ 140737488355328) (h63 : n + 1 ≤ maxLen) (hbase : base ≤ wr.heap.size)
    (h : ∀ v' w', w'.ownsRow base e size v' (n + 1) (xs ++ es) → Below base wr w' → wpList P ops Q rest (a.put o.dst v') w') :
    wpList P ops Q (o :: rest) a (wr.alloc (.cells C e)) := by
  subst hC
  refine wpList_append_own _ hgd s x t ho base e i z size bytes ht hi hz hsize hby hzs hsz v n xs hs (hown.alloc _) ⟨wr.heap.size, 0, none⟩ 1 1 es hx (by omega) ?_ h1 h63 hbytes ?_ ?_
  · intro j u hj
    have : (⟨wr.heap.size, 0, none⟩ : Addr).add j = ⟨wr.heap.size, j, none⟩ := by unfold Addr.add; split <;> simp_all
    rw [this]
    simpa using hj
  · simp; omega
  · intro v' w' h2 h3 h4
    refine h v' w' h2 ?_
    exact ((Below.refl _ _).alloc hbase _).grown h3 (by simp; omega) (fun k hk => (hown.lt k hk).1)

theorem info_item : (Tryd.prog.info? 65).map (fun i => (i.zero, i.size, i.bytes)) = some (some (.agg #[.int .i64 0, .int .i64 0, .string ⟨#[]⟩]), 3, 32) := by kernel_rfl

set_option maxHeartbeats 1000000 in
/-- refs: the same items, in a row of the call's own. -/
theorem refs_any (v : Value) (l : List It) (w : World) (h : IsRow w 3 v l.length (itCells l)) (hl : l.length ≤ 100000) :
    Calls Tryd.prog 10 #[v] w fun e w' => ∃ v', e = .returned v' ∧ IsRow w' 3 v' l.length (itCells l) ∧ Below w.heap.size w w' := by
  obtain ⟨a0, cap0, rfl⟩ := h.form
  obtain ⟨i0, hi0, hz0, hz1, hz2⟩ := info_parts info_item
  go_enter Tryd.func10, Tryd.ntmps10
  go_wp2
  go_loopw [3, 4] (fun t i wr => ∃ k : Nat, k ≤ l.length ∧ i = .int .i64 k ∧ wr.ownsRow w.heap.size 65 3 t k (itCells (l.take k)) ∧ Below w.heap.size w wr) (fun _ i _ => l.length - (intOf i).toNat)
  case atStart => exact ⟨0, Nat.zero_le _, rfl, World.ownsRow_nil _ _ _ _, Below.refl _ _⟩
  case round =>
    obtain ⟨k, hk, rfl, hown, hb⟩ := hrel
    by_cases hlt : k < l.length
    · obtain ⟨b, off, rfl, hbl, c0, c1, c2⟩ := items_at (h.below hb) k hlt
      have hi : (k : Int) < l.length := by omega
      have HF : Hid (itCells (l.take k) ++ It.cells l[k] = itCells (l.take (k + 1))) := by show _ = _; rw [List.take_succ_eq_append_getElem hlt, itCells_snoc]
      go_wp2_with (at_builtin; refine wpl_appk _ rfl (.tmp 11) (.tmp 16) 30 65 rfl i0 _ 3 32 Tryd.underlying30 hi0 hz0 hz1 hz2 rfl (by decide) _ _ _ _ rfl hown (It.cells l[k]) rfl _ rfl rfl (by intro u hu; simp [It.cells] at hu; rcases hu with rfl | rfl | rfl <;> rfl) (by omega) (by unfold maxLen; omega) hb.size ?_; intro v1 w1 hown1 hb1)
      have H1 : Hid (w1.ownsRow w.heap.size 65 3 v1 (k + 1) (itCells (l.take (k + 1)))) := by rw [← HF.out]; exact hown1
      have hbb : Hid (Below w.heap.size w w1) := hb.trans hb1
      clear c0 c1 c2 hown hown1 hb1
      go_wp2
      go_roundw
      case rel => exact ⟨k + 1, by omega, by go_num, H1.out, hbb.out⟩
      case measure => simp [intOf]; omega
    · have hk' : k = l.length := by omega
      subst hk'
      have e : l.take l.length = l := List.take_of_length_le (Nat.le_refl _)
      rw [e] at hown
      have H1 : Hid (wr.ownsRow w.heap.size 65 3 u3 l.length (itCells l)) := hown
      clear hown
      go_wp2
      go_ret
      exact ⟨_, rfl, IsRow.own H1.out, hb⟩

/-- What few lets by: no more than 201 items, their texts short. -/
def Small (l : List It) : Prop := l.length ≤ 201 ∧ ∀ x ∈ l, x.s.size ≤ 20000

def FewPost (l : List It) (w : World) (e : Ending) (w' : World) : Prop := ∃ b : Bool, e = .returned (.bool b) ∧ (b = true → Small l) ∧ Below w.heap.size w w'

set_option maxHeartbeats 1000000 in
theorem few_any (v : Value) (l : List It) (w : World) (h : IsRow w 3 v l.length (itCells l)) (_hl : l.length ≤ 140737488355328) (hs : ∀ x ∈ l, x.s.size ≤ 140737488355328) :
    Calls Tryd.prog 8 #[v] w fun e w' => FewPost l w e w' := by
  obtain ⟨a0, cap0, rfl⟩ := h.form
  go_enter Tryd.func8, Tryd.ntmps8
  go_wp2
  go_loopw [3, 4] (fun t i wr => ∃ k m : Nat, k ≤ l.length ∧ k ≤ 201 ∧ m ≤ 40000 ∧ i = .int .i64 k ∧ t = .int .i64 m ∧ (∀ x ∈ l.take k, x.s.size ≤ 20000) ∧ Below w.heap.size w wr) (fun _ i _ => l.length - (intOf i).toNat)
  case atStart => exact ⟨0, 0, Nat.zero_le _, by omega, by omega, rfl, rfl, by simp, Below.refl _ _⟩
  case round =>
    obtain ⟨k, m, hk, hk2, hm, rfl, rfl, hall, hb⟩ := hrel
    have HA : Hid (∀ x ∈ l.take k, x.s.size ≤ 20000) := hall
    clear hall
    by_cases hlt : k < l.length
    · obtain ⟨b, off, rfl, hbl, c0, c1, c2⟩ := items_at (h.below hb) k hlt
      have hi : (k : Int) < l.length := by omega
      have hxs := hs _ (List.getElem_mem hlt)
      clear c0 c1
      by_cases g1 : 200 < k
      · have g1' : (200 : Int) < k := by omega
        go_wp2
        go_ret
        exact ⟨false, rfl, (fun e => by cases e), hb⟩
      · have g1' : ¬ (200 : Int) < k := by omega
        by_cases g2 : 20000 < l[k].s.size
        · have g2' : (20000 : Int) < l[k].s.size := by omega
          go_wp2
          go_ret
          exact ⟨false, rfl, (fun e => by cases e), hb⟩
        · have g2' : ¬ (20000 : Int) < l[k].s.size := by omega
          by_cases g3 : 20000 < m
          · have g3' : (20000 : Int) < m := by omega
            go_wp2
            go_ret
            exact ⟨false, rfl, (fun e => by cases e), hb⟩
          · have g3' : ¬ (20000 : Int) < m := by omega
            have HN : Hid (∀ x ∈ l.take (k + 1), x.s.size ≤ 20000) := by
              show ∀ x ∈ l.take (k + 1), x.s.size ≤ 20000
              intro x hx
              rw [List.take_succ_eq_append_getElem hlt, List.mem_append] at hx
              rcases hx with hx | hx
              · exact HA.out x hx
              · simp at hx; subst hx; omega
            go_wp2
            go_roundw
            case rel => exact ⟨k + 1, m + l[k].s.size, by omega, by omega, by omega, by go_num, by go_num, HN.out, hb⟩
            case measure => simp [intOf]; omega
    · have hk' : k = l.length := by omega
      subst hk'
      go_wp2
      go_ret
      exact ⟨true, rfl, fun _ => ⟨hk2, fun x hx => HA.out x (by rw [List.take_of_length_le (Nat.le_refl _)]; exact hx)⟩, hb⟩

set_option maxHeartbeats 1000000 in
theorem refPut_bad (v : Value) (l : List It) (w : World) (h : IsRow w 3 v l.length (itCells l)) (hl : l.length ≤ 4096) (hs : ∀ x ∈ l, x.s.size ≤ 140737488355328) (hbad : l.all mayIt = false) :
    Calls Tryd.prog 9 #[v] w fun e w' => e = .returned (.tuple #[.string ⟨#[]⟩, .int .i64 1]) ∧ Below w.heap.size w w' := by
  obtain ⟨a0, cap0, rfl⟩ := h.form
  have hl' : ¬ (4096 : Int) < l.length := by omega
  have HB : Hid (l.all mayIt = false) := hbad
  clear hbad
  go_enter Tryd.func9, Tryd.ntmps9
  go_wp2
  go_loopw [4] (fun i wr => ∃ k : Nat, k ≤ l.length ∧ i = .int .i64 k ∧ (l.take k).all mayIt = true ∧ Below w.heap.size w wr) (fun i _ => l.length - (intOf i).toNat)
  case atStart => exact ⟨0, Nat.zero_le _, rfl, rfl, Below.refl _ _⟩
  case round =>
    obtain ⟨k, hk, rfl, hall, hb⟩ := hrel
    have HA : Hid ((l.take k).all mayIt = true) := hall
    clear hall
    by_cases hlt : k < l.length
    · obtain ⟨b, off, rfl, hbl, c0, c1, c2⟩ := items_at (h.below hb) k hlt
      have hi : (k : Int) < l.length := by omega
      have hxs := hs _ (List.getElem_mem hlt)
      go_wp2_with fail
      refine (refMay_any _ _ _ _ hxs).mono ?_
      rintro e w1 ⟨rfl, hb1⟩
      have hbb : Hid (Below w.heap.size w w1) := hb.trans (hb1.mono hb.size)
      clear c0 c1 c2 hb1
      cases hmm : mayB l[k].k l[k].n l[k].s
      · clear hmm
        go_wp2
        go_ret2
        exact ⟨rfl, hbb.out⟩
      · have HM : Hid (mayIt l[k] = true) := hmm
        clear hmm
        go_wp2
        go_roundw
        case rel => exact ⟨k + 1, by omega, by go_num, all_take hlt HA.out HM.out, hbb.out⟩
        case measure => simp [intOf]; omega
    · exfalso
      have e : l.take k = l := List.take_of_length_le (by omega)
      have h1 := HA.out
      rw [e, HB.out] at h1
      cases h1

set_option maxHeartbeats 2000000 in
theorem refPut_ok (v : Value) (l : List It) (w : World) (h : IsRow w 3 v l.length (itCells l)) (hl : l.length ≤ 4096) (hs : ∀ x ∈ l, x.s.size ≤ 70000) (hok : l.all mayIt = true) :
    Calls Tryd.prog 9 #[v] w fun e w' => e = .returned (.tuple #[.string ⟨(l.flatMap itB).toArray⟩, .int .i64 0]) ∧ Below w.heap.size w w' := by
  obtain ⟨a0, cap0, rfl⟩ := h.form
  have hl' : ¬ (4096 : Int) < l.length := by omega
  have HB : Hid (l.all mayIt = true) := hok
  clear hok
  go_enter Tryd.func9, Tryd.ntmps9
  go_wp2
  go_loopw [4] (fun i wr => ∃ k : Nat, k ≤ l.length ∧ i = .int .i64 k ∧ Below w.heap.size w wr) (fun i _ => l.length - (intOf i).toNat)
  case atStart => exact ⟨0, Nat.zero_le _, rfl, Below.refl _ _⟩
  case round =>
    obtain ⟨k, hk, rfl, hb⟩ := hrel
    by_cases hlt : k < l.length
    · obtain ⟨b, off, rfl, hbl, c0, c1, c2⟩ := items_at (h.below hb) k hlt
      have hi : (k : Int) < l.length := by omega
      have hxs := hs _ (List.getElem_mem hlt)
      have HM : Hid (mayB l[k].k l[k].n l[k].s = true) := List.all_eq_true.1 HB.out _ (List.getElem_mem hlt)
      go_wp2_with fail
      refine (refMay_any _ _ _ _ (by omega)).mono ?_
      rintro e w1 ⟨rfl, hb1⟩
      have hbb : Hid (Below w.heap.size w w1) := hb.trans (hb1.mono hb.size)
      clear c0 c1 c2 hb1
      rw [HM.out]
      go_wp2
      go_roundw
      case rel => exact ⟨k + 1, by omega, by go_num, hbb.out⟩
      case measure => simp [intOf]; omega
    · have hk' : k = l.length := by omega
      subst hk'
      obtain ⟨W1, rfl⟩ : ∃ W1, W1 = wr := ⟨_, rfl⟩
      have hr1 := h.below hb
      have hs1 := hb.size
      go_wp2_with fail
      go_loopw [5, 6] (fun t i wx => ∃ k : Nat, k ≤ l.length ∧ i = .int .i64 k ∧ t = .string ⟨((l.take k).flatMap itB).toArray⟩ ∧ Below W1.heap.size W1 wx) (fun _ i _ => l.length - (intOf i).toNat)
      case atStart => exact ⟨0, Nat.zero_le _, rfl, rfl, Below.refl _ _⟩
      case round =>
        obtain ⟨k, hk, rfl, rfl, hbx⟩ := hrel
        have hsx := hbx.size
        by_cases hlt : k < l.length
        · obtain ⟨b, off, rfl, hbl, c0, c1, c2⟩ := items_at (hr1.below hbx) k hlt
          have hi : (k : Int) < l.length := by omega
          have HM : Hid (mayB l[k].k l[k].n l[k].s = true) := List.all_eq_true.1 HB.out _ (List.getElem_mem hlt)
          have hxs := hs _ (List.getElem_mem hlt)
          have hfl := flat_len (l.take k) (all_take' l k HB.out)
          have hil := itB_len l[k] HM.out
          have hlk : (l.take k).length ≤ 4096 := by simp; omega
          have HF : Hid ((⟨((l.take k).flatMap itB).toArray⟩ : ByteArray) ++ ⟨(itB l[k]).toArray⟩ = ⟨((l.take (k + 1)).flatMap itB).toArray⟩) := by show _ = _; rw [List.take_succ_eq_append_getElem hlt, List.flatMap_append, ba_append]; simp
          have hsum : ¬ 9223372036854775807 < (⟨((l.take k).flatMap itB).toArray⟩ : ByteArray).size + (⟨(itB l[k]).toArray⟩ : ByteArray).size := by
            have e1 : (⟨((l.take k).flatMap itB).toArray⟩ : ByteArray).size = ((l.take k).flatMap itB).length := by simp [ByteArray.size]
            have e2 : (⟨(itB l[k]).toArray⟩ : ByteArray).size = (itB l[k]).length := by simp [ByteArray.size]
            omega
          go_wp2_with fail
          refine (one_any _ _ _ _ HM.out hxs).mono ?_
          rintro e w2 ⟨rfl, hb2⟩
          have hbb : Hid (Below W1.heap.size W1 w2) := hbx.trans (hb2.mono hsx)
          generalize hA : (⟨((l.take k).flatMap itB).toArray⟩ : ByteArray) = A at *
          generalize hC : (⟨(itB ⟨l[k].k, l[k].n, l[k].s⟩).toArray⟩ : ByteArray) = C at *
          have HC : Hid (A ++ C = ⟨((l.take (k + 1)).flatMap itB).toArray⟩) := HF
          have hsum' : ¬ 9223372036854775807 < A.size + C.size := hsum
          clear c0 c1 c2 hb2 hfl hA hC hsum HF
          go_wp2
          go_roundw
          case rel => exact ⟨k + 1, by omega, by go_num, by rw [HC.out], hbb.out⟩
          case measure => simp [intOf]; omega
        · have hk' : k = l.length := by omega
          subst hk'
          have e : l.take l.length = l := List.take_of_length_le (Nat.le_refl _)
          have E : Hid ((⟨((l.take l.length).flatMap itB).toArray⟩ : ByteArray) = ⟨(l.flatMap itB).toArray⟩) := by show _ = _; rw [e]
          have hbf : Hid (Below w.heap.size w wr) := hb.trans (hbx.mono hs1)
          clear e
          go_wp2
          go_ret2
          exact ⟨by rw [← E.out]; rfl, hbf.out⟩
end Go.Proofs.YtjgefiomcfpmeaaDoor
