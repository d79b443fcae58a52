/- schema.readMany at fields and at attributes; schema.Read, ReadAttrs: their walks. -/
import Derived.Test.YtfbhalkiilbcoaaGreatDoorSR
import Derived.Test.YtfbhalkiilbcoaaGreatDoorEJ
import Derived.Test.YtfbhalkiilbcoaaGreatDoorEL
import Derived.Deep.DeepCutAuto
namespace Go.Proofs.YtfbhalkiilbcoaaGreatDoor
open Go.RowKit

/-- What is read, in the end. -/
def finE {α : Type} (n : Int) : Except Int (List α × ByteArray) → Except Int (List α × ByteArray)
  | .ok r => if 24 < n then .error 2 else .ok r
  | .error e => .error e
theorem many_fin {α : Type} (X : ByteArray → α) (R : ByteArray → ByteArray) (E : ByteArray → Int) (s : ByteArray) (h : Q.getE s = 0) : manyE X R E s = finE (Q.getV s) (rmE X R E (Q.getV s).toNat (Q.getRest s)) := by
  unfold manyE
  rw [if_pos h]
  cases rmE X R E (Q.getV s).toNat (Q.getRest s) <;> rfl
theorem beh_0 {α : Type} (X : ByteArray → α) (R : ByteArray → ByteArray) (E : ByteArray → Int) (n : Nat) (s : ByteArray) : rmE X R E n s = behE [] (rmE X R E (n - 0) s) := by
  rw [Nat.sub_zero]
  cases rmE X R E n s <;> simp [behE]
theorem beh_more {α : Type} {X : ByteArray → α} {R : ByteArray → ByteArray} {E : ByteArray → Int} {n k : Nat} {s : ByteArray} {acc : List α} {x : α} (hx : x = X s) (hk : k < n) (he : E s = 0) : behE acc (rmE X R E (n - k) s) = behE (acc ++ [x]) (rmE X R E (n - (k + 1)) (R s)) := by
  subst hx
  rw [show n - k = (n - (k + 1)) + 1 by omega, rmE, if_pos he]
  cases rmE X R E (n - (k + 1)) (R s) <;> simp [behE]
theorem beh_no {α : Type} {X : ByteArray → α} {R : ByteArray → ByteArray} {E : ByteArray → Int} {n k : Nat} {s : ByteArray} {acc : List α} (hk : k < n) (he : E s ≠ 0) : behE acc (rmE X R E (n - k) s) = .error (E s) := by
  rw [show n - k = (n - (k + 1)) + 1 by omega, rmE, if_neg he]
  rfl
theorem wrapSI {z : Int} (h1 : -9223372036854775808 ≤ z) (h2 : z ≤ 9223372036854775807) : IntKind.i64.wrap z = z := by
  simp only [IntKind.wrap, IntKind.signed, IntKind.bits]
  simp
  omega
theorem info_at : (Tryz.prog.info? 49).map (fun i => (i.zero, i.size, i.bytes)) = some (some (.agg #[.string ⟨#[]⟩, .int .i64 0, .int .i64 0, .string ⟨#[]⟩]), 4, 48) := by kernel_rfl
theorem take24_more {α : Type} {acc : List α} {x : α} {k : Nat} (hl : acc.length = k) (h : k < 24) : acc.take 24 = acc ∧ (acc ++ [x]).take 24 = acc ++ [x] ∧ min k 24 = k ∧ min (k + 1) 24 = k + 1 :=
  ⟨List.take_of_length_le (by omega), List.take_of_length_le (by simp; omega), by omega, by omega⟩
theorem take24_same {α : Type} {acc : List α} {x : α} {k : Nat} (hl : acc.length = k) (h : ¬ k < 24) : (acc ++ [x]).take 24 = acc.take 24 ∧ min (k + 1) 24 = min k 24 :=
  ⟨List.take_append_of_le_length (by omega), by omega⟩
def MPostF (o : Except Int (List Fd × ByteArray)) (w : World) (e : Ending) (w' : World) : Prop := match o with
  | .ok r => ∃ v, e = .returned (.tuple #[v, .string r.2, .int .i64 0]) ∧ IsRow w' 3 v r.1.length (fCells r.1) ∧ Below w.heap.size w w'
  | .error x => x ≠ 0 ∧ e = .returned (.tuple #[.slice none 0 0, .string e0S, .int .i64 x]) ∧ Below w.heap.size w w'
theorem cs_snocF (l : List Fd) (x : Fd) : fCells (l ++ [x]) = fCells l ++ enF x := by simp [fCells]
/-- Where the loop stands: fields. -/
def LpIF (MM : Except Int (List Fd × ByteArray)) (n : Nat) (B : Nat) (wr : World) (l r e i : Value) : Prop :=
  (∃ (k : Nat) (acc : List Fd) (s' : ByteArray) (va : Option Addr) (vc : Nat), k ≤ n ∧ l = .slice va (min k 24) vc ∧ r = .string s' ∧ e = .int .i64 0 ∧ i = .int .i64 (k : Int) ∧ acc.length = k ∧ s'.size ≤ 140737488355328 ∧ MM = finE (n : Int) (behE acc (rmE rfX rfR rfE (n - k) s')) ∧ wr.ownsRow B 45 3 (.slice va (min k 24) vc) (min k 24) (fCells (acc.take 24))) ∨
  (∃ (k : Nat) (s' : ByteArray) (va : Option Addr) (vl vc : Nat) (E' : Int), k ≤ n ∧ l = .slice va vl vc ∧ r = .string s' ∧ e = .int .i64 E' ∧ i = .int .i64 (k : Int) ∧ E' ≠ 0 ∧ MM = .error E')
set_option maxRecDepth 100000 in
set_option maxHeartbeats 2000000 in
theorem manyF_any (s : ByteArray) (w : World) (hs : s.size ≤ 140737488355328) :
    Calls Tryz.prog 30 #[.string s, .func (.func 31) #[] #[]] w fun e w' => MPostF (manyE rfX rfR rfE s) w e w' := by
  obtain ⟨i0, hi0, hz0, hz1, hz2⟩ := info_parts info_fd
  have HRf : Hid (∀ s' : ByteArray, s'.size ≤ 140737488355328 → ∀ W, Below w.heap.size w W → Calls Tryz.prog 31 #[.string s'] W fun e w' => e = .returned (.tuple #[fV (rfX s'), .string (rfR s'), .int .i64 (rfE s')]) ∧ Below W.heap.size W w') := fun s' h W _ => readField_any s' W h
  obtain ⟨hv0, hv1⟩ := Q.getV_nn s
  obtain ⟨n, hn⟩ : ∃ n : Nat, Q.getV s = (n : Int) := ⟨(Q.getV s).toNat, by omega⟩
  have HM0 : Hid (Q.getE s = 0 → manyE rfX rfR rfE s = finE (n : Int) (rmE rfX rfR rfE n (Q.getRest s))) := fun h => by
    rw [many_fin _ _ _ _ h, hn, Int.toNat_natCast]
  have HM1 : Hid (Q.getE s ≠ 0 → manyE rfX rfR rfE s = .error (Q.getE s)) := fun h => if_neg h
  have hgr := Q.getRest_size s
  have HGet : Hid (Calls Tryz.prog 51 #[.string s] w fun e w' => e = .returned (.tuple #[.int .i64 (n : Int), .string (Q.getRest s), .int .i64 (Q.getE s)]) ∧ Below w.heap.size w w') := by
    have := Q.get_any s w hs
    rw [hn] at this
    exact this
  rw [hn] at hv1
  clear hn hv0
  generalize Q.getRest s = R0 at *
  generalize Q.getE s = E0 at *
  generalize hMM : manyE rfX rfR rfE s = MM at *
  clear hMM
  go_enter Tryz.func30, Tryz.ntmps30
  go_wp2_with fail
  refine HGet.out.mono ?_
  rintro e w1 ⟨rfl, hb1⟩
  have HB1 : Hid (Below w.heap.size w w1) := hb1
  clear hb1 HGet
  go_wp2_with fail
  go_loopw [4, 5, 6, 8] (fun l r e i wr => Hid (Below w1.heap.size w1 wr) ∧ Hid (LpIF MM n w1.heap.size wr l r e i)) (fun _ _ _ i _ => n - (intOf i).toNat)
  case atStart =>
    refine ⟨Below.refl _ _, ?_⟩
    by_cases h0 : E0 = 0
    · subst h0
      exact .inl ⟨0, [], R0, none, 0, Nat.zero_le _, rfl, rfl, rfl, rfl, rfl, by omega, by rw [HM0.out rfl, ← beh_0], World.ownsRow_nil _ _ _ _⟩
    · exact .inr ⟨0, R0, none, 0, 0, E0, Nat.zero_le _, rfl, rfl, rfl, rfl, h0, HM1.out h0⟩
  case round =>
    obtain ⟨HB, hrel⟩ := hrel
    have hrel := hrel.out
    clear HM0 HM1
    rcases hrel with ⟨k, acc, s', va, vc, hk, rfl, rfl, rfl, rfl, hak, hs', hQ, hW⟩ | ⟨k, s', va, vl, vc, E', hk, rfl, rfl, rfl, rfl, hE', hQ⟩
    · have HQ : Hid (MM = finE (n : Int) (behE acc (rmE rfX rfR rfE (n - k) s'))) := hQ
      have HW : Hid (wr.ownsRow w1.heap.size 45 3 (.slice va (min k 24) vc) (min k 24) (fCells (acc.take 24))) := hW
      clear hQ hW
      by_cases hlk : k < n
      · as_aux_lemma =>
        have dk : decide ((k : Int) < (n : Int)) = true := by simp; omega
        have wk : IntKind.i64.wrap ((k : Int) + 1) = (k : Int) + 1 := wrapSI (by omega) (by omega)
        have hsz := HB.out.size
        have hmr := rfR_size s'
        have HW3 : Hid (∀ (w2 : World) (x y z : Value), Below (wr.alloc (.cells #[.string ⟨#[]⟩, .int .i64 0, .bool false] 45)).heap.size (wr.alloc (.cells #[.string ⟨#[]⟩, .int .i64 0, .bool false] 45)) w2 → (((w2.setCell ⟨wr.heap.size, 0, none⟩ x).setCell ⟨wr.heap.size, 1, none⟩ y).setCell ⟨wr.heap.size, 2, none⟩ z).ownsRow w1.heap.size 45 3 (.slice va (min k 24) vc) (min k 24) (fCells (acc.take 24)) ∧ (((w2.setCell ⟨wr.heap.size, 0, none⟩ x).setCell ⟨wr.heap.size, 1, none⟩ y).setCell ⟨wr.heap.size, 2, none⟩ z).heap[wr.heap.size]? = some (.cells #[x, y, z] 45 (0, 0)) ∧ Below w1.heap.size w1 (((w2.setCell ⟨wr.heap.size, 0, none⟩ x).setCell ⟨wr.heap.size, 1, none⟩ y).setCell ⟨wr.heap.size, 2, none⟩ z)) := fun w2 x y z hb2 => by
          have hA := al_b wr (.cells #[.string ⟨#[]⟩, .int .i64 0, .bool false] 45)
          have hb := hA.trans (hb2.mono hA.size)
          have hq : w2.heap[wr.heap.size]? = some (.cells #[.string ⟨#[]⟩, .int .i64 0, .bool false] 45 (0, 0)) := (hb2.block _ (by simp)).trans (alloc_topS wr _)
          have t1 := setCell_atS w2 0 hq x
          have t2 := setCell_atS _ 1 t1.1 y
          have t3 := setCell_atS _ 2 t2.1 z
          have hne := Q.owns_ne HW.out
          exact ⟨Q.owns_set (Q.owns_set (Q.owns_set (Q.owns_below HW.out hb) hne) hne) hne, t3.1, set3S (HB.out.trans (hb.mono hsz)) hsz _ _ _⟩
        have HM3 : Hid (∀ w2 : World, Below (wr.alloc (.cells #[.string ⟨#[]⟩, .int .i64 0, .bool false] 45)).heap.size (wr.alloc (.cells #[.string ⟨#[]⟩, .int .i64 0, .bool false] 45)) w2 → w2.heap[wr.heap.size]? = some (.cells #[.string ⟨#[]⟩, .int .i64 0, .bool false] 45 (0, 0))) := fun w2 hb2 => (hb2.block _ (by simp)).trans (alloc_topS wr _)
        have HBa : Hid (Below w.heap.size w (wr.alloc (.cells #[.string ⟨#[]⟩, .int .i64 0, .bool false] 45))) := HB1.out.trans ((HB.out.alloc hsz _).mono HB1.out.size)
        obtain ⟨xs, hxs⟩ : ∃ xs, xs = rfX s' := ⟨_, rfl⟩
        have HRx : Hid (∀ W, Below w.heap.size w W → Calls Tryz.prog 31 #[.string s'] W fun e w' => e = .returned (.tuple #[fV xs, .string (rfR s'), .int .i64 (rfE s')]) ∧ Below W.heap.size W w') := by rw [hxs]; exact HRf.out s' hs'
        have HXS : Hid (xs = rfX s') := hxs
        clear hxs
        obtain ⟨xn, xk, xm⟩ := xs
        have HRel : Hid (∀ (va' : Option Addr) (vc' : Nat) (wz : World), wz.ownsRow w1.heap.size 45 3 (.slice va' (min (k + 1) 24) vc') (min (k + 1) 24) (fCells ((acc ++ [(⟨xn, xk, xm⟩ : Fd)]).take 24)) → LpIF MM n w1.heap.size wz (.slice va' (min (k + 1) 24) vc') (.string (rfR s')) (.int .i64 (rfE s')) (.int .i64 ((k : Int) + 1))) := fun va' vc' wz hoz => by
          by_cases hE : rfE s' = 0
          · refine .inl ⟨k + 1, acc ++ [(⟨xn, xk, xm⟩ : Fd)], rfR s', va', vc', by omega, rfl, rfl, by rw [hE], by simp, by simp [hak], by omega, ?_, hoz⟩
            rw [HQ.out, beh_more HXS.out hlk hE]
          · exact .inr ⟨k + 1, rfR s', va', min (k + 1) 24, vc', rfE s', by omega, rfl, rfl, rfl, by simp, hE, by rw [HQ.out, beh_no hlk hE]; rfl⟩
        clear HQ HXS HRf
        go_upto_region 6 with fail
        go_cut [5, 6] (fun r e wx => r = .string (rfR s') ∧ e = .int .i64 (rfE s') ∧ Hid (wx.ownsRow w1.heap.size 45 3 (.slice va (min k 24) vc) (min k 24) (fCells (acc.take 24))) ∧ Hid (wx.heap[wr.heap.size]? = some (.cells #[.string xn, .int .i64 xk, .bool xm] 45 (0, 0))) ∧ Hid (Below w1.heap.size w1 wx))
        case first =>
          clear HW HRel
          go_wp2_with fail
          refine (HRx.out _ HBa.out).mono ?_
          rintro e w2 ⟨rfl, hb2⟩
          obtain ⟨⟨y0, y1, y2⟩, f0, f1, f2⟩ := threeS (HM3.out w2 hb2)
          have hF := HW3.out w2 (.string xn) (.int .i64 xk) (.bool xm) hb2
          have HF : Hid _ := hF
          clear hF hb2 HW3 HM3 HRx
          go_wp2_with fail
          go_meet
          obtain ⟨g1, g2, g3⟩ := HF.out
          exact ⟨rfl, rfl, g1, g2, g3⟩
        case rest =>
          obtain ⟨rfl, rfl, HW2, HHm, HB2⟩ := hcut
          obtain ⟨wd, hwd⟩ : ∃ wd, wd = wc := ⟨_, rfl⟩
          subst hwd
          clear HW HW3 HM3 HRx HBa
          obtain ⟨⟨y0, y1, y2⟩, -⟩ := threeS HHm.out
          have hsd := HB2.out.size
          have hxm := (heap_atS HHm.out).2.2
          generalize rfR s' = RS at *
          generalize rfE s' = ES at *
          by_cases h24 : k < 24
          · have d24 : decide ((k : Int) < 24) = true := by simp; omega
            obtain ⟨q1, q2, q3, q4⟩ := take24_more (x := (⟨xn, xk, xm⟩ : Fd)) hak h24
            rw [q1, q3] at HW2
            rw [q2, q4] at HRel
            rw [q3]
            clear q1 q2 q3 q4
            have HC := cs_snocF acc (⟨xn, xk, xm⟩ : Fd)
            have HC' : Hid _ := HC
            clear HC
            go_wp2_with (at_builtin; go_loud (refine wpl_appE wd rfl (.tmp 34) (.tmp 36) 22 45 rfl i0 _ 3 32 Tryz.underlying22 hi0 hz0 hz1 hz2 rfl (by decide) w1.heap.size (.slice va k vc) k (fCells acc) rfl HW2.out [.string xn, .int .i64 xk, .bool xm] rfl _ rfl rfl (by simp [Value.oneCell']) (by omega) (by unfold maxLen; omega) (by omega) ?_; intro v4 w4 hown4 hb4; obtain ⟨va4, vc4, rfl⟩ := (IsRow.own hown4).form))
            have HO4 : Hid (LpIF MM n w1.heap.size w4 (.slice va4 (k + 1) vc4) (.string RS) (.int .i64 ES) (.int .i64 ((k : Int) + 1))) := HRel.out va4 vc4 w4 (by rw [HC'.out]; exact hown4)
            have HB4 : Hid (Below w1.heap.size w1 w4) := HB2.out.trans hb4
            clear hown4 hb4 HC' HHm HW2 HRel HB2
            go_wp2
            go_roundw
            case rel => exact ⟨HB4, HO4⟩
            case measure => simp [intOf]; omega
          · have d24 : decide ((k : Int) < 24) = false := by simp; omega
            obtain ⟨q1, q2⟩ := take24_same (x := (⟨xn, xk, xm⟩ : Fd)) hak h24
            rw [q1, q2] at HRel
            have HO4 : Hid (LpIF MM n w1.heap.size wd (.slice va (min k 24) vc) (.string RS) (.int .i64 ES) (.int .i64 ((k : Int) + 1))) := HRel.out va vc wd HW2.out
            clear q1 q2 HHm HW2 HRel
            go_wp2
            go_roundw
            case rel => exact ⟨HB2, HO4⟩
            case measure => simp [intOf]; omega
      · obtain rfl : k = n := by omega
        as_aux_lemma =>
        have dk : decide ((k : Int) < (k : Int)) = false := by simp
        have hbw := HB1.out.trans (HB.out.mono HB1.out.size)
        have HBw : Hid (Below w.heap.size w wr) := hbw
        have hm := HQ.out
        rw [Nat.sub_self] at hm
        clear HQ HRf hbw
        by_cases h24 : (24 : Int) < (k : Int)
        · have hm' : MM = .error 2 := by rw [hm]; simp only [rmE, behE, finE]; rw [if_pos h24]
          have HE : Hid (MM = .error 2) := hm'
          have d24 : decide ((24 : Int) < (k : Int)) = true := by simpa using h24
          have d24' : decide (24 < k) = true := by simp; omega
          clear hm hm' HW
          go_wp2
          go_ret3
          rw [HE.out]
          exact ⟨by decide, rfl, HBw.out⟩
        · have hm' : MM = .ok (acc, s') := by rw [hm]; simp only [rmE, behE, finE]; rw [if_neg h24, List.append_nil]
          have HE : Hid (MM = .ok (acc, s')) := hm'
          have d24 : decide ((24 : Int) < (k : Int)) = false := by simpa using h24
          have d24' : decide (24 < k) = false := by simp; omega
          have hown := HW.out
          rw [List.take_of_length_le (by omega), Nat.min_eq_left (by omega)] at hown
          have HRw : Hid (IsRow wr 3 (.slice va k vc) acc.length (fCells acc)) := by show IsRow _ _ _ _ _; rw [hak]; exact IsRow.own hown
          rw [Nat.min_eq_left (by omega)]
          clear hm hm' HW hown
          go_wp2
          go_ret3
          rw [HE.out]
          exact ⟨_, rfl, HRw.out, HBw.out⟩
    · as_aux_lemma =>
      have hbw := HB1.out.trans (HB.out.mono HB1.out.size)
      have HBw : Hid (Below w.heap.size w wr) := hbw
      have HE : Hid (MM = .error E') := hQ
      have HN : Hid (E' ≠ 0) := hE'
      have e1 : (E' == 0) = false := by simpa using hE'
      have e2 : (E' != 0) = true := by simpa using hE'
      clear hQ HRf hbw hE'
      go_wp2
      go_ret3
      rw [HE.out]
      exact ⟨HN.out, rfl, HBw.out⟩
def MPostA (o : Except Int (List At × ByteArray)) (w : World) (e : Ending) (w' : World) : Prop := match o with
  | .ok r => ∃ v, e = .returned (.tuple #[v, .string r.2, .int .i64 0]) ∧ IsRow w' 4 v r.1.length (aCells r.1) ∧ Below w.heap.size w w'
  | .error x => x ≠ 0 ∧ e = .returned (.tuple #[.slice none 0 0, .string e0S, .int .i64 x]) ∧ Below w.heap.size w w'
theorem cs_snocA (l : List At) (x : At) : aCells (l ++ [x]) = aCells l ++ enA x := by simp [aCells]
/-- Where the loop stands: attributes. -/
def LpIA (MM : Except Int (List At × ByteArray)) (n : Nat) (B : Nat) (wr : World) (l r e i : Value) : Prop :=
  (∃ (k : Nat) (acc : List At) (s' : ByteArray) (va : Option Addr) (vc : Nat), k ≤ n ∧ l = .slice va (min k 24) vc ∧ r = .string s' ∧ e = .int .i64 0 ∧ i = .int .i64 (k : Int) ∧ acc.length = k ∧ s'.size ≤ 140737488355328 ∧ MM = finE (n : Int) (behE acc (rmE raX raR raE (n - k) s')) ∧ wr.ownsRow B 49 4 (.slice va (min k 24) vc) (min k 24) (aCells (acc.take 24))) ∨
  (∃ (k : Nat) (s' : ByteArray) (va : Option Addr) (vl vc : Nat) (E' : Int), k ≤ n ∧ l = .slice va vl vc ∧ r = .string s' ∧ e = .int .i64 E' ∧ i = .int .i64 (k : Int) ∧ E' ≠ 0 ∧ MM = .error E')
set_option maxRecDepth 100000 in
set_option maxHeartbeats 2000000 in
theorem manyA_any (s : ByteArray) (w : World) (hs : s.size ≤ 140737488355328) (hU : UT w) :
    Calls Tryz.prog 39 #[.string s, .func (.func 40) #[] #[]] w fun e w' => MPostA (manyE raX raR raE s) w e w' := by
  obtain ⟨i0, hi0, hz0, hz1, hz2⟩ := info_parts info_at
  have HRf : Hid (∀ s' : ByteArray, s'.size ≤ 140737488355328 → ∀ W, Below w.heap.size w W → Calls Tryz.prog 40 #[.string s'] W fun e w' => e = .returned (.tuple #[aV (raX s'), .string (raR s'), .int .i64 (raE s')]) ∧ Below W.heap.size W w') := fun s' h W hb => readAttr_any s' W h (Utf8Tabs_below hU hb)
  obtain ⟨hv0, hv1⟩ := Q.getV_nn s
  obtain ⟨n, hn⟩ : ∃ n : Nat, Q.getV s = (n : Int) := ⟨(Q.getV s).toNat, by omega⟩
  have HM0 : Hid (Q.getE s = 0 → manyE raX raR raE s = finE (n : Int) (rmE raX raR raE n (Q.getRest s))) := fun h => by
    rw [many_fin _ _ _ _ h, hn, Int.toNat_natCast]
  have HM1 : Hid (Q.getE s ≠ 0 → manyE raX raR raE s = .error (Q.getE s)) := fun h => if_neg h
  have hgr := Q.getRest_size s
  have HGet : Hid (Calls Tryz.prog 51 #[.string s] w fun e w' => e = .returned (.tuple #[.int .i64 (n : Int), .string (Q.getRest s), .int .i64 (Q.getE s)]) ∧ Below w.heap.size w w') := by
    have := Q.get_any s w hs
    rw [hn] at this
    exact this
  rw [hn] at hv1
  clear hn hv0
  generalize Q.getRest s = R0 at *
  generalize Q.getE s = E0 at *
  generalize hMM : manyE raX raR raE s = MM at *
  clear hMM
  go_enter Tryz.func39, Tryz.ntmps39
  go_wp2_with fail
  refine HGet.out.mono ?_
  rintro e w1 ⟨rfl, hb1⟩
  have HB1 : Hid (Below w.heap.size w w1) := hb1
  clear hb1 HGet
  go_wp2_with fail
  go_loopw [4, 5, 6, 8] (fun l r e i wr => Hid (Below w1.heap.size w1 wr) ∧ Hid (LpIA MM n w1.heap.size wr l r e i)) (fun _ _ _ i _ => n - (intOf i).toNat)
  case atStart =>
    refine ⟨Below.refl _ _, ?_⟩
    by_cases h0 : E0 = 0
    · subst h0
      exact .inl ⟨0, [], R0, none, 0, Nat.zero_le _, rfl, rfl, rfl, rfl, rfl, by omega, by rw [HM0.out rfl, ← beh_0], World.ownsRow_nil _ _ _ _⟩
    · exact .inr ⟨0, R0, none, 0, 0, E0, Nat.zero_le _, rfl, rfl, rfl, rfl, h0, HM1.out h0⟩
  case round =>
    obtain ⟨HB, hrel⟩ := hrel
    have hrel := hrel.out
    clear HM0 HM1
    rcases hrel with ⟨k, acc, s', va, vc, hk, rfl, rfl, rfl, rfl, hak, hs', hQ, hW⟩ | ⟨k, s', va, vl, vc, E', hk, rfl, rfl, rfl, rfl, hE', hQ⟩
    · have HQ : Hid (MM = finE (n : Int) (behE acc (rmE raX raR raE (n - k) s'))) := hQ
      have HW : Hid (wr.ownsRow w1.heap.size 49 4 (.slice va (min k 24) vc) (min k 24) (aCells (acc.take 24))) := hW
      clear hQ hW
      by_cases hlk : k < n
      · as_aux_lemma =>
        have dk : decide ((k : Int) < (n : Int)) = true := by simp; omega
        have wk : IntKind.i64.wrap ((k : Int) + 1) = (k : Int) + 1 := wrapSI (by omega) (by omega)
        have hsz := HB.out.size
        have hmr := raR_size s'
        have HW3 : Hid (∀ (w2 : World) (x y z u : Value), Below (wr.alloc (.cells #[.string ⟨#[]⟩, .int .i64 0, .int .i64 0, .string ⟨#[]⟩] 49)).heap.size (wr.alloc (.cells #[.string ⟨#[]⟩, .int .i64 0, .int .i64 0, .string ⟨#[]⟩] 49)) w2 → ((((w2.setCell ⟨wr.heap.size, 0, none⟩ x).setCell ⟨wr.heap.size, 1, none⟩ y).setCell ⟨wr.heap.size, 2, none⟩ z).setCell ⟨wr.heap.size, 3, none⟩ u).ownsRow w1.heap.size 49 4 (.slice va (min k 24) vc) (min k 24) (aCells (acc.take 24)) ∧ ((((w2.setCell ⟨wr.heap.size, 0, none⟩ x).setCell ⟨wr.heap.size, 1, none⟩ y).setCell ⟨wr.heap.size, 2, none⟩ z).setCell ⟨wr.heap.size, 3, none⟩ u).heap[wr.heap.size]? = some (.cells #[x, y, z, u] 49 (0, 0)) ∧ Below w1.heap.size w1 ((((w2.setCell ⟨wr.heap.size, 0, none⟩ x).setCell ⟨wr.heap.size, 1, none⟩ y).setCell ⟨wr.heap.size, 2, none⟩ z).setCell ⟨wr.heap.size, 3, none⟩ u)) := fun w2 x y z u hb2 => by
          have hA := al_b wr (.cells #[.string ⟨#[]⟩, .int .i64 0, .int .i64 0, .string ⟨#[]⟩] 49)
          have hb := hA.trans (hb2.mono hA.size)
          have hq : w2.heap[wr.heap.size]? = some (.cells #[.string ⟨#[]⟩, .int .i64 0, .int .i64 0, .string ⟨#[]⟩] 49 (0, 0)) := (hb2.block _ (by simp)).trans (alloc_topS wr _)
          have t1 := setCell_atS w2 0 hq x
          have t2 := setCell_atS _ 1 t1.1 y
          have t3 := setCell_atS _ 2 t2.1 z
          have t4 := setCell_atS _ 3 t3.1 u
          have hne := Q.owns_ne HW.out
          exact ⟨Q.owns_set (Q.owns_set (Q.owns_set (Q.owns_set (Q.owns_below HW.out hb) hne) hne) hne) hne, t4.1, set4S (HB.out.trans (hb.mono hsz)) hsz _ _ _ _⟩
        have HM3 : Hid (∀ w2 : World, Below (wr.alloc (.cells #[.string ⟨#[]⟩, .int .i64 0, .int .i64 0, .string ⟨#[]⟩] 49)).heap.size (wr.alloc (.cells #[.string ⟨#[]⟩, .int .i64 0, .int .i64 0, .string ⟨#[]⟩] 49)) w2 → w2.heap[wr.heap.size]? = some (.cells #[.string ⟨#[]⟩, .int .i64 0, .int .i64 0, .string ⟨#[]⟩] 49 (0, 0))) := fun w2 hb2 => (hb2.block _ (by simp)).trans (alloc_topS wr _)
        have HBa : Hid (Below w.heap.size w (wr.alloc (.cells #[.string ⟨#[]⟩, .int .i64 0, .int .i64 0, .string ⟨#[]⟩] 49))) := HB1.out.trans ((HB.out.alloc hsz _).mono HB1.out.size)
        obtain ⟨xs, hxs⟩ : ∃ xs, xs = raX s' := ⟨_, rfl⟩
        have HRx : Hid (∀ W, Below w.heap.size w W → Calls Tryz.prog 40 #[.string s'] W fun e w' => e = .returned (.tuple #[aV xs, .string (raR s'), .int .i64 (raE s')]) ∧ Below W.heap.size W w') := by rw [hxs]; exact HRf.out s' hs'
        have HXS : Hid (xs = raX s') := hxs
        clear hxs
        obtain ⟨xn, xk, xv, xs⟩ := xs
        have HRel : Hid (∀ (va' : Option Addr) (vc' : Nat) (wz : World), wz.ownsRow w1.heap.size 49 4 (.slice va' (min (k + 1) 24) vc') (min (k + 1) 24) (aCells ((acc ++ [(⟨xn, xk, xv, xs⟩ : At)]).take 24)) → LpIA MM n w1.heap.size wz (.slice va' (min (k + 1) 24) vc') (.string (raR s')) (.int .i64 (raE s')) (.int .i64 ((k : Int) + 1))) := fun va' vc' wz hoz => by
          by_cases hE : raE s' = 0
          · refine .inl ⟨k + 1, acc ++ [(⟨xn, xk, xv, xs⟩ : At)], raR s', va', vc', by omega, rfl, rfl, by rw [hE], by simp, by simp [hak], by omega, ?_, hoz⟩
            rw [HQ.out, beh_more HXS.out hlk hE]
          · exact .inr ⟨k + 1, raR s', va', min (k + 1) 24, vc', raE s', by omega, rfl, rfl, rfl, by simp, hE, by rw [HQ.out, beh_no hlk hE]; rfl⟩
        clear HQ HXS HRf
        go_upto_region 6 with fail
        go_cut [5, 6] (fun r e wx => r = .string (raR s') ∧ e = .int .i64 (raE s') ∧ Hid (wx.ownsRow w1.heap.size 49 4 (.slice va (min k 24) vc) (min k 24) (aCells (acc.take 24))) ∧ Hid (wx.heap[wr.heap.size]? = some (.cells #[.string xn, .int .i64 xk, .int .i64 xv, .string xs] 49 (0, 0))) ∧ Hid (Below w1.heap.size w1 wx))
        case first =>
          clear HW HRel
          go_wp2_with fail
          refine (HRx.out _ HBa.out).mono ?_
          rintro e w2 ⟨rfl, hb2⟩
          obtain ⟨⟨y0, y1, y2, y3⟩, f0, f1, f2, f3⟩ := fourS (HM3.out w2 hb2)
          have hF := HW3.out w2 (.string xn) (.int .i64 xk) (.int .i64 xv) (.string xs) hb2
          have HF : Hid _ := hF
          clear hF hb2 HW3 HM3 HRx
          go_wp2_with fail
          go_meet
          obtain ⟨g1, g2, g3⟩ := HF.out
          exact ⟨rfl, rfl, g1, g2, g3⟩
        case rest =>
          obtain ⟨rfl, rfl, HW2, HHm, HB2⟩ := hcut
          obtain ⟨wd, hwd⟩ : ∃ wd, wd = wc := ⟨_, rfl⟩
          subst hwd
          clear HW HW3 HM3 HRx HBa
          obtain ⟨⟨y0, y1, y2, y3⟩, -⟩ := fourS HHm.out
          have hsd := HB2.out.size
          have hxm := (heap_atS HHm.out).2.2
          generalize raR s' = RS at *
          generalize raE s' = ES at *
          by_cases h24 : k < 24
          · have d24 : decide ((k : Int) < 24) = true := by simp; omega
            obtain ⟨q1, q2, q3, q4⟩ := take24_more (x := (⟨xn, xk, xv, xs⟩ : At)) hak h24
            rw [q1, q3] at HW2
            rw [q2, q4] at HRel
            rw [q3]
            clear q1 q2 q3 q4
            have HC := cs_snocA acc (⟨xn, xk, xv, xs⟩ : At)
            have HC' : Hid _ := HC
            clear HC
            go_wp2_with (at_builtin; go_loud (refine wpl_appE wd rfl (.tmp 34) (.tmp 36) 23 49 rfl i0 _ 4 48 Tryz.underlying23 hi0 hz0 hz1 hz2 rfl (by decide) w1.heap.size (.slice va k vc) k (aCells acc) rfl HW2.out [.string xn, .int .i64 xk, .int .i64 xv, .string xs] rfl _ rfl rfl (by simp [Value.oneCell']) (by omega) (by unfold maxLen; omega) (by omega) ?_; intro v4 w4 hown4 hb4; obtain ⟨va4, vc4, rfl⟩ := (IsRow.own hown4).form))
            have HO4 : Hid (LpIA MM n w1.heap.size w4 (.slice va4 (k + 1) vc4) (.string RS) (.int .i64 ES) (.int .i64 ((k : Int) + 1))) := HRel.out va4 vc4 w4 (by rw [HC'.out]; exact hown4)
            have HB4 : Hid (Below w1.heap.size w1 w4) := HB2.out.trans hb4
            clear hown4 hb4 HC' HHm HW2 HRel HB2
            go_wp2
            go_roundw
            case rel => exact ⟨HB4, HO4⟩
            case measure => simp [intOf]; omega
          · have d24 : decide ((k : Int) < 24) = false := by simp; omega
            obtain ⟨q1, q2⟩ := take24_same (x := (⟨xn, xk, xv, xs⟩ : At)) hak h24
            rw [q1, q2] at HRel
            have HO4 : Hid (LpIA MM n w1.heap.size wd (.slice va (min k 24) vc) (.string RS) (.int .i64 ES) (.int .i64 ((k : Int) + 1))) := HRel.out va vc wd HW2.out
            clear q1 q2 HHm HW2 HRel
            go_wp2
            go_roundw
            case rel => exact ⟨HB2, HO4⟩
            case measure => simp [intOf]; omega
      · obtain rfl : k = n := by omega
        as_aux_lemma =>
        have dk : decide ((k : Int) < (k : Int)) = false := by simp
        have hbw := HB1.out.trans (HB.out.mono HB1.out.size)
        have HBw : Hid (Below w.heap.size w wr) := hbw
        have hm := HQ.out
        rw [Nat.sub_self] at hm
        clear HQ HRf hbw
        by_cases h24 : (24 : Int) < (k : Int)
        · have hm' : MM = .error 2 := by rw [hm]; simp only [rmE, behE, finE]; rw [if_pos h24]
          have HE : Hid (MM = .error 2) := hm'
          have d24 : decide ((24 : Int) < (k : Int)) = true := by simpa using h24
          have d24' : decide (24 < k) = true := by simp; omega
          clear hm hm' HW
          go_wp2
          go_ret3
          rw [HE.out]
          exact ⟨by decide, rfl, HBw.out⟩
        · have hm' : MM = .ok (acc, s') := by rw [hm]; simp only [rmE, behE, finE]; rw [if_neg h24, List.append_nil]
          have HE : Hid (MM = .ok (acc, s')) := hm'
          have d24 : decide ((24 : Int) < (k : Int)) = false := by simpa using h24
          have d24' : decide (24 < k) = false := by simp; omega
          have hown := HW.out
          rw [List.take_of_length_le (by omega), Nat.min_eq_left (by omega)] at hown
          have HRw : Hid (IsRow wr 4 (.slice va k vc) acc.length (aCells acc)) := by show IsRow _ _ _ _ _; rw [hak]; exact IsRow.own hown
          rw [Nat.min_eq_left (by omega)]
          clear hm hm' HW hown
          go_wp2
          go_ret3
          rw [HE.out]
          exact ⟨_, rfl, HRw.out, HBw.out⟩
    · as_aux_lemma =>
      have hbw := HB1.out.trans (HB.out.mono HB1.out.size)
      have HBw : Hid (Below w.heap.size w wr) := hbw
      have HE : Hid (MM = .error E') := hQ
      have HN : Hid (E' ≠ 0) := hE'
      have e1 : (E' == 0) = false := by simpa using hE'
      have e2 : (E' != 0) = true := by simpa using hE'
      clear hQ HRf hbw hE'
      go_wp2
      go_ret3
      rw [HE.out]
      exact ⟨HN.out, rfl, HBw.out⟩
set_option maxRecDepth 100000 in
set_option maxHeartbeats 1000000 in
theorem readF_any (s : ByteArray) (w : World) (hs : s.size ≤ 1000000) (hW : W4 w) :
    Calls Tryz.prog 11 #[.string s] w fun e w' => MPostF (readS s) w e w' := by
  have HM : Hid (Calls Tryz.prog 30 #[.string s, .func (.func 31) #[] #[]] w fun e w' => MPostF (manyE rfX rfR rfE s) w e w') := manyF_any s w (by omega)
  have HC : Hid (∀ (l : List Fd) (r : ByteArray), manyE rfX rfR rfE s = .ok (l, r) → ∀ v w', IsRow w' 3 v l.length (fCells l) → Below w.heap.size w w' → Calls Tryz.prog 8 #[v] w' fun e w'' => e = .returned (.bool (chkF l)) ∧ Below w'.heap.size w' w'') := fun l r h v w' hr hb =>
    checkF_any v l w' hr (by have := (many_bytes (enc := encF) (fun s h => rf_bytes h) h).1; omega) (fun x hx => (many_all (p := fun x : Fd => x.n.size ≤ 1000000) (N := 1000000) (fun s h => Nat.le_trans (rfX_size s) h) rfR_size hs h).1 x hx) (Utf8Tabs_below hW.t hb) (ML_below hW.m hb)
  have HR : Hid (readS s = match manyE rfX rfR rfE s with | .ok r => if chkF r.1 = true then .ok r else .error 3 | .error e => .error e) := rfl
  clear hW
  rw [HR.out]
  clear HR
  generalize hMM : manyE rfX rfR rfE s = MM at *
  clear hMM
  cases MM with
  | error E =>
    go_enter Tryz.func11, Tryz.ntmps11
    go_wp2_with fail
    refine HM.out.mono ?_
    rintro e w1 ⟨hE, rfl, hb1⟩
    have HN : Hid (E ≠ 0) := hE
    have e1 : (E == 0) = false := by simpa using hE
    clear hE HC HM
    go_wp2
    go_ret3
    exact ⟨HN.out, rfl, hb1⟩
  | ok r =>
    obtain ⟨l, r⟩ := r
    dsimp only
    cases hc : chkF l
    · have HCk : ∀ v w', IsRow w' 3 v l.length (fCells l) → Below w.heap.size w w' → Calls Tryz.prog 8 #[v] w' fun e w'' => e = .returned (.bool false) ∧ Below w'.heap.size w' w'' := fun v w' h hb => by
        have := HC.out l r rfl v w' h hb
        rw [hc] at this
        exact this
      rw [if_neg (by decide)]
      clear HC hc
      go_enter Tryz.func11, Tryz.ntmps11
      go_wp2_with fail
      refine HM.out.mono ?_
      rintro e w1 ⟨v, rfl, hr1, hb1⟩
      dsimp only at hr1 ⊢
      obtain ⟨a1, c1, rfl⟩ := hr1.form
      have HK := HCk _ w1 hr1 hb1
      have HB1 : Hid (Below w.heap.size w w1) := hb1
      clear hr1 hb1 HCk HM
      go_wp2_with (refine HK.mono ?_; rintro e w2 ⟨rfl, hb2⟩)
      go_ret3
      exact ⟨by decide, rfl, HB1.out.trans (hb2.mono HB1.out.size)⟩
    · have HCk : ∀ v w', IsRow w' 3 v l.length (fCells l) → Below w.heap.size w w' → Calls Tryz.prog 8 #[v] w' fun e w'' => e = .returned (.bool true) ∧ Below w'.heap.size w' w'' := fun v w' h hb => by
        have := HC.out l r rfl v w' h hb
        rw [hc] at this
        exact this
      rw [if_pos rfl]
      clear HC hc
      go_enter Tryz.func11, Tryz.ntmps11
      go_wp2_with fail
      refine HM.out.mono ?_
      rintro e w1 ⟨v, rfl, hr1, hb1⟩
      dsimp only at hr1 ⊢
      obtain ⟨a1, c1, rfl⟩ := hr1.form
      have HK := HCk _ w1 hr1 hb1
      have HRw : Hid (∀ w', Below w1.heap.size w1 w' → IsRow w' 3 (.slice a1 l.length c1) l.length (fCells l)) := fun w' h => hr1.below h
      have HB1 : Hid (Below w.heap.size w w1) := hb1
      clear hr1 hb1 HCk HM
      go_wp2_with (refine HK.mono ?_; rintro e w2 ⟨rfl, hb2⟩)
      go_ret3
      exact ⟨_, rfl, HRw.out _ hb2, HB1.out.trans (hb2.mono HB1.out.size)⟩
set_option maxRecDepth 100000 in
set_option maxHeartbeats 1000000 in
theorem readA_any (s : ByteArray) (w : World) (hs : s.size ≤ 1000000) (hW : W4 w) :
    Calls Tryz.prog 17 #[.string s] w fun e w' => MPostA (readA s) w e w' := by
  have HM : Hid (Calls Tryz.prog 39 #[.string s, .func (.func 40) #[] #[]] w fun e w' => MPostA (manyE raX raR raE s) w e w') := manyA_any s w (by omega) hW.t
  have HC : Hid (∀ (l : List At) (r : ByteArray), manyE raX raR raE s = .ok (l, r) → ∀ v w', IsRow w' 4 v l.length (aCells l) → Below w.heap.size w w' → Calls Tryz.prog 15 #[v] w' fun e w'' => e = .returned (.bool (chkA l)) ∧ Below w'.heap.size w' w'') := fun l r h v w' hr hb =>
    attrs_any v l w' hr (by have := (many_bytes (enc := encA) (fun s h => ra_bytes h) h).1; omega) (fun x hx => (many_all (p := fun x : At => x.n.size ≤ 1000000 ∧ x.s.size ≤ 140737488355328) (N := 1000000) (fun s h => ⟨Nat.le_trans (raX_size s).1 h, Nat.le_trans (Nat.le_trans (raX_size s).2 h) (by decide)⟩) raR_size hs h).1 x hx) (Utf8Tabs_below hW.t hb) (ML_below hW.m hb)
  have HR : Hid (readA s = match manyE raX raR raE s with | .ok r => if chkA r.1 = true then .ok r else .error 3 | .error e => .error e) := rfl
  clear hW
  rw [HR.out]
  clear HR
  generalize hMM : manyE raX raR raE s = MM at *
  clear hMM
  cases MM with
  | error E =>
    go_enter Tryz.func17, Tryz.ntmps17
    go_wp2_with fail
    refine HM.out.mono ?_
    rintro e w1 ⟨hE, rfl, hb1⟩
    have HN : Hid (E ≠ 0) := hE
    have e1 : (E == 0) = false := by simpa using hE
    clear hE HC HM
    go_wp2
    go_ret3
    exact ⟨HN.out, rfl, hb1⟩
  | ok r =>
    obtain ⟨l, r⟩ := r
    dsimp only
    cases hc : chkA l
    · have HCk : ∀ v w', IsRow w' 4 v l.length (aCells l) → Below w.heap.size w w' → Calls Tryz.prog 15 #[v] w' fun e w'' => e = .returned (.bool false) ∧ Below w'.heap.size w' w'' := fun v w' h hb => by
        have := HC.out l r rfl v w' h hb
        rw [hc] at this
        exact this
      rw [if_neg (by decide)]
      clear HC hc
      go_enter Tryz.func17, Tryz.ntmps17
      go_wp2_with fail
      refine HM.out.mono ?_
      rintro e w1 ⟨v, rfl, hr1, hb1⟩
      dsimp only at hr1 ⊢
      obtain ⟨a1, c1, rfl⟩ := hr1.form
      have HK := HCk _ w1 hr1 hb1
      have HB1 : Hid (Below w.heap.size w w1) := hb1
      clear hr1 hb1 HCk HM
      go_wp2_with (refine HK.mono ?_; rintro e w2 ⟨rfl, hb2⟩)
      go_ret3
      exact ⟨by decide, rfl, HB1.out.trans (hb2.mono HB1.out.size)⟩
    · have HCk : ∀ v w', IsRow w' 4 v l.length (aCells l) → Below w.heap.size w w' → Calls Tryz.prog 15 #[v] w' fun e w'' => e = .returned (.bool true) ∧ Below w'.heap.size w' w'' := fun v w' h hb => by
        have := HC.out l r rfl v w' h hb
        rw [hc] at this
        exact this
      rw [if_pos rfl]
      clear HC hc
      go_enter Tryz.func17, Tryz.ntmps17
      go_wp2_with fail
      refine HM.out.mono ?_
      rintro e w1 ⟨v, rfl, hr1, hb1⟩
      dsimp only at hr1 ⊢
      obtain ⟨a1, c1, rfl⟩ := hr1.form
      have HK := HCk _ w1 hr1 hb1
      have HRw : Hid (∀ w', Below w1.heap.size w1 w' → IsRow w' 4 (.slice a1 l.length c1) l.length (aCells l)) := fun w' h => hr1.below h
      have HB1 : Hid (Below w.heap.size w w1) := hb1
      clear hr1 hb1 HCk HM
      go_wp2_with (refine HK.mono ?_; rintro e w2 ⟨rfl, hb2⟩)
      go_ret3
      exact ⟨_, rfl, HRw.out _ hb2, HB1.out.trans (hb2.mono HB1.out.size)⟩
end Go.Proofs.YtfbhalkiilbcoaaGreatDoor
