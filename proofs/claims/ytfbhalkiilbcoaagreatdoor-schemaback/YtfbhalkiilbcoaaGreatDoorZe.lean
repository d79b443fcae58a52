/- The reference's one: an item's bytes. -/
import Derived.Test.YtfbhalkiilbcoaaGreatDoorPut
import Derived.Test.YtfbhalkiilbcoaaGreatDoorR
import Derived.Test.YtfbhalkiilbcoaaGreatDoorT2
import Derived.Test.YtfbhalkiilbcoaaGreatDoorG
import Derived.Test.YtfbhalkiilbcoaaGreatDoorM2
namespace Go.Proofs.YtfbhalkiilbcoaaGreatDoor.Q
open Go.RowKit

theorem str_num (n : Int) : strOfNums (numI n) = ⟨(numL n).toArray⟩ := rfl
theorem ba_append (a b : List UInt8) : (⟨a.toArray⟩ : ByteArray) ++ ⟨b.toArray⟩ = ⟨(a ++ b).toArray⟩ := by
  apply ByteArray.ext
  rw [ByteArray.data_append]
  simp
theorem ba_eta (s : ByteArray) : s = ⟨s.data.toList.toArray⟩ := by cases s; simp
theorem ret_st {a b : ByteArray} (h : a = b) : Ending.returned (.string a) = .returned (.string b) := by rw [h]

theorem cv_two (w : World) (o : Obj) (x : Int) : (convert 71 9 (.slice (some ⟨w.heap.size + 1, 0, none⟩) 1 1)).run Tryz.prog ((w.alloc o).alloc (.cells #[.int .u8 x] 5)) = .ok (.string (strOfNums [x])) ((w.alloc o).alloc (.cells #[.int .u8 x] 5)) := by
  refine run_convert_bytes_arg _ 71 5 Tryz.underlying71 Tryz.underlying5 (w.heap.size + 1) 0 1 1 [x] rfl ?_ 9 Tryz.underlying9
  intro i hi
  have : i = 0 := by omega
  subst this
  simp
end Go.Proofs.YtfbhalkiilbcoaaGreatDoor.Q
/- The law's refs and few; the reference's Put. -/
namespace Go.Proofs.YtfbhalkiilbcoaaGreatDoor.Q
open Go.RowKit

/-- An append of one element of several cells onto a row that the call owns. -/
theorem wpl_appk {P : Program} (wr : World) {ops : Array Oper} {rest : List Oper} {o : Oper} {a : Act} {Q : Exit → Act → World → Prop} (hgd : o.guard = none) (s x : Operand) (t e : TypeId)
    (ho : o.op = .call { callee := .builtin .append, args := #[s, x], argTypes := #[t, t] })
    (i : TypeInfo) (z : Value) (size bytes : Nat) (ht : P.underlying t = some (.slice e)) (hi : P.info? e = some i) (hz : i.zero = some z)
    (hsize : i.size = size) (hby : i.bytes = bytes) (hzs : z.cells.size = size) (hsz : 0 < size)
    (base : Nat) (v : Value) (n : Nat) (xs : List Value) (hs : a.eval s = v) (hown : wr.ownsRow base e size v n xs)
    (es : List Value) (hes : es.length = size) (C : Array Value) (hC : C = es.toArray) (hx : a.eval x = .slice (some ⟨wr.heap.size, 0, none⟩) 1 1) (h1 : ∀ u ∈ es, u.oneCell' = true)
    (hbytes : (n + 1) * bytes ≤ 140737488355328) (h63 : n + 1 ≤ maxLen) (hbase : base ≤ wr.heap.size)
    (h : ∀ v' w', w'.ownsRow base e size v' (n + 1) (xs ++ es) → Below base wr w' → wpList P ops Q rest (a.put o.dst v') w') :
    wpList P ops Q (o :: rest) a (wr.alloc (.cells C e)) := by
  subst hC
  refine wpList_append_own _ hgd s x t ho base e i z size bytes ht hi hz hsize hby hzs hsz v n xs hs (hown.alloc _) ⟨wr.heap.size, 0, none⟩ 1 1 es hx (by omega) ?_ h1 h63 hbytes ?_ ?_
  · intro j u hj
    have : (⟨wr.heap.size, 0, none⟩ : Addr).add j = ⟨wr.heap.size, j, none⟩ := by unfold Addr.add; split <;> simp_all
    rw [this]
    simpa using hj
  · simp; omega
  · intro v' w' h2 h3 h4
    refine h v' w' h2 ?_
    exact ((Below.refl _ _).alloc hbase _).grown h3 (by simp; omega) (fun k hk => (hown.lt k hk).1)

/-- What few lets by: no more than 201 items, their texts short. -/
def Small (l : List It) : Prop := l.length ≤ 201 ∧ ∀ x ∈ l, x.s.size ≤ 20000

def FewPost (l : List It) (w : World) (e : Ending) (w' : World) : Prop := ∃ b : Bool, e = .returned (.bool b) ∧ (b = true → Small l) ∧ Below w.heap.size w w'

end Go.Proofs.YtfbhalkiilbcoaaGreatDoor.Q
/- quic.Take: items of kinds at the front of bytes. -/
namespace Go.Proofs.YtfbhalkiilbcoaaGreatDoor.Q
open Go.RowKit

def isK (k : Int) : Bool := decide (1 ≤ k ∧ k ≤ 4)
/-- What Take gathers, from some items and the bytes that are left on. -/
def tk : List It → ByteArray → List Int → List It × ByteArray × Int
  | acc, s, [] => (acc, s, 0)
  | acc, s, k :: ks => if tE s k = 0 then tk (acc ++ [⟨k, tN s k, tS s k⟩]) (tR s k) ks else ([], ⟨#[]⟩, tE s k)
def intCells (l : List Int) : List Value := l.map (Value.int .i64)
theorem ints_at {w : World} {a : Option Addr} {cap : Nat} {l : List Int} (h : IsRow w 1 (.slice a l.length cap) l.length (intCells l)) (i : Nat) (hi : i < l.length) :
    ∃ b off, a = some ⟨b, off, none⟩ ∧ b < w.heap.size ∧ w.cell? ⟨b, off + i, none⟩ = some (.int .i64 (l[i]'hi)) := by
  obtain ⟨b, off, cap', hv, hlt, _, _, hc⟩ := h.open (by omega)
  simp only [Value.slice.injEq] at hv
  exact ⟨b, off, hv.1, hlt, hc i _ (by simp [intCells, hi])⟩
theorem ttR_size (s : ByteArray) : (ttR s).size ≤ s.size := by
  have := getRest_size s
  unfold ttR; split
  · rw [size_extract _ _ _ (Nat.le_refl _)]; omega
  · exact Nat.zero_le _
theorem tR_size (s : ByteArray) (k : Int) : (tR s k).size ≤ s.size := by
  unfold tR
  split
  · exact getRest_size s
  split
  · exact getRest_size s
  split
  · unfold tfR; split
    · rw [size_extract _ _ _ (Nat.le_refl _)]; omega
    · exact Nat.zero_le _
  · exact ttR_size s

theorem owns_set {w : World} {base : Nat} {e : TypeId} {sz : Nat} {v : Value} {n : Nat} {xs : List Value} (h : w.ownsRow base e sz v n xs) {a : Addr} {u : Value} (hne : v.ownBlock ≠ some a.block) : (w.setCell a u).ownsRow base e sz v n xs :=
  h.kept (row := some a.block) ⟨rfl, rfl, rfl, by simp, fun k _ hk => Below.heap_setCell w a u k (fun e => hk (by rw [e]))⟩ (.inr hne)
theorem owns_below {w w1 : World} {base : Nat} {e : TypeId} {sz : Nat} {v : Value} {n : Nat} {xs : List Value} (h : w.ownsRow base e sz v n xs) (hb : Below w.heap.size w w1) : w1.ownsRow base e sz v n xs :=
  h.kept (row := none) ⟨hb.os, hb.tape, hb.output, hb.size, fun k hk _ => hb.block k hk⟩ (by cases hv : v.ownBlock <;> simp)
theorem owns_ne {w : World} {base : Nat} {e : TypeId} {sz : Nat} {v : Value} {n : Nat} {xs : List Value} (h : w.ownsRow base e sz v n xs) : v.ownBlock ≠ some w.heap.size := by
  intro e1
  have := (h.lt _ e1).2
  omega

/-- The same, the new block told by its number. -/
theorem wpl_appn {P : Program} (wr : World) {ops : Array Oper} {rest : List Oper} {o : Oper} {a : Act} {Q : Exit → Act → World → Prop} (hgd : o.guard = none) (s x : Operand) (t e : TypeId)
    (ho : o.op = .call { callee := .builtin .append, args := #[s, x], argTypes := #[t, t] })
    (i : TypeInfo) (z : Value) (size bytes : Nat) (ht : P.underlying t = some (.slice e)) (hi : P.info? e = some i) (hz : i.zero = some z)
    (hsize : i.size = size) (hby : i.bytes = bytes) (hzs : z.cells.size = size) (hsz : 0 < size)
    (base : Nat) (v : Value) (n : Nat) (xs : List Value) (hs : a.eval s = v) (hown : wr.ownsRow base e size v n xs)
    (es : List Value) (hes : es.length = size) (C : Array Value) (hC : C = es.toArray) (N : Nat) (hN : N = wr.heap.size) (hx : a.eval x = .slice (some ⟨N, 0, none⟩) 1 1) (h1 : ∀ u ∈ es, u.oneCell' = true)
    (hbytes : (n + 1) * bytes ≤ 140737488355328) (h63 : n + 1 ≤ maxLen) (hbase : base ≤ wr.heap.size)
    (h : ∀ v' w', w'.ownsRow base e size v' (n + 1) (xs ++ es) → Below base wr w' → wpList P ops Q rest (a.put o.dst v') w') :
    wpList P ops Q (o :: rest) a (wr.alloc (.cells C e)) := by
  subst hN
  exact wpl_appk wr hgd s x t e ho i z size bytes ht hi hz hsize hby hzs hsz base v n xs hs hown es hes C hC hx h1 hbytes h63 hbase h

theorem info_apiItem : (Tryz.prog.info? 63).map (fun i => (i.zero, i.size, i.bytes)) = some (some (.agg #[.int .i64 0, .int .i64 0, .string ⟨#[]⟩]), 3, 32) := by kernel_rfl

/-- What Take leaves: a row of the items, the rest, the error. -/
def TakePost (r : List It × ByteArray × Int) (w : World) (e : Ending) (w' : World) : Prop :=
  ∃ v, e = .returned (.tuple #[v, .string r.2.1, .int .i64 r.2.2]) ∧ IsRow w' 3 v r.1.length (itCells r.1) ∧ Below w.heap.size w w'

set_option maxRecDepth 100000 in
set_option maxHeartbeats 2000000 in
theorem take_ok (s : ByteArray) (v : Value) (ks : List Int) (w : World) (hs : s.size ≤ 140737488355328) (h : IsRow w 1 v ks.length (intCells ks)) (hl : ks.length ≤ 4096) (hk : ks.all isK = true) :
    Calls Tryz.prog 52 #[.string s, v] w fun e w' => TakePost (tk [] s ks) w e w' := by
  obtain ⟨a0, cap0, rfl⟩ := h.form
  obtain ⟨i0, hi0, hz0, hz1, hz2⟩ := info_parts info_apiItem
  have hl' : ¬ (4096 : Int) < ks.length := by omega
  have HK : Hid (ks.all isK = true) := hk
  clear hk
  go_enter Tryz.func52, Tryz.ntmps52
  go_wp2
  go_loopw [4, 17] (fun t i wr => ∃ k : Nat, k ≤ ks.length ∧ i = .int .i64 k ∧ t = .slice none 0 0 ∧ Below w.heap.size w wr) (fun _ i _ => ks.length - (intOf i).toNat)
  case atStart => exact ⟨0, Nat.zero_le _, rfl, rfl, Below.refl _ _⟩
  case round =>
    obtain ⟨k, hk, rfl, rfl, hb⟩ := hrel
    by_cases hlt : k < ks.length
    · obtain ⟨b, off, rfl, hbl, c0⟩ := ints_at (h.below hb) k hlt
      have hi : (k : Int) < ks.length := by omega
      have HM : 1 ≤ ks[k] ∧ ks[k] ≤ 4 := of_decide_eq_true (List.all_eq_true.1 HK.out _ (List.getElem_mem hlt))
      obtain ⟨hm1, hm4⟩ := HM
      go_wp2
      go_roundw
      case rel => exact ⟨k + 1, by omega, by go_num, rfl, hb⟩
      case measure => simp [intOf]; omega
    · have hk' : k = ks.length := by omega
      subst hk'
      obtain ⟨W1, rfl⟩ : ∃ W1, W1 = wr := ⟨_, rfl⟩
      have hr1 := h.below hb
      have hs1 := hb.size
      go_wp2_with fail
      go_loopw [0, 4, 6, 27] (fun ss t ee i wx => ∃ (k : Nat) (acc : List It) (sj : ByteArray), k ≤ ks.length ∧ i = .int .i64 k ∧ ss = .string sj ∧ sj.size ≤ 140737488355328 ∧ acc.length = k ∧ tk acc sj (ks.drop k) = tk [] s ks ∧ wx.ownsRow W1.heap.size 63 3 t acc.length (itCells acc) ∧ Below W1.heap.size W1 wx) (fun _ _ _ i _ => ks.length - (intOf i).toNat)
      case atStart => exact ⟨0, [], s, Nat.zero_le _, rfl, rfl, hs, rfl, rfl, World.ownsRow_nil _ _ _ _, Below.refl _ _⟩
      case round =>
        obtain ⟨k, acc, sj, hk, rfl, rfl, hsj, hal, htk, hown, hbx⟩ := hrel
        have HT : Hid (tk acc sj (ks.drop k) = tk [] s ks) := htk
        clear htk
        have hsx := hbx.size
        by_cases hlt : k < ks.length
        · obtain ⟨b, off, rfl, hbl, c0⟩ := ints_at (hr1.below hbx) k hlt
          have hi : (k : Int) < ks.length := by omega
          have HM : 1 ≤ ks[k] ∧ ks[k] ≤ 4 := of_decide_eq_true (List.all_eq_true.1 HK.out _ (List.getElem_mem hlt))
          have HD : Hid (ks.drop k = ks[k] :: ks.drop (k + 1)) := List.drop_eq_getElem_cons hlt
          obtain ⟨hm1, hm4⟩ := HM
          generalize hkk : ks[k] = kk at *
          clear hkk
          go_wp2_with fail
          refine (takeItem_any _ _ _ hsj hm1 hm4).mono ?_
          rintro e w2 ⟨rfl, hb2⟩
          obtain ⟨hc, hf, hbl2, hz⟩ := part_cells0 hb2
          have hown2 := owns_below (hown.alloc _) hb2
          have hne := owns_ne hown
          have HS : Hid (Below W1.heap.size W1 w2) := hbx.trans (hbl2.mono hsx)
          clear hb2 c0
          by_cases hte : tE sj kk = 0
          · have HN : Hid (tk (acc ++ [⟨kk, tN sj kk, tS sj kk⟩]) (tR sj kk) (ks.drop (k + 1)) = tk [] s ks) := by
              show _ = _
              rw [← HT.out, HD.out]
              show _ = (if tE sj kk = 0 then _ else _)
              rw [if_pos hte]
            have htr := tR_size sj kk
            have HZ : Hid (tE sj kk = 0) := hte
            clear hte
            rw [HZ.out]
            go_wp2_with (at_builtin; refine wpl_appn _ rfl (.tmp 41) (.tmp 43) 64 63 rfl i0 _ 3 32 Tryz.underlying64 hi0 hz0 hz1 hz2 rfl (by decide) _ _ _ _ rfl (owns_set (owns_set (owns_set hown2 hne) hne) hne) (It.cells ⟨kk, tN sj kk, tS sj kk⟩) rfl _ rfl w2.heap.size (by simp) rfl (by intro u hu; simp [It.cells] at hu; rcases hu with rfl | rfl | rfl <;> rfl) (by omega) (by unfold maxLen; omega) (by simp; have := HS.out.size; omega) ?_; intro v3 w3 hown3 hb3)
            have HO : Hid (w3.ownsRow W1.heap.size 63 3 v3 (acc ++ [It.mk kk (tN sj kk) (tS sj kk)]).length (itCells (acc ++ [It.mk kk (tN sj kk) (tS sj kk)]))) := by
              show World.ownsRow _ _ _ _ _ _ _
              rw [itCells_snoc, List.length_append]
              exact hown3
            have HB3 : Hid (Below W1.heap.size W1 w3) := (((HS.out.setCell (p := ⟨wr.heap.size, 0, none⟩) hsx _).setCell (p := ⟨wr.heap.size, 1, none⟩) hsx _).setCell (p := ⟨wr.heap.size, 2, none⟩) hsx _).trans hb3
            refine ⟨⟨k + 1, acc ++ [⟨kk, tN sj kk, tS sj kk⟩], tR sj kk, by omega, by go_num, rfl, by omega, by simp [hal], HN.out, HO.out, HB3.out⟩, ?_⟩
            simp [intOf]; omega
          · have HN : Hid ((([] : List It), (⟨#[]⟩ : ByteArray), tE sj kk) = tk [] s ks) := by
              show _ = _
              rw [← HT.out, HD.out]
              show _ = (if tE sj kk = 0 then _ else _)
              rw [if_neg hte]
            have hte' : (tE sj kk != 0) = true := by rw [bne_iff_ne]; exact hte
            have HF : Hid (Below w.heap.size w w2) := hb.trans (HS.out.mono hs1)
            clear hte
            go_wp2
            go_ret3
            refine ⟨.slice none 0 0, ?_, ?_, ?_⟩
            · rw [← HN.out]; rfl
            · rw [← HN.out]; exact IsRow.nil _ _
            · exact (((HF.out.setCell (p := ⟨wr.heap.size, 0, none⟩) (by show w.heap.size ≤ wr.heap.size; omega) _).setCell (p := ⟨wr.heap.size, 1, none⟩) (by show w.heap.size ≤ wr.heap.size; omega) _).setCell (p := ⟨wr.heap.size, 2, none⟩) (by show w.heap.size ≤ wr.heap.size; omega) _)
        · have hk' : k = ks.length := by omega
          have HN : Hid ((acc, sj, 0) = tk [] s ks) := by
            show _ = _
            rw [← HT.out, List.drop_of_length_le (by omega)]
            rfl
          have HF : Hid (Below w.heap.size w wr) := hb.trans (hbx.mono hs1)
          have HO : Hid (IsRow wr 3 u4 acc.length (itCells acc)) := IsRow.own hown
          clear hown
          subst hk'
          go_wp2
          go_ret3
          refine ⟨u4, ?_, ?_, HF.out⟩
          · rw [← HN.out]; rfl
          · rw [← HN.out]; exact HO.out

set_option maxHeartbeats 1000000 in
theorem take_long (s : ByteArray) (a : Option Addr) (n cap : Nat) (w : World) (hl : 4096 < n) (hn : n ≤ 140737488355328) :
    Calls Tryz.prog 52 #[.string s, .slice a n cap] w fun e w' => TakePost ([], ⟨#[]⟩, 2) w e w' := by
  have hl' : (4096 : Int) < n := by omega
  go_enter Tryz.func52, Tryz.ntmps52
  go_wp2
  go_ret3
  exact ⟨.slice none 0 0, rfl, IsRow.nil _ _, Below.refl _ _⟩

theorem allk_take {l : List Int} {k : Nat} (h : k < l.length) (h1 : (l.take k).all isK = true) (h2 : isK (l[k]'h) = true) : (l.take (k + 1)).all isK = true := by
  rw [List.take_succ_eq_append_getElem h, List.all_append, h1]
  simp [h2]

set_option maxRecDepth 100000 in
set_option maxHeartbeats 2000000 in
theorem take_bad (s : ByteArray) (v : Value) (ks : List Int) (w : World) (h : IsRow w 1 v ks.length (intCells ks)) (hl : ks.length ≤ 4096) (hk : ks.all isK = false) :
    Calls Tryz.prog 52 #[.string s, v] w fun e w' => TakePost ([], ⟨#[]⟩, 1) w e w' := by
  obtain ⟨a0, cap0, rfl⟩ := h.form
  have hl' : ¬ (4096 : Int) < ks.length := by omega
  have HK : Hid (ks.all isK = false) := hk
  clear hk
  go_enter Tryz.func52, Tryz.ntmps52
  go_wp2
  go_loopw [17] (fun i wr => ∃ k : Nat, k ≤ ks.length ∧ i = .int .i64 k ∧ (ks.take k).all isK = true ∧ Below w.heap.size w wr) (fun i _ => ks.length - (intOf i).toNat)
  case atStart => exact ⟨0, Nat.zero_le _, rfl, rfl, Below.refl _ _⟩
  case round =>
    obtain ⟨k, hk, rfl, hall, hb⟩ := hrel
    have HA : Hid ((ks.take k).all isK = true) := hall
    clear hall
    by_cases hlt : k < ks.length
    · obtain ⟨b, off, rfl, hbl, c0⟩ := ints_at (h.below hb) k hlt
      have hi : (k : Int) < ks.length := by omega
      by_cases hm1 : 1 ≤ ks[k]
      · by_cases hm4 : ks[k] ≤ 4
        · have HN : Hid ((ks.take (k + 1)).all isK = true) := allk_take hlt HA.out (by simp [isK, hm1, hm4])
          go_wp2
          go_roundw
          case rel => exact ⟨k + 1, by omega, by go_num, HN.out, hb⟩
          case measure => simp [intOf]; omega
        · have hd : decide (ks[k] ≤ 4) = false := by simpa using hm4
          go_wp2
          go_ret3
          exact ⟨.slice none 0 0, rfl, IsRow.nil _ _, hb⟩
      · have hd : decide (1 ≤ ks[k]) = false := by simpa using hm1
        go_wp2
        go_ret3
        exact ⟨.slice none 0 0, rfl, IsRow.nil _ _, hb⟩
    · exfalso
      have e : ks.take k = ks := List.take_of_length_le (by omega)
      have h1 := HA.out
      rw [e, HK.out] at h1
      cases h1

/-- What Take answers, up to 4,096 kinds. -/
def takeR (s : ByteArray) (ks : List Int) : List It × ByteArray × Int := if ks.all isK = true then tk [] s ks else ([], ⟨#[]⟩, 1)
theorem take_any (s : ByteArray) (v : Value) (ks : List Int) (w : World) (hs : s.size ≤ 140737488355328) (h : IsRow w 1 v ks.length (intCells ks)) (hl : ks.length ≤ 4096) :
    Calls Tryz.prog 52 #[.string s, v] w fun e w' => TakePost (takeR s ks) w e w' := by
  unfold takeR
  by_cases hc : ks.all isK = true
  · rw [if_pos hc]; exact take_ok s v ks w hs h hl hc
  · rw [if_neg hc]; exact take_bad s v ks w h hl (by simpa using hc)
end Go.Proofs.YtfbhalkiilbcoaaGreatDoor.Q
/- Plain mathematics: the bytes of a number stand at the front of bytes just if its form is the shortest one. -/
namespace Go.Proofs.YtfbhalkiilbcoaaGreatDoor.Q
open Go.RowKit

theorem toList_strOfNums (xs : List Int) : (strOfNums xs).toList = xs.map fun n => UInt8.ofNat n.toNat := by rw [toList_eq]; exact strOfNums_data xs
theorem numI_len (n : Int) : (numI n).length = (qsize n).toNat := by
  unfold numI qsize
  (repeat' split) <;> rfl
theorem take_bt (s : ByteArray) (k : Nat) (h : k ≤ s.size) : s.data.toList.take k = (List.range k).map fun i => UInt8.ofNat (bt s i).toNat := by
  apply List.ext_getElem
  · simp; omega
  · intro i h1 h2
    have hi : i < s.size := by simp at h1; omega
    simp only [List.getElem_take, List.getElem_map, List.getElem_range]
    rw [← bt_eq hi]
    simp
    rfl
theorem extract_front (s : ByteArray) (k : Nat) : (s.extract 0 k).toList = s.data.toList.take k := by
  rw [toList_eq]
  simp [ByteArray.data_extract]

theorem cons_eq {a b : Int} {l m : List UInt8} (h : a = b) (h' : l = m) : UInt8.ofNat a.toNat :: l = UInt8.ofNat b.toNat :: m := by rw [h, h']

theorem num_front (s : ByteArray) (h : gsz s ≤ s.size) : ((strOfNums (numI (gval s))).toList == (s.extract 0 (gsz s)).toList) = decide (qsize (gval s) = gsz s) := by
  have r0 := bt_rng s 0
  have r1 := bt_rng s 1
  have r2 := bt_rng s 2
  have r3 := bt_rng s 3
  have r4 := bt_rng s 4
  have r5 := bt_rng s 5
  have r6 := bt_rng s 6
  have r7 := bt_rng s 7
  rw [toList_strOfNums, extract_front, take_bt s _ h]
  by_cases hq : qsize (gval s) = gsz s
  · rw [decide_eq_true hq, beq_iff_eq]
    by_cases c1 : bt s 0 < 64
    · have g1 : gsz s = 1 := by unfold gsz; rw [if_pos (by omega)]
      have g2 : gval s = bt s 0 % 64 := by unfold gval; rw [if_pos (by omega)]
      rw [g1] at hq ⊢
      have hlo : 0 ≤ gval s ∧ gval s < 64 := by
        unfold qsize at hq
        repeat' split at hq
        all_goals omega
      rw [numI_1 hlo.1 hlo.2]
      generalize gval s = V at *
      clear hq hlo h
      subst g2
      simp only [List.map_cons, List.map_nil, show List.range 1 = [0] from rfl]
      repeat (refine cons_eq (by omega) ?_)
      rfl
    by_cases c2 : bt s 0 < 128
    · have g1 : gsz s = 2 := by unfold gsz; rw [if_neg (by omega), if_pos (by omega)]
      have g2 : gval s = (bt s 0 % 64) * 256 + bt s 1 := by unfold gval; rw [if_neg (by omega), if_pos (by omega)]
      rw [g1] at hq ⊢
      have hlo : 64 ≤ gval s ∧ gval s < 16384 := by
        unfold qsize at hq
        repeat' split at hq
        all_goals omega
      rw [numI_2 hlo.1 hlo.2]
      generalize gval s = V at *
      clear hq hlo h
      subst g2
      simp only [List.map_cons, List.map_nil, show List.range 2 = [0, 1] from rfl]
      repeat (refine cons_eq (by omega) ?_)
      rfl
    by_cases c4 : bt s 0 < 192
    · have g1 : gsz s = 4 := by unfold gsz; rw [if_neg (by omega), if_neg (by omega), if_pos (by omega)]
      have g2 : gval s = (((bt s 0 % 64) * 256 + bt s 1) * 256 + bt s 2) * 256 + bt s 3 := by unfold gval; rw [if_neg (by omega), if_neg (by omega), if_pos (by omega)]
      rw [g1] at hq ⊢
      have hlo : 16384 ≤ gval s ∧ gval s < 1073741824 := by
        unfold qsize at hq
        repeat' split at hq
        all_goals omega
      rw [numI_4 hlo.1 hlo.2]
      generalize gval s = V at *
      clear hq hlo h
      subst g2
      simp only [List.map_cons, List.map_nil, show List.range 4 = [0, 1, 2, 3] from rfl]
      repeat (refine cons_eq (by omega) ?_)
      rfl
    · have g1 : gsz s = 8 := by unfold gsz; rw [if_neg (by omega), if_neg (by omega), if_neg (by omega)]
      have g2 : gval s = (((((((bt s 0 % 64) * 256 + bt s 1) * 256 + bt s 2) * 256 + bt s 3) * 256 + bt s 4) * 256 + bt s 5) * 256 + bt s 6) * 256 + bt s 7 := by unfold gval; rw [if_neg (by omega), if_neg (by omega), if_neg (by omega)]
      rw [g1] at hq ⊢
      have hlo : 1073741824 ≤ gval s ∧ gval s ≤ 4611686018427387903 := by
        unfold qsize at hq
        repeat' split at hq
        all_goals omega
      rw [numI_8 hlo.1 hlo.2]
      generalize gval s = V at *
      clear hq hlo h
      subst g2
      simp only [List.map_cons, List.map_nil, show List.range 8 = [0, 1, 2, 3, 4, 5, 6, 7] from rfl]
      repeat (refine cons_eq (by omega) ?_)
      rfl
  · rw [decide_eq_false hq, beq_eq_false_iff_ne]
    intro e
    have := congrArg List.length e
    simp only [List.length_map, numI_len, List.length_range] at this
    have h0 : 0 ≤ qsize (gval s) := by unfold qsize; (repeat' split) <;> omega
    omega

end Go.Proofs.YtfbhalkiilbcoaaGreatDoor.Q
/- quic.List and quic.Unlist: their walks. -/
namespace Go.Proofs.YtfbhalkiilbcoaaGreatDoor.Q
open Go.RowKit

def strVals (l : List ByteArray) : List Value := l.map Value.string
theorem strs_at {w : World} {a : Option Addr} {cap : Nat} {l : List ByteArray} (h : IsRow w 1 (.slice a l.length cap) l.length (strVals l)) (i : Nat) (hi : i < l.length) :
    ∃ b off, a = some ⟨b, off, none⟩ ∧ b < w.heap.size ∧ w.cell? ⟨b, off + i, none⟩ = some (.string (l[i]'hi)) := by
  obtain ⟨b, off, cap', hv, hlt, _, _, hc⟩ := h.open (by omega)
  simp only [Value.slice.injEq] at hv
  exact ⟨b, off, hv.1, hlt, hc i _ (by simp [strVals, hi])⟩

/-- A text with its length ahead. -/
def txB (s : ByteArray) : List UInt8 := numL s.size ++ s.data.toList
def okT (s : ByteArray) : Bool := decide (s.size ≤ 65536)
/-- What is gathered of so many texts. -/
def ul : List ByteArray → ByteArray → Nat → List ByteArray × ByteArray × Int
  | acc, s, 0 => (acc, s, 0)
  | acc, s, n + 1 => if ttE s = 0 then ul (acc ++ [ttS s]) (ttR s) n else ([], ⟨#[]⟩, ttE s)
def unlistR (s : ByteArray) : List ByteArray × ByteArray × Int :=
  if getE s ≠ 0 then ([], ⟨#[]⟩, getE s) else if 4096 < getV s then ([], ⟨#[]⟩, 2) else ul [] (getRest s) (getV s).toNat
def UnPost (r : List ByteArray × ByteArray × Int) (w : World) (e : Ending) (w' : World) : Prop :=
  ∃ v, e = .returned (.tuple #[v, .string r.2.1, .int .i64 r.2.2]) ∧ IsRow w' 1 v r.1.length (strVals r.1) ∧ Below w.heap.size w w'
theorem info_string : (Tryz.prog.info? 9).map (fun i => (i.zero, i.size, i.bytes)) = some (some (.string ⟨#[]⟩), 1, 16) := by kernel_rfl

theorem allt_take {l : List ByteArray} {k : Nat} (h : k < l.length) (h1 : (l.take k).all okT = true) (h2 : okT (l[k]'h) = true) : (l.take (k + 1)).all okT = true := by
  rw [List.take_succ_eq_append_getElem h, List.all_append, h1]
  simp [h2]
theorem txB_len (s : ByteArray) (h : okT s = true) : (txB s).length ≤ 65544 := by
  have hq : (numL s.size).length ≤ 8 := by have := num_size_le s.size; have := strOfNums_len s.size; have := numL_len s.size; omega
  have hh := of_decide_eq_true h
  unfold txB
  rw [List.length_append]
  have e : s.data.toList.length = s.size := by simp
  omega
theorem flatT_len (l : List ByteArray) (h : l.all okT = true) : (l.flatMap txB).length ≤ l.length * 65544 := by
  induction l with
  | nil => simp
  | cons x l ih =>
    simp only [List.all_cons, Bool.and_eq_true] at h
    have h1 := txB_len x h.1
    have h2 := ih h.2
    simp only [List.flatMap_cons, List.length_append, List.length_cons]
    omega
theorem allt_take' (l : List ByteArray) (k : Nat) (h : l.all okT = true) : (l.take k).all okT = true := by
  rw [List.all_eq_true] at h ⊢
  exact fun x hx => h x (List.mem_of_mem_take hx)

end Go.Proofs.YtfbhalkiilbcoaaGreatDoor.Q
/- Plain mathematics: what is read, written again, are the bytes that were read. -/
namespace Go.Proofs.YtfbhalkiilbcoaaGreatDoor.Q
open Go.RowKit

theorem extract_back (s : ByteArray) (a : Nat) : (s.extract a s.size).data.toList = s.data.toList.drop a := by
  rw [ByteArray.data_extract, Array.toList_extract, List.extract_eq_take_drop]
  exact List.take_of_length_le (by rw [List.length_drop, Array.length_toList]; exact Nat.le_refl _)
theorem extract_front' (s : ByteArray) (a : Nat) : (s.extract 0 a).data.toList = s.data.toList.take a := by
  rw [ByteArray.data_extract]
  simp

theorem getE_zero {s : ByteArray} (h : getE s = 0) : gsz s ≤ s.size ∧ qsize (gval s) = gsz s := by
  unfold getE at h
  split at h
  · omega
  · split at h
    · exact ⟨by omega, by assumption⟩
    · omega
theorem get_bytes {s : ByteArray} (h : getE s = 0) : numL (getV s) ++ (getRest s).data.toList = s.data.toList := by
  obtain ⟨h1, h2⟩ := getE_zero h
  have e1 : getV s = gval s := by unfold getV; rw [if_pos h]
  have e2 : getRest s = s.extract (gsz s) s.size := by unfold getRest; rw [if_pos h]
  have hf := num_front s h1
  rw [decide_eq_true h2, beq_iff_eq, strOfNums_toList, extract_front] at hf
  rw [e1, e2, hf, extract_back]
  exact List.take_append_drop _ _

theorem zig_wof (n : Int) (h0 : 0 ≤ n) (h1 : n ≤ 4611686018427387903) : zig (wof n) = n ∧ -2305843009213693952 ≤ wof n ∧ wof n ≤ 2305843009213693951 := by
  unfold wof
  split
  · refine ⟨?_, by omega, by omega⟩
    rw [zig_pos (by omega) (by omega)]; omega
  · refine ⟨?_, by omega, by omega⟩
    rw [zig_neg (by omega) (by omega)]; omega

theorem text_bytes {s : ByteArray} (h : ttE s = 0) : (ttS s).size ≤ 65536 ∧ txB (ttS s) ++ (ttR s).data.toList = s.data.toList := by
  have hv := getV_nn s
  have e1 : ttS s = (getRest s).extract 0 (getV s).toNat := by unfold ttS; rw [if_pos h]
  have e2 : ttR s = (getRest s).extract (getV s).toNat (getRest s).size := by unfold ttR; rw [if_pos h]
  unfold ttE at h
  split at h
  · rename_i hn; exact absurd h hn
  rename_i hg
  have hg : getE s = 0 := by simpa using hg
  split at h
  · omega
  split at h
  · omega
  have hz : ((getRest s).extract 0 (getV s).toNat).size = (getV s).toNat := by rw [size_extract _ _ _ (by omega)]; omega
  rw [e1, e2]
  refine ⟨by omega, ?_⟩
  unfold txB
  rw [hz, Int.toNat_of_nonneg hv.1, extract_front', extract_back, List.append_assoc, List.take_append_drop]
  exact get_bytes hg

theorem item_bytes {s : ByteArray} {k : Int} (h1 : 1 ≤ k) (h4 : k ≤ 4) (h : tE s k = 0) : mayB k (tN s k) (tS s k) = true ∧ itB ⟨k, tN s k, tS s k⟩ ++ (tR s k).data.toList = s.data.toList := by
  have hv := getV_nn s
  obtain rfl | rfl | rfl | rfl : k = 1 ∨ k = 2 ∨ k = 3 ∨ k = 4 := by omega
  · have h : getE s = 0 := h
    refine ⟨?_, ?_⟩
    · show mayB 1 (getV s) ⟨#[]⟩ = true
      have : decide (0 ≤ getV s ∧ getV s ≤ 4611686018427387903) = true := decide_eq_true hv
      unfold mayB
      rw [if_pos rfl, this, isEmpty_to ⟨#[]⟩ rfl]
      rfl
    · show numL (getV s) ++ (getRest s).data.toList = _
      exact get_bytes h
  · have h : getE s = 0 := h
    obtain ⟨z1, z2, z3⟩ := zig_wof (getV s) hv.1 hv.2
    refine ⟨?_, ?_⟩
    · show mayB 2 (wof (getV s)) ⟨#[]⟩ = true
      have : decide (-2305843009213693952 ≤ wof (getV s) ∧ wof (getV s) ≤ 2305843009213693951) = true := decide_eq_true ⟨z2, z3⟩
      unfold mayB
      rw [if_neg (by decide), if_pos rfl, this, isEmpty_to ⟨#[]⟩ rfl]
      rfl
    · show numL (zig (wof (getV s))) ++ (getRest s).data.toList = _
      rw [z1]
      exact get_bytes h
  · have h : tfE s = 0 := h
    have hb := bt_rng s 0
    have e1 : tfV s = bt s 0 := by unfold tfV; rw [if_pos h]
    have e2 : tfR s = s.extract 1 s.size := by unfold tfR; rw [if_pos h]
    unfold tfE at h
    split at h
    · omega
    split at h
    · omega
    rename_i hz ho
    refine ⟨?_, ?_⟩
    · show mayB 3 (tfV s) ⟨#[]⟩ = true
      have : decide (tfV s = 0 ∨ tfV s = 1) = true := decide_eq_true (by omega)
      unfold mayB
      rw [if_neg (by decide), if_neg (by decide), if_pos rfl, this, isEmpty_to ⟨#[]⟩ rfl]
      rfl
    · show [UInt8.ofNat (tfV s).toNat] ++ (tfR s).data.toList = _
      rw [e1, e2, extract_back]
      have ht := take_bt s 1 (by omega)
      have : [UInt8.ofNat (bt s 0).toNat] = s.data.toList.take 1 := by rw [ht]; rfl
      rw [this]
      exact List.take_append_drop _ _
  · have h : ttE s = 0 := h
    obtain ⟨t1, t2⟩ := text_bytes h
    refine ⟨?_, ?_⟩
    · show mayB 4 0 (ttS s) = true
      unfold mayB
      rw [if_neg (by decide), if_neg (by decide), if_neg (by decide), if_pos rfl]
      exact decide_eq_true ⟨rfl, t1⟩
    · exact t2

theorem tk_bytes : ∀ (ks : List Int) (acc : List It) (s : ByteArray), ks.all isK = true → (tk acc s ks).2.2 = 0 →
    ∃ ys : List It, (tk acc s ks).1 = acc ++ ys ∧ ys.all mayIt = true ∧ ys.length = ks.length ∧ ys.flatMap itB ++ (tk acc s ks).2.1.data.toList = s.data.toList
  | [], acc, s, _, _ => ⟨[], by simp [tk], rfl, rfl, by simp [tk]⟩
  | k :: ks, acc, s, hk, h => by
    simp only [List.all_cons, Bool.and_eq_true] at hk
    by_cases he : tE s k = 0
    · have e : tk acc s (k :: ks) = tk (acc ++ [⟨k, tN s k, tS s k⟩]) (tR s k) ks := by
        show (if tE s k = 0 then _ else _) = _
        rw [if_pos he]
      rw [e] at h ⊢
      obtain ⟨ys, y1, y2, y3, y4⟩ := tk_bytes ks _ _ hk.2 h
      have hk1 := of_decide_eq_true hk.1
      obtain ⟨m, b⟩ := item_bytes hk1.1 hk1.2 he
      refine ⟨⟨k, tN s k, tS s k⟩ :: ys, ?_, ?_, ?_, ?_⟩
      · rw [y1]; simp
      · simp only [List.all_cons, y2, Bool.and_true]; exact m
      · simp [y3]
      · rw [List.flatMap_cons, List.append_assoc, y4, b]
    · exfalso
      have e : tk acc s (k :: ks) = ([], ⟨#[]⟩, tE s k) := by
        show (if tE s k = 0 then _ else _) = _
        rw [if_neg he]
      rw [e] at h
      exact he h

theorem ul_bytes : ∀ (n : Nat) (acc : List ByteArray) (s : ByteArray), (ul acc s n).2.2 = 0 →
    ∃ ys : List ByteArray, (ul acc s n).1 = acc ++ ys ∧ ys.all okT = true ∧ ys.length = n ∧ ys.flatMap txB ++ (ul acc s n).2.1.data.toList = s.data.toList
  | 0, acc, s, _ => ⟨[], by simp [ul], rfl, rfl, by simp [ul]⟩
  | n + 1, acc, s, h => by
    by_cases he : ttE s = 0
    · have e : ul acc s (n + 1) = ul (acc ++ [ttS s]) (ttR s) n := by
        show (if ttE s = 0 then _ else _) = _
        rw [if_pos he]
      rw [e] at h ⊢
      obtain ⟨ys, y1, y2, y3, y4⟩ := ul_bytes n _ _ h
      obtain ⟨m, b⟩ := text_bytes he
      refine ⟨ttS s :: ys, ?_, ?_, ?_, ?_⟩
      · rw [y1]; simp
      · simp only [List.all_cons, y2, Bool.and_true]; exact decide_eq_true m
      · simp [y3]
      · rw [List.flatMap_cons, List.append_assoc, y4, b]
    · exfalso
      have e : ul acc s (n + 1) = ([], ⟨#[]⟩, ttE s) := by
        show (if ttE s = 0 then _ else _) = _
        rw [if_neg he]
      rw [e] at h
      exact he h
/-- A list that was read, written again. -/
theorem unlist_bytes {s : ByteArray} (h : (unlistR s).2.2 = 0) : (unlistR s).1.all okT = true ∧ (unlistR s).1.length ≤ 4096 ∧ (numL (unlistR s).1.length ++ (unlistR s).1.flatMap txB) ++ (unlistR s).2.1.data.toList = s.data.toList := by
  have hv := getV_nn s
  unfold unlistR at h ⊢
  split at h
  · rename_i hn; exact absurd h hn
  rename_i hg
  have hg : getE s = 0 := by simpa using hg
  rw [if_neg (by omega)]
  split at h
  · simp at h
  rename_i hl
  rw [if_neg hl]
  obtain ⟨ys, y1, y2, y3, y4⟩ := ul_bytes _ _ _ h
  rw [List.nil_append] at y1
  rw [y1]
  refine ⟨y2, by omega, ?_⟩
  rw [y3, Int.toNat_of_nonneg hv.1, List.append_assoc, y4]
  exact get_bytes hg
/-- Where it was not read there is nothing. -/
theorem unlist_none {s : ByteArray} (h : ¬ (unlistR s).2.2 = 0) : (unlistR s).1 = [] ∧ (unlistR s).2.1 = ⟨#[]⟩ := by
  have key : ∀ (n : Nat) (acc : List ByteArray) (s : ByteArray), ¬ (ul acc s n).2.2 = 0 → (ul acc s n).1 = [] ∧ (ul acc s n).2.1 = ⟨#[]⟩ := by
    intro n
    induction n with
    | zero => intro acc s h; exact absurd rfl h
    | succ n ih =>
      intro acc s h
      by_cases he : ttE s = 0
      · have e : ul acc s (n + 1) = ul (acc ++ [ttS s]) (ttR s) n := by
          show (if ttE s = 0 then _ else _) = _
          rw [if_pos he]
        rw [e] at h ⊢
        exact ih _ _ h
      · have e : ul acc s (n + 1) = ([], ⟨#[]⟩, ttE s) := by
          show (if ttE s = 0 then _ else _) = _
          rw [if_neg he]
        rw [e]
        exact ⟨rfl, rfl⟩
  unfold unlistR at h ⊢
  split
  · exact ⟨rfl, rfl⟩
  split
  · exact ⟨rfl, rfl⟩
  · rename_i h1 h2
    rw [if_neg h1, if_neg h2] at h
    exact key _ _ _ h
end Go.Proofs.YtfbhalkiilbcoaaGreatDoor.Q
/- Plain mathematics: what is written is read, whatever stands behind it. -/
namespace Go.Proofs.YtfbhalkiilbcoaaGreatDoor.Q
open Go.RowKit

theorem bt_list (s : ByteArray) (i : Nat) : bt s i = ((s.data.toList.getD i 0).toNat : Int) := by
  unfold bt
  split
  · rename_i h
    have h' : i < s.data.toList.length := by simpa using h
    simp only [List.getD, List.getElem?_eq_getElem h', Option.getD_some]
    rfl
  · rename_i h
    have h' : s.data.toList.length ≤ i := by simpa using h
    simp only [List.getD, List.getElem?_eq_none h', Option.getD_none]
    rfl
theorem ba_of {a b : ByteArray} (h : a.data.toList = b.data.toList) : a = b := by
  rw [ba_eta a, ba_eta b, h]
theorem size_list (s : ByteArray) : s.data.toList.length = s.size := by simp

/-- What getE, getV, getRest are, once the form's size is known. -/
theorem get_of {s : ByteArray} {k : Nat} {n : Int} (h1 : gsz s = k) (h2 : k ≤ s.size) (h3 : gval s = n) (h4 : qsize n = k) : getE s = 0 ∧ getV s = n ∧ (getRest s).data.toList = s.data.toList.drop k := by
  have e : getE s = 0 := by unfold getE; rw [h1, if_neg (by omega), h3, if_pos h4]
  refine ⟨e, ?_, ?_⟩
  · unfold getV; rw [if_pos e, h3]
  · unfold getRest; rw [if_pos e, h1, extract_back]

theorem get_num {s : ByteArray} {n : Int} {r : List UInt8} (h0 : 0 ≤ n) (h1 : n ≤ 4611686018427387903) (h : s.data.toList = numL n ++ r) : getE s = 0 ∧ getV s = n ∧ (getRest s).data.toList = r := by
  have hl := congrArg List.length h
  rw [size_list, List.length_append] at hl
  have hb : ∀ i, bt s i = (((numL n ++ r).getD i 0).toNat : Int) := fun i => by rw [bt_list, h]
  by_cases c1 : n < 64
  · have e : numL n = [UInt8.ofNat n.toNat] := by unfold numL; rw [numI_1 h0 c1]; rfl
    rw [e] at hb hl h
    have b0 : bt s 0 = n := (hb 0).trans (u8nat n h0 (by omega))
    simp only [List.length_cons, List.length_nil] at hl
    have g1 : gsz s = 1 := by unfold gsz; rw [b0, if_pos (by omega)]
    have g2 : gval s = n := by unfold gval; rw [b0, if_pos (by omega)]; omega
    obtain ⟨a, b, c⟩ := get_of g1 (by omega) g2 (qsize_1 h0 c1)
    exact ⟨a, b, by rw [c, h]; rfl⟩
  by_cases c2 : n < 16384
  · have e : numL n = [UInt8.ofNat (64 + n / 256).toNat, UInt8.ofNat (n % 256).toNat] := by unfold numL; rw [numI_2 (by omega) c2]; rfl
    rw [e] at hb hl h
    have b0 : bt s 0 = 64 + n / 256 := (hb 0).trans (u8nat _ (by omega) (by omega))
    have b1 : bt s 1 = n % 256 := (hb 1).trans (u8nat _ (by omega) (by omega))
    simp only [List.length_cons, List.length_nil] at hl
    have g1 : gsz s = 2 := by unfold gsz; rw [b0, if_neg (by omega), if_pos (by omega)]
    have g2 : gval s = n := by unfold gval; rw [b0, b1, if_neg (by omega), if_pos (by omega)]; omega
    obtain ⟨a, b, c⟩ := get_of g1 (by omega) g2 (qsize_2 (by omega) c2)
    exact ⟨a, b, by rw [c, h]; rfl⟩
  by_cases c4 : n < 1073741824
  · have e : numL n = [UInt8.ofNat (128 + n / 16777216).toNat, UInt8.ofNat (n / 65536 % 256).toNat, UInt8.ofNat (n / 256 % 256).toNat, UInt8.ofNat (n % 256).toNat] := by unfold numL; rw [numI_4 (by omega) c4]; rfl
    rw [e] at hb hl h
    have b0 : bt s 0 = 128 + n / 16777216 := (hb 0).trans (u8nat _ (by omega) (by omega))
    have b1 : bt s 1 = n / 65536 % 256 := (hb 1).trans (u8nat _ (by omega) (by omega))
    have b2 : bt s 2 = n / 256 % 256 := (hb 2).trans (u8nat _ (by omega) (by omega))
    have b3 : bt s 3 = n % 256 := (hb 3).trans (u8nat _ (by omega) (by omega))
    simp only [List.length_cons, List.length_nil] at hl
    have g1 : gsz s = 4 := by unfold gsz; rw [b0, if_neg (by omega), if_neg (by omega), if_pos (by omega)]
    have g2 : gval s = n := by unfold gval; rw [b0, b1, b2, b3, if_neg (by omega), if_neg (by omega), if_pos (by omega)]; omega
    obtain ⟨a, b, c⟩ := get_of g1 (by omega) g2 (qsize_4 (by omega) c4)
    exact ⟨a, b, by rw [c, h]; rfl⟩
  · have e : numL n = [UInt8.ofNat (192 + n / 72057594037927936).toNat, UInt8.ofNat (n / 281474976710656 % 256).toNat, UInt8.ofNat (n / 1099511627776 % 256).toNat, UInt8.ofNat (n / 4294967296 % 256).toNat, UInt8.ofNat (n / 16777216 % 256).toNat, UInt8.ofNat (n / 65536 % 256).toNat, UInt8.ofNat (n / 256 % 256).toNat, UInt8.ofNat (n % 256).toNat] := by unfold numL; rw [numI_8 (by omega) h1]; rfl
    rw [e] at hb hl h
    have b0 : bt s 0 = 192 + n / 72057594037927936 := (hb 0).trans (u8nat _ (by omega) (by omega))
    have b1 : bt s 1 = n / 281474976710656 % 256 := (hb 1).trans (u8nat _ (by omega) (by omega))
    have b2 : bt s 2 = n / 1099511627776 % 256 := (hb 2).trans (u8nat _ (by omega) (by omega))
    have b3 : bt s 3 = n / 4294967296 % 256 := (hb 3).trans (u8nat _ (by omega) (by omega))
    have b4 : bt s 4 = n / 16777216 % 256 := (hb 4).trans (u8nat _ (by omega) (by omega))
    have b5 : bt s 5 = n / 65536 % 256 := (hb 5).trans (u8nat _ (by omega) (by omega))
    have b6 : bt s 6 = n / 256 % 256 := (hb 6).trans (u8nat _ (by omega) (by omega))
    have b7 : bt s 7 = n % 256 := (hb 7).trans (u8nat _ (by omega) (by omega))
    simp only [List.length_cons, List.length_nil] at hl
    have g1 : gsz s = 8 := by unfold gsz; rw [b0, if_neg (by omega), if_neg (by omega), if_neg (by omega)]
    have g2 : gval s = n := by unfold gval; rw [b0, b1, b2, b3, b4, b5, b6, b7, if_neg (by omega), if_neg (by omega), if_neg (by omega)]; omega
    obtain ⟨a, b, c⟩ := get_of g1 (by omega) g2 (qsize_8 (by omega) h1)
    exact ⟨a, b, by rw [c, h]; rfl⟩

theorem text_read {s t : ByteArray} {r : List UInt8} (ht : t.size ≤ 65536) (h : s.data.toList = txB t ++ r) : ttE s = 0 ∧ ttS s = t ∧ (ttR s).data.toList = r := by
  unfold txB at h
  rw [List.append_assoc] at h
  obtain ⟨a, b, c⟩ := get_num (by omega) (by omega) h
  have hz : (getRest s).size = t.size + r.length := by rw [← size_list, c, List.length_append, size_list]
  have e : ttE s = 0 := by
    unfold ttE
    rw [if_neg (by omega), b, if_neg (by omega), if_neg (by omega)]
  refine ⟨e, ?_, ?_⟩
  · unfold ttS
    rw [if_pos e, b]
    apply ba_of
    rw [extract_front', c, Int.toNat_natCast, ← size_list t]
    exact List.take_left
  · unfold ttR
    rw [if_pos e, b, extract_back, c, Int.toNat_natCast, ← size_list t]
    exact List.drop_left

theorem wof_zig (z : Int) (h0 : -2305843009213693952 ≤ z) (h1 : z ≤ 2305843009213693951) : wof (zig z) = z ∧ 0 ≤ zig z ∧ zig z ≤ 4611686018427387903 := by
  by_cases c : z < 0
  · rw [zig_neg h0 c]
    refine ⟨?_, by omega, by omega⟩
    unfold wof
    rw [if_neg (by omega)]; omega
  · rw [zig_pos (by omega) h1]
    refine ⟨?_, by omega, by omega⟩
    unfold wof
    rw [if_pos (by omega)]; omega

theorem empty_eq {s : ByteArray} (h : s.toList.isEmpty = true) : s = ⟨#[]⟩ := by
  have := (nil_size s).1 (by simpa using h)
  exact ba_of (List.eq_nil_of_length_eq_zero (by rw [size_list]; exact this))

theorem item_read {s : ByteArray} {x : It} {r : List UInt8} (hm : mayIt x = true) (h : s.data.toList = itB x ++ r) : isK x.k = true ∧ tE s x.k = 0 ∧ (⟨x.k, tN s x.k, tS s x.k⟩ : It) = x ∧ (tR s x.k).data.toList = r := by
  obtain ⟨k, n, t⟩ := x
  unfold mayIt mayB at hm
  simp only at hm h ⊢
  split at hm
  · rename_i c
    subst c
    rw [Bool.and_eq_true] at hm
    have hn := of_decide_eq_true hm.2
    have h : s.data.toList = numL n ++ r := h
    obtain ⟨a, b, c⟩ := get_num hn.1 hn.2 h
    refine ⟨rfl, a, ?_, c⟩
    show It.mk 1 (getV s) ⟨#[]⟩ = _
    rw [b, empty_eq hm.1]
  split at hm
  · rename_i _ c
    subst c
    rw [Bool.and_eq_true] at hm
    have hn := of_decide_eq_true hm.2
    obtain ⟨z1, z2, z3⟩ := wof_zig n hn.1 hn.2
    have h : s.data.toList = numL (zig n) ++ r := h
    obtain ⟨a, b, c⟩ := get_num z2 z3 h
    refine ⟨rfl, a, ?_, c⟩
    show It.mk 2 (wof (getV s)) ⟨#[]⟩ = _
    rw [b, z1, empty_eq hm.1]
  split at hm
  · rename_i _ _ c
    subst c
    rw [Bool.and_eq_true] at hm
    have hn := of_decide_eq_true hm.2
    have h : s.data.toList = UInt8.ofNat n.toNat :: r := h
    have hz : s.size = r.length + 1 := by rw [← size_list, h]; rfl
    have hb : bt s 0 = n := by
      rw [bt_list, h]
      exact u8nat n (by omega) (by omega)
    have e : tfE s = 0 := by unfold tfE; rw [if_neg (by omega), if_neg (by omega)]
    refine ⟨rfl, e, ?_, ?_⟩
    · show It.mk 3 (tfV s) ⟨#[]⟩ = _
      unfold tfV
      rw [if_pos e, hb, empty_eq hm.1]
    · show (tfR s).data.toList = r
      unfold tfR
      rw [if_pos e, extract_back, h]
      rfl
  split at hm
  · rename_i _ _ _ c
    subst c
    have hn := of_decide_eq_true hm
    have h : s.data.toList = txB t ++ r := h
    obtain ⟨a, b, c⟩ := text_read hn.2 h
    refine ⟨rfl, a, ?_, c⟩
    show It.mk 4 0 (ttS s) = _
    rw [b, hn.1]
  · cases hm

theorem tk_read : ∀ (l acc : List It) (s : ByteArray) (r : List UInt8), l.all mayIt = true → s.data.toList = l.flatMap itB ++ r →
    (l.map It.k).all isK = true ∧ (tk acc s (l.map It.k)).1 = acc ++ l ∧ (tk acc s (l.map It.k)).2.1.data.toList = r ∧ (tk acc s (l.map It.k)).2.2 = 0
  | [], acc, s, r, _, h => ⟨rfl, by simp [tk], by simpa [tk] using h, rfl⟩
  | x :: l, acc, s, r, hm, h => by
    simp only [List.all_cons, Bool.and_eq_true] at hm
    rw [List.flatMap_cons, List.append_assoc] at h
    obtain ⟨a, b, c, d⟩ := item_read hm.1 h
    have e : tk acc s ((x :: l).map It.k) = tk (acc ++ [x]) (tR s x.k) (l.map It.k) := by
      show (if tE s x.k = 0 then tk (acc ++ [⟨x.k, tN s x.k, tS s x.k⟩]) (tR s x.k) (l.map It.k) else _) = _
      rw [if_pos b, c]
    obtain ⟨i1, i2, i3, i4⟩ := tk_read l (acc ++ [x]) (tR s x.k) r hm.2 d
    rw [e]
    refine ⟨?_, ?_, i3, i4⟩
    · simp only [List.map_cons, List.all_cons, a, i1, Bool.and_self]
    · rw [i2]; simp
theorem ul_read : ∀ (l acc : List ByteArray) (s : ByteArray) (r : List UInt8), l.all okT = true → s.data.toList = l.flatMap txB ++ r →
    (ul acc s l.length).1 = acc ++ l ∧ (ul acc s l.length).2.1.data.toList = r ∧ (ul acc s l.length).2.2 = 0
  | [], acc, s, r, _, h => ⟨by simp [ul], by simpa [ul] using h, rfl⟩
  | x :: l, acc, s, r, hm, h => by
    simp only [List.all_cons, Bool.and_eq_true] at hm
    rw [List.flatMap_cons, List.append_assoc] at h
    obtain ⟨a, b, c⟩ := text_read (of_decide_eq_true hm.1) h
    have e : ul acc s (x :: l).length = ul (acc ++ [x]) (ttR s) l.length := by
      show (if ttE s = 0 then ul (acc ++ [ttS s]) (ttR s) l.length else _) = _
      rw [if_pos a, b]
    obtain ⟨i2, i3, i4⟩ := ul_read l (acc ++ [x]) (ttR s) r hm.2 c
    rw [e]
    exact ⟨by rw [i2]; simp, i3, i4⟩
/-- A row that was written, read by its kinds. -/
theorem takeR_read {l : List It} {s b : ByteArray} (hm : l.all mayIt = true) (h : s.data.toList = l.flatMap itB ++ b.data.toList) : takeR s (l.map It.k) = (l, b, 0) := by
  obtain ⟨a, i2, i3, i4⟩ := tk_read l [] s _ hm h
  unfold takeR
  rw [if_pos a]
  exact Prod.ext (by simpa using i2) (Prod.ext (ba_of i3) i4)
/-- A list that was written, read. -/
theorem unlistR_read {l : List ByteArray} {s b : ByteArray} (hl : l.length ≤ 4096) (hm : l.all okT = true) (h : s.data.toList = (numL l.length ++ l.flatMap txB) ++ b.data.toList) : unlistR s = (l, b, 0) := by
  rw [List.append_assoc] at h
  obtain ⟨a, v, r⟩ := get_num (by omega) (by omega) h
  obtain ⟨i2, i3, i4⟩ := ul_read l [] (getRest s) _ hm r
  unfold unlistR
  rw [if_neg (by omega), v, if_neg (by omega), Int.toNat_natCast]
  exact Prod.ext (by simpa using i2) (Prod.ext (ba_of i3) i4)
end Go.Proofs.YtfbhalkiilbcoaaGreatDoor.Q
