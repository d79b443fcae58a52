/- The law's refs and few; the reference's Put. -/
import Derived.Test.YtdendpckihckeaaGreatDoorZb12
import Derived.Test.YtdendpckihckeaaGreatDoorZb7
namespace Go.Proofs.YtdendpckihckeaaGreatDoor.Q
open Go.RowKit

/-- An append of one element of several cells onto a row that the call owns. -/
theorem wpl_appk {P : Program} (wr : World) {ops : Array Oper} {rest : List Oper} {o : Oper} {a : Act} {Q : Exit → Act → World → Prop} (hgd : o.guard = none) (s x : Operand) (t e : TypeId)
    (ho : o.op = .call { callee := .builtin .append, args := #[s, x], argTypes := #[t, t] })
    (i : TypeInfo) (z : Value) (size bytes : Nat) (ht : P.underlying t = some (.slice e)) (hi : P.info? e = some i) (hz : i.zero = some z)
    (hsize : i.size = size) (hby : i.bytes = bytes) (hzs : z.cells.size = size) (hsz : 0 < size)
    (base : Nat) (v : Value) (n : Nat) (xs : List Value) (hs : a.eval s = v) (hown : wr.ownsRow base e size v n xs)
    (es : List Value) (hes : es.length = size) (C : Array Value) (hC : C = es.toArray) (hx : a.eval x = .slice (some ⟨wr.heap.size, 0, none⟩) 1 1) (h1 : ∀ u ∈ es, u.oneCell' = true)
    (hbytes : (n + 1) * bytes ≤ 140737488355328) (h63 : n + 1 ≤ maxLen) (hbase : base ≤ wr.heap.size)
    (h : ∀ v' w', w'.ownsRow base e size v' (n + 1) (xs ++ es) → Below base wr w' → wpList P ops Q rest (a.put o.dst v') w') :
    wpList P ops Q (o :: rest) a (wr.alloc (.cells C e)) := by
  subst hC
  refine wpList_append_own _ hgd s x t ho base e i z size bytes ht hi hz hsize hby hzs hsz v n xs hs (hown.alloc _) ⟨wr.heap.size, 0, none⟩ 1 1 es hx (by omega) ?_ h1 h63 hbytes ?_ ?_
  · intro j u hj
    have : (⟨wr.heap.size, 0, none⟩ : Addr).add j = ⟨wr.heap.size, j, none⟩ := by unfold Addr.add; split <;> simp_all
    rw [this]
    simpa using hj
  · simp; omega
  · intro v' w' h2 h3 h4
    refine h v' w' h2 ?_
    exact ((Below.refl _ _).alloc hbase _).grown h3 (by simp; omega) (fun k hk => (hown.lt k hk).1)

/-- What few lets by: no more than 201 items, their texts short. -/
def Small (l : List It) : Prop := l.length ≤ 201 ∧ ∀ x ∈ l, x.s.size ≤ 20000

def FewPost (l : List It) (w : World) (e : Ending) (w' : World) : Prop := ∃ b : Bool, e = .returned (.bool b) ∧ (b = true → Small l) ∧ Below w.heap.size w w'

end Go.Proofs.YtdendpckihckeaaGreatDoor.Q
/- quic.Take: items of kinds at the front of bytes. -/
namespace Go.Proofs.YtdendpckihckeaaGreatDoor.Q
open Go.RowKit

def isK (k : Int) : Bool := decide (1 ≤ k ∧ k ≤ 4)
/-- What Take gathers, from some items and the bytes that are left on. -/
def tk : List It → ByteArray → List Int → List It × ByteArray × Int
  | acc, s, [] => (acc, s, 0)
  | acc, s, k :: ks => if tE s k = 0 then tk (acc ++ [⟨k, tN s k, tS s k⟩]) (tR s k) ks else ([], ⟨#[]⟩, tE s k)
def intCells (l : List Int) : List Value := l.map (Value.int .i64)
theorem ints_at {w : World} {a : Option Addr} {cap : Nat} {l : List Int} (h : IsRow w 1 (.slice a l.length cap) l.length (intCells l)) (i : Nat) (hi : i < l.length) :
    ∃ b off, a = some ⟨b, off, none⟩ ∧ b < w.heap.size ∧ w.cell? ⟨b, off + i, none⟩ = some (.int .i64 (l[i]'hi)) := by
  obtain ⟨b, off, cap', hv, hlt, _, _, hc⟩ := h.open (by omega)
  simp only [Value.slice.injEq] at hv
  exact ⟨b, off, hv.1, hlt, hc i _ (by simp [intCells, hi])⟩
theorem ttR_size (s : ByteArray) : (ttR s).size ≤ s.size := by
  have := getRest_size s
  unfold ttR; split
  · rw [size_extract _ _ _ (Nat.le_refl _)]; omega
  · exact Nat.zero_le _
theorem tR_size (s : ByteArray) (k : Int) : (tR s k).size ≤ s.size := by
  unfold tR
  split
  · exact getRest_size s
  split
  · exact getRest_size s
  split
  · unfold tfR; split
    · rw [size_extract _ _ _ (Nat.le_refl _)]; omega
    · exact Nat.zero_le _
  · exact ttR_size s

theorem owns_set {w : World} {base : Nat} {e : TypeId} {sz : Nat} {v : Value} {n : Nat} {xs : List Value} (h : w.ownsRow base e sz v n xs) {a : Addr} {u : Value} (hne : v.ownBlock ≠ some a.block) : (w.setCell a u).ownsRow base e sz v n xs :=
  h.kept (row := some a.block) ⟨rfl, rfl, rfl, by simp, fun k _ hk => Below.heap_setCell w a u k (fun e => hk (by rw [e]))⟩ (.inr hne)
theorem owns_below {w w1 : World} {base : Nat} {e : TypeId} {sz : Nat} {v : Value} {n : Nat} {xs : List Value} (h : w.ownsRow base e sz v n xs) (hb : Below w.heap.size w w1) : w1.ownsRow base e sz v n xs :=
  h.kept (row := none) ⟨hb.os, hb.tape, hb.output, hb.size, fun k hk _ => hb.block k hk⟩ (by cases hv : v.ownBlock <;> simp)
theorem owns_ne {w : World} {base : Nat} {e : TypeId} {sz : Nat} {v : Value} {n : Nat} {xs : List Value} (h : w.ownsRow base e sz v n xs) : v.ownBlock ≠ some w.heap.size := by
  intro e1
  have := (h.lt _ e1).2
  omega

/-- The same, the new block told by its number. -/
theorem wpl_appn {P : Program} (wr : World) {ops : Array Oper} {rest : List Oper} {o : Oper} {a : Act} {Q : Exit → Act → World → Prop} (hgd : o.guard = none) (s x : Operand) (t e : TypeId)
    (ho : o.op = .call { callee := .builtin .append, args := #[s, x], argTypes := #[t, t] })
    (i : TypeInfo) (z : Value) (size bytes : Nat) (ht : P.underlying t = some (.slice e)) (hi : P.info? e = some i) (hz : i.zero = some z)
    (hsize : i.size = size) (hby : i.bytes = bytes) (hzs : z.cells.size = size) (hsz : 0 < size)
    (base : Nat) (v : Value) (n : Nat) (xs : List Value) (hs : a.eval s = v) (hown : wr.ownsRow base e size v n xs)
    (es : List Value) (hes : es.length = size) (C : Array Value) (hC : C = es.toArray) (N : Nat) (hN : N = wr.heap.size) (hx : a.eval x = .slice (some ⟨N, 0, none⟩) 1 1) (h1 : ∀ u ∈ es, u.oneCell' = true)
    (hbytes : (n + 1) * bytes ≤ 140737488355328) (h63 : n + 1 ≤ maxLen) (hbase : base ≤ wr.heap.size)
    (h : ∀ v' w', w'.ownsRow base e size v' (n + 1) (xs ++ es) → Below base wr w' → wpList P ops Q rest (a.put o.dst v') w') :
    wpList P ops Q (o :: rest) a (wr.alloc (.cells C e)) := by
  subst hN
  exact wpl_appk wr hgd s x t e ho i z size bytes ht hi hz hsize hby hzs hsz base v n xs hs hown es hes C hC hx h1 hbytes h63 hbase h

theorem info_apiItem : (Tryz.prog.info? 65).map (fun i => (i.zero, i.size, i.bytes)) = some (some (.agg #[.int .i64 0, .int .i64 0, .string ⟨#[]⟩]), 3, 32) := by kernel_rfl

/-- What Take leaves: a row of the items, the rest, the error. -/
def TakePost (r : List It × ByteArray × Int) (w : World) (e : Ending) (w' : World) : Prop :=
  ∃ v, e = .returned (.tuple #[v, .string r.2.1, .int .i64 r.2.2]) ∧ IsRow w' 3 v r.1.length (itCells r.1) ∧ Below w.heap.size w w'

set_option maxRecDepth 100000 in
set_option maxHeartbeats 2000000 in
theorem take_ok (s : ByteArray) (v : Value) (ks : List Int) (w : World) (hs : s.size ≤ 140737488355328) (h : IsRow w 1 v ks.length (intCells ks)) (hl : ks.length ≤ 4096) (hk : ks.all isK = true) :
    Calls Tryz.prog 45 #[.string s, v] w fun e w' => TakePost (tk [] s ks) w e w' := by
  obtain ⟨a0, cap0, rfl⟩ := h.form
  obtain ⟨i0, hi0, hz0, hz1, hz2⟩ := info_parts info_apiItem
  have hl' : ¬ (4096 : Int) < ks.length := by omega
  have HK : Hid (ks.all isK = true) := hk
  clear hk
  go_enter Tryz.func45, Tryz.ntmps45
  go_wp2
  go_loopw [4, 17] (fun t i wr => ∃ k : Nat, k ≤ ks.length ∧ i = .int .i64 k ∧ t = .slice none 0 0 ∧ Below w.heap.size w wr) (fun _ i _ => ks.length - (intOf i).toNat)
  case atStart => exact ⟨0, Nat.zero_le _, rfl, rfl, Below.refl _ _⟩
  case round =>
    obtain ⟨k, hk, rfl, rfl, hb⟩ := hrel
    by_cases hlt : k < ks.length
    · obtain ⟨b, off, rfl, hbl, c0⟩ := ints_at (h.below hb) k hlt
      have hi : (k : Int) < ks.length := by omega
      have HM : 1 ≤ ks[k] ∧ ks[k] ≤ 4 := of_decide_eq_true (List.all_eq_true.1 HK.out _ (List.getElem_mem hlt))
      obtain ⟨hm1, hm4⟩ := HM
      go_wp2
      go_roundw
      case rel => exact ⟨k + 1, by omega, by go_num, rfl, hb⟩
      case measure => simp [intOf]; omega
    · have hk' : k = ks.length := by omega
      subst hk'
      obtain ⟨W1, rfl⟩ : ∃ W1, W1 = wr := ⟨_, rfl⟩
      have hr1 := h.below hb
      have hs1 := hb.size
      go_wp2_with fail
      go_loopw [0, 4, 6, 27] (fun ss t ee i wx => ∃ (k : Nat) (acc : List It) (sj : ByteArray), k ≤ ks.length ∧ i = .int .i64 k ∧ ss = .string sj ∧ sj.size ≤ 140737488355328 ∧ acc.length = k ∧ tk acc sj (ks.drop k) = tk [] s ks ∧ wx.ownsRow W1.heap.size 65 3 t acc.length (itCells acc) ∧ Below W1.heap.size W1 wx) (fun _ _ _ i _ => ks.length - (intOf i).toNat)
      case atStart => exact ⟨0, [], s, Nat.zero_le _, rfl, rfl, hs, rfl, rfl, World.ownsRow_nil _ _ _ _, Below.refl _ _⟩
      case round =>
        obtain ⟨k, acc, sj, hk, rfl, rfl, hsj, hal, htk, hown, hbx⟩ := hrel
        have HT : Hid (tk acc sj (ks.drop k) = tk [] s ks) := htk
        clear htk
        have hsx := hbx.size
        by_cases hlt : k < ks.length
        · obtain ⟨b, off, rfl, hbl, c0⟩ := ints_at (hr1.below hbx) k hlt
          have hi : (k : Int) < ks.length := by omega
          have HM : 1 ≤ ks[k] ∧ ks[k] ≤ 4 := of_decide_eq_true (List.all_eq_true.1 HK.out _ (List.getElem_mem hlt))
          have HD : Hid (ks.drop k = ks[k] :: ks.drop (k + 1)) := List.drop_eq_getElem_cons hlt
          obtain ⟨hm1, hm4⟩ := HM
          generalize hkk : ks[k] = kk at *
          clear hkk
          go_wp2_with fail
          refine (takeItem_any _ _ _ hsj hm1 hm4).mono ?_
          rintro e w2 ⟨rfl, hb2⟩
          obtain ⟨hc, hf, hbl2, hz⟩ := part_cells0 hb2
          have hown2 := owns_below (hown.alloc _) hb2
          have hne := owns_ne hown
          have HS : Hid (Below W1.heap.size W1 w2) := hbx.trans (hbl2.mono hsx)
          clear hb2 c0
          by_cases hte : tE sj kk = 0
          · have HN : Hid (tk (acc ++ [⟨kk, tN sj kk, tS sj kk⟩]) (tR sj kk) (ks.drop (k + 1)) = tk [] s ks) := by
              show _ = _
              rw [← HT.out, HD.out]
              show _ = (if tE sj kk = 0 then _ else _)
              rw [if_pos hte]
            have htr := tR_size sj kk
            have HZ : Hid (tE sj kk = 0) := hte
            clear hte
            rw [HZ.out]
            go_wp2_with (at_builtin; refine wpl_appn _ rfl (.tmp 41) (.tmp 43) 67 65 rfl i0 _ 3 32 Tryz.underlying67 hi0 hz0 hz1 hz2 rfl (by decide) _ _ _ _ rfl (owns_set (owns_set (owns_set hown2 hne) hne) hne) (It.cells ⟨kk, tN sj kk, tS sj kk⟩) rfl _ rfl w2.heap.size (by simp) rfl (by intro u hu; simp [It.cells] at hu; rcases hu with rfl | rfl | rfl <;> rfl) (by omega) (by unfold maxLen; omega) (by simp; have := HS.out.size; omega) ?_; intro v3 w3 hown3 hb3)
            have HO : Hid (w3.ownsRow W1.heap.size 65 3 v3 (acc ++ [It.mk kk (tN sj kk) (tS sj kk)]).length (itCells (acc ++ [It.mk kk (tN sj kk) (tS sj kk)]))) := by
              show World.ownsRow _ _ _ _ _ _ _
              rw [itCells_snoc, List.length_append]
              exact hown3
            have HB3 : Hid (Below W1.heap.size W1 w3) := (((HS.out.setCell (p := ⟨wr.heap.size, 0, none⟩) hsx _).setCell (p := ⟨wr.heap.size, 1, none⟩) hsx _).setCell (p := ⟨wr.heap.size, 2, none⟩) hsx _).trans hb3
            refine ⟨⟨k + 1, acc ++ [⟨kk, tN sj kk, tS sj kk⟩], tR sj kk, by omega, by go_num, rfl, by omega, by simp [hal], HN.out, HO.out, HB3.out⟩, ?_⟩
            simp [intOf]; omega
          · have HN : Hid ((([] : List It), (⟨#[]⟩ : ByteArray), tE sj kk) = tk [] s ks) := by
              show _ = _
              rw [← HT.out, HD.out]
              show _ = (if tE sj kk = 0 then _ else _)
              rw [if_neg hte]
            have hte' : (tE sj kk != 0) = true := by rw [bne_iff_ne]; exact hte
            have HF : Hid (Below w.heap.size w w2) := hb.trans (HS.out.mono hs1)
            clear hte
            go_wp2
            go_ret3
            refine ⟨.slice none 0 0, ?_, ?_, ?_⟩
            · rw [← HN.out]; rfl
            · rw [← HN.out]; exact IsRow.nil _ _
            · exact (((HF.out.setCell (p := ⟨wr.heap.size, 0, none⟩) (by show w.heap.size ≤ wr.heap.size; omega) _).setCell (p := ⟨wr.heap.size, 1, none⟩) (by show w.heap.size ≤ wr.heap.size; omega) _).setCell (p := ⟨wr.heap.size, 2, none⟩) (by show w.heap.size ≤ wr.heap.size; omega) _)
        · have hk' : k = ks.length := by omega
          have HN : Hid ((acc, sj, 0) = tk [] s ks) := by
            show _ = _
            rw [← HT.out, List.drop_of_length_le (by omega)]
            rfl
          have HF : Hid (Below w.heap.size w wr) := hb.trans (hbx.mono hs1)
          have HO : Hid (IsRow wr 3 u4 acc.length (itCells acc)) := IsRow.own hown
          clear hown
          subst hk'
          go_wp2
          go_ret3
          refine ⟨u4, ?_, ?_, HF.out⟩
          · rw [← HN.out]; rfl
          · rw [← HN.out]; exact HO.out

set_option maxHeartbeats 1000000 in
theorem take_long (s : ByteArray) (a : Option Addr) (n cap : Nat) (w : World) (hl : 4096 < n) (hn : n ≤ 140737488355328) :
    Calls Tryz.prog 45 #[.string s, .slice a n cap] w fun e w' => TakePost ([], ⟨#[]⟩, 2) w e w' := by
  have hl' : (4096 : Int) < n := by omega
  go_enter Tryz.func45, Tryz.ntmps45
  go_wp2
  go_ret3
  exact ⟨.slice none 0 0, rfl, IsRow.nil _ _, Below.refl _ _⟩

theorem allk_take {l : List Int} {k : Nat} (h : k < l.length) (h1 : (l.take k).all isK = true) (h2 : isK (l[k]'h) = true) : (l.take (k + 1)).all isK = true := by
  rw [List.take_succ_eq_append_getElem h, List.all_append, h1]
  simp [h2]

set_option maxRecDepth 100000 in
set_option maxHeartbeats 2000000 in
theorem take_bad (s : ByteArray) (v : Value) (ks : List Int) (w : World) (h : IsRow w 1 v ks.length (intCells ks)) (hl : ks.length ≤ 4096) (hk : ks.all isK = false) :
    Calls Tryz.prog 45 #[.string s, v] w fun e w' => TakePost ([], ⟨#[]⟩, 1) w e w' := by
  obtain ⟨a0, cap0, rfl⟩ := h.form
  have hl' : ¬ (4096 : Int) < ks.length := by omega
  have HK : Hid (ks.all isK = false) := hk
  clear hk
  go_enter Tryz.func45, Tryz.ntmps45
  go_wp2
  go_loopw [17] (fun i wr => ∃ k : Nat, k ≤ ks.length ∧ i = .int .i64 k ∧ (ks.take k).all isK = true ∧ Below w.heap.size w wr) (fun i _ => ks.length - (intOf i).toNat)
  case atStart => exact ⟨0, Nat.zero_le _, rfl, rfl, Below.refl _ _⟩
  case round =>
    obtain ⟨k, hk, rfl, hall, hb⟩ := hrel
    have HA : Hid ((ks.take k).all isK = true) := hall
    clear hall
    by_cases hlt : k < ks.length
    · obtain ⟨b, off, rfl, hbl, c0⟩ := ints_at (h.below hb) k hlt
      have hi : (k : Int) < ks.length := by omega
      by_cases hm1 : 1 ≤ ks[k]
      · by_cases hm4 : ks[k] ≤ 4
        · have HN : Hid ((ks.take (k + 1)).all isK = true) := allk_take hlt HA.out (by simp [isK, hm1, hm4])
          go_wp2
          go_roundw
          case rel => exact ⟨k + 1, by omega, by go_num, HN.out, hb⟩
          case measure => simp [intOf]; omega
        · have hd : decide (ks[k] ≤ 4) = false := by simpa using hm4
          go_wp2
          go_ret3
          exact ⟨.slice none 0 0, rfl, IsRow.nil _ _, hb⟩
      · have hd : decide (1 ≤ ks[k]) = false := by simpa using hm1
        go_wp2
        go_ret3
        exact ⟨.slice none 0 0, rfl, IsRow.nil _ _, hb⟩
    · exfalso
      have e : ks.take k = ks := List.take_of_length_le (by omega)
      have h1 := HA.out
      rw [e, HK.out] at h1
      cases h1

/-- What Take answers, up to 4,096 kinds. -/
def takeR (s : ByteArray) (ks : List Int) : List It × ByteArray × Int := if ks.all isK = true then tk [] s ks else ([], ⟨#[]⟩, 1)
theorem take_any (s : ByteArray) (v : Value) (ks : List Int) (w : World) (hs : s.size ≤ 140737488355328) (h : IsRow w 1 v ks.length (intCells ks)) (hl : ks.length ≤ 4096) :
    Calls Tryz.prog 45 #[.string s, v] w fun e w' => TakePost (takeR s ks) w e w' := by
  unfold takeR
  by_cases hc : ks.all isK = true
  · rw [if_pos hc]; exact take_ok s v ks w hs h hl hc
  · rw [if_neg hc]; exact take_bad s v ks w h hl (by simpa using hc)
end Go.Proofs.YtdendpckihckeaaGreatDoor.Q
/- value.itemOf and value.Read at any bytes: walks over quic's contracts. -/
namespace Go.Proofs.YtdendpckihckeaaGreatDoor
open Go.RowKit

/-- The kind of the item that a value of this kind is written as; 0 if there is none. -/
def itm (k : Int) : Int := if k = 1 then 2 else if k = 3 then 3 else if k = 2 ∨ k = 4 then 4 else 0
theorem itm_rng {k : Int} (h1 : 1 ≤ k) (h4 : k ≤ 4) : 1 ≤ itm k ∧ itm k ≤ 4 := by
  obtain rfl | rfl | rfl | rfl : k = 1 ∨ k = 2 ∨ k = 3 ∨ k = 4 := by omega
  all_goals decide
theorem itm_zero {k : Int} (h : k < 1 ∨ 4 < k) : itm k = 0 := by
  unfold itm; rw [if_neg (by omega), if_neg (by omega), if_neg (by omega)]
theorem itemOf_any (k : Int) (w : World) : Calls Tryz.prog 43 #[.int .i64 k] w fun e w' => e = .returned (.int .i64 (itm k)) ∧ w' = w := by
  by_cases e1 : k = 1
  · subst e1
    go_enter Tryz.func43, Tryz.ntmps43
    go_wp2
    go_ret
    exact ⟨rfl, rfl⟩
  by_cases e3 : k = 3
  · subst e3
    go_enter Tryz.func43, Tryz.ntmps43
    go_wp2
    go_ret
    exact ⟨rfl, rfl⟩
  by_cases e2 : k = 2
  · subst e2
    go_enter Tryz.func43, Tryz.ntmps43
    go_wp2
    go_ret
    exact ⟨rfl, rfl⟩
  by_cases e4 : k = 4
  · subst e4
    go_enter Tryz.func43, Tryz.ntmps43
    go_wp2
    go_ret
    exact ⟨rfl, rfl⟩
  have g : itm k = 0 := by unfold itm; rw [if_neg e1, if_neg e3, if_neg (by omega)]
  rw [g]
  clear g
  have f1 : (k == 1) = false := by rw [beq_eq_false_iff_ne]; exact e1
  have f2 : (k == 2) = false := by rw [beq_eq_false_iff_ne]; exact e2
  have f3 : (k == 3) = false := by rw [beq_eq_false_iff_ne]; exact e3
  have f4 : (k == 4) = false := by rw [beq_eq_false_iff_ne]; exact e4
  clear e1 e2 e3 e4
  go_enter Tryz.func43, Tryz.ntmps43
  go_wp2
  go_ret
  exact ⟨rfl, rfl⟩

theorem tS_size (s : ByteArray) (k : Int) : (Q.tS s k).size ≤ s.size := by
  unfold Q.tS
  split
  · unfold Q.ttS
    split
    · have := Q.getRest_size s
      rw [ByteArray.size_extract]
      omega
    · exact Nat.zero_le _
  · exact Nat.zero_le _
/-- A row of one int, new. -/
theorem row_one (W : World) (k : Int) (t : TypeId) : IsRow (W.alloc (.cells #[.int .i64 k] t)) 1 (.slice (some ⟨W.heap.size, 0, none⟩) 1 1) [k].length (Q.intCells [k]) := by
  refine ⟨rfl, .inr ⟨W.heap.size, 0, 1, rfl, by simp, Nat.le_refl _, by decide, fun j u hu => ?_⟩⟩
  cases j with
  | zero =>
    have : u = .int .i64 k := by simpa [Q.intCells] using hu.symm
    subst this
    simp
  | succ j => simp [Q.intCells] at hu
/-- One item at the front of bytes: its cells, the rest. -/
def OneAt (N : Int) (S : ByteArray) (v : Value) (w : World) : Prop :=
  ∃ b off cap, v = .slice (some ⟨b, off, none⟩) 1 cap ∧ b < w.heap.size ∧ w.cell? ⟨b, off + 1, none⟩ = some (.int .i64 N) ∧ w.cell? ⟨b, off + 2, none⟩ = some (.string S)
theorem one_of {w : World} {v : Value} {x : It} (h : IsRow w 3 v 1 (itCells [x])) : OneAt x.n x.s v w := by
  obtain ⟨b, off, cap, hv, hb, _, _, hc⟩ := h.open (by omega)
  exact ⟨b, off, cap, hv, hb, hc 1 _ rfl, hc 2 _ rfl⟩
theorem takeR_ok {s : ByteArray} {k : Int} (h1 : 1 ≤ k) (h4 : k ≤ 4) (h : Q.tE s k = 0) : Q.takeR s [k] = ([⟨k, Q.tN s k, Q.tS s k⟩], Q.tR s k, 0) := by
  unfold Q.takeR
  rw [if_pos (by simp [Q.isK, h1, h4]), Q.tk, if_pos h]
  rfl
theorem takeR_no {s : ByteArray} {k : Int} (h1 : 1 ≤ k) (h4 : k ≤ 4) (h : ¬ Q.tE s k = 0) : Q.takeR s [k] = ([], ⟨#[]⟩, Q.tE s k) := by
  unfold Q.takeR
  rw [if_pos (by simp [Q.isK, h1, h4]), Q.tk, if_neg h]
theorem take_1ok (s : ByteArray) (k : Int) (t : TypeId) (W : World) (hs : s.size ≤ 140737488355328) (h1 : 1 ≤ k) (h4 : k ≤ 4) (h : Q.tE s k = 0) :
    Calls Tryz.prog 45 #[.string s, .slice (some ⟨W.heap.size, 0, none⟩) 1 1] (W.alloc (.cells #[.int .i64 k] t)) fun e w' => (∃ v, e = .returned (.tuple #[v, .string (Q.tR s k), .int .i64 0]) ∧ OneAt (Q.tN s k) (Q.tS s k) v w') ∧ Below W.heap.size W w' := by
  refine (Q.take_any s _ [k] _ hs (row_one W k t) (by simp)).mono ?_
  rintro e w' ⟨v, he, hr, hb⟩
  rw [takeR_ok h1 h4 h] at he hr
  exact ⟨⟨v, he, one_of hr⟩, ((Below.refl _ _).alloc (Nat.le_refl _) _).trans (hb.mono (by simp))⟩
theorem take_1no (s : ByteArray) (k : Int) (t : TypeId) (W : World) (hs : s.size ≤ 140737488355328) (h1 : 1 ≤ k) (h4 : k ≤ 4) (h : ¬ Q.tE s k = 0) :
    Calls Tryz.prog 45 #[.string s, .slice (some ⟨W.heap.size, 0, none⟩) 1 1] (W.alloc (.cells #[.int .i64 k] t)) fun e w' => (∃ a n c, e = .returned (.tuple #[.slice a n c, .string ⟨#[]⟩, .int .i64 (Q.tE s k)])) ∧ Below W.heap.size W w' := by
  refine (Q.take_any s _ [k] _ hs (row_one W k t) (by simp)).mono ?_
  rintro e w' ⟨v, he, hr, hb⟩
  rw [takeR_no h1 h4 h] at he hr
  obtain ⟨a, c, rfl⟩ := hr.form
  exact ⟨⟨a, _, c, he⟩, ((Below.refl _ _).alloc (Nat.le_refl _) _).trans (hb.mono (by simp))⟩

/-- What Read says: the value, the rest, the error. -/
structure Rd where
  k : Int
  n : Int
  s : ByteArray
  r : ByteArray
  e : Int
def rd (s : ByteArray) : Rd :=
  if ¬ Q.getE s = 0 then ⟨0, 0, ⟨#[]⟩, ⟨#[]⟩, Q.getE s⟩
  else if Q.getV s < 1 ∨ 4 < Q.getV s then ⟨0, 0, ⟨#[]⟩, ⟨#[]⟩, 8⟩
  else if ¬ Q.tE (Q.getRest s) (itm (Q.getV s)) = 0 then ⟨0, 0, ⟨#[]⟩, ⟨#[]⟩, Q.tE (Q.getRest s) (itm (Q.getV s))⟩
  else if chkV (Q.getV s) (Q.tN (Q.getRest s) (itm (Q.getV s))) (Q.tS (Q.getRest s) (itm (Q.getV s))) = true then ⟨Q.getV s, Q.tN (Q.getRest s) (itm (Q.getV s)), Q.tS (Q.getRest s) (itm (Q.getV s)), Q.tR (Q.getRest s) (itm (Q.getV s)), 0⟩
  else ⟨0, 0, ⟨#[]⟩, ⟨#[]⟩, 3⟩
def RdPost (x : Rd) (w : World) (e : Ending) (w' : World) : Prop := e = .returned (.tuple #[vv x.k x.n x.s, .string x.r, .int .i64 x.e]) ∧ Below w.heap.size w w'

set_option maxRecDepth 100000 in
set_option maxHeartbeats 2000000 in
theorem read_1 (s : ByteArray) (w : World) (hs : s.size ≤ 140737488355328) (h : ¬ Q.getE s = 0) :
    Calls Tryz.prog 18 #[.string s] w fun e w' => RdPost ⟨0, 0, ⟨#[]⟩, ⟨#[]⟩, Q.getE s⟩ w e w' := by
  have h0' : (Q.getE s != 0) = true := by rw [bne_iff_ne]; exact h
  clear h
  go_enter Tryz.func18, Tryz.ntmps18
  go_wp2_with fail
  refine (Q.get_any _ _ hs).mono ?_
  rintro e w2 ⟨rfl, hb2⟩
  have HZ : Hid (Three w.heap.size w2 (.int .i64 0) (.int .i64 0) (.string ⟨#[]⟩)) := ((Zero.new w).below hb2 (by simp)).three
  obtain ⟨c0, c1, c2, f0, f1, f2⟩ := (Zero.new w).below hb2 (by simp)
  have hB2 := (wv_below w).trans (hb2.mono (by simp))
  clear hb2
  go_wp2
  try simp only [Exit.inBlock, Exit.then]
  exact bodyPost_ret (results_v3 rfl _ _ w.heap.size rfl (HZ.out.set _ _ _)) rfl ⟨rfl, set3_below hB2 _ _ _⟩
set_option maxRecDepth 100000 in
set_option maxHeartbeats 2000000 in
theorem read_2 (s : ByteArray) (w : World) (hs : s.size ≤ 140737488355328) (h : Q.getE s = 0) (hk : Q.getV s < 1 ∨ 4 < Q.getV s) :
    Calls Tryz.prog 18 #[.string s] w fun e w' => RdPost ⟨0, 0, ⟨#[]⟩, ⟨#[]⟩, 8⟩ w e w' := by
  have H0 : Hid (Q.getE s = 0) := h
  have HI : Hid (itm (Q.getV s) = 0) := itm_zero hk
  clear h hk
  go_enter Tryz.func18, Tryz.ntmps18
  go_wp2_with fail
  refine (Q.get_any _ _ hs).mono ?_
  rintro e w2 ⟨rfl, hb2⟩
  have HZ : Hid (Three w.heap.size w2 (.int .i64 0) (.int .i64 0) (.string ⟨#[]⟩)) := ((Zero.new w).below hb2 (by simp)).three
  obtain ⟨c0, c1, c2, f0, f1, f2⟩ := (Zero.new w).below hb2 (by simp)
  have hB2 := (wv_below w).trans (hb2.mono (by simp))
  clear hb2
  rw [H0.out]
  go_wp2_with fail
  refine (itemOf_any _ _).mono ?_
  rintro e w3 ⟨rfl, rfl⟩
  rw [HI.out]
  go_wp2
  try simp only [Exit.inBlock, Exit.then]
  exact bodyPost_ret (results_v3 rfl _ _ w.heap.size rfl (HZ.out.set _ _ _)) rfl ⟨rfl, set3_below hB2 _ _ _⟩
set_option maxRecDepth 100000 in
set_option maxHeartbeats 2000000 in
theorem read_3 (s : ByteArray) (w : World) (hs : s.size ≤ 140737488355328) (h : Q.getE s = 0) (k1 : 1 ≤ Q.getV s) (k4 : Q.getV s ≤ 4) (ht : ¬ Q.tE (Q.getRest s) (itm (Q.getV s)) = 0) :
    Calls Tryz.prog 18 #[.string s] w fun e w' => RdPost ⟨0, 0, ⟨#[]⟩, ⟨#[]⟩, Q.tE (Q.getRest s) (itm (Q.getV s))⟩ w e w' := by
  have H0 : Hid (Q.getE s = 0) := h
  obtain ⟨i1, i4⟩ := itm_rng k1 k4
  have hr := Q.getRest_size s
  generalize hK : Q.getV s = K at *
  generalize hI : itm K = I at *
  have HK : Hid (Q.getV s = K) := hK
  have HI : Hid (itm K = I) := hI
  have h0 : (I == 0) = false := by rw [beq_eq_false_iff_ne]; omega
  have hE : (Q.tE (Q.getRest s) I != 0) = true := by rw [bne_iff_ne]; exact ht
  have HT : Hid (¬ Q.tE (Q.getRest s) I = 0) := ht
  clear h k1 k4 hK hI ht
  go_enter Tryz.func18, Tryz.ntmps18
  go_wp2_with fail
  refine (Q.get_any _ _ hs).mono ?_
  rintro e w2 ⟨rfl, hb2⟩
  have hz2 := (Zero.new w).below hb2 (by simp)
  have hlt2 : w.heap.size < w2.heap.size := by have := hb2.size; simp at this; omega
  have hB2 := (wv_below w).trans (hb2.mono (by simp))
  clear hb2
  rw [H0.out, HK.out]
  have HZ2 : Hid (Zero w.heap.size w2) := hz2
  clear hz2
  go_wp2_with fail
  refine (itemOf_any _ _).mono ?_
  rintro e w3 ⟨rfl, rfl⟩
  rw [HI.out]
  go_wp2_with fail
  refine (take_1no _ _ _ _ (by omega) i1 i4 HT.out).mono ?_
  rintro e w4 ⟨⟨a, n, c, rfl⟩, hb4⟩
  have HZ : Hid (Three w.heap.size w4 (.int .i64 0) (.int .i64 0) (.string ⟨#[]⟩)) := (HZ2.out.below hb4 hlt2).three
  obtain ⟨c0, c1, c2, f0, f1, f2⟩ := HZ2.out.below hb4 hlt2
  have hB4 := hB2.trans (hb4.mono (by omega))
  clear hb4
  go_wp2
  try simp only [Exit.inBlock, Exit.then]
  exact bodyPost_ret (results_v3 rfl _ _ w.heap.size rfl (HZ.out.set _ _ _)) rfl ⟨rfl, set3_below hB4 _ _ _⟩
end Go.Proofs.YtdendpckihckeaaGreatDoor
/- value.Text of any value: walks over quic.Put's contract. -/
namespace Go.Proofs.YtdendpckihckeaaGreatDoor
open Go.RowKit

/-- A value's bytes. -/
def txt (k n : Int) (s : ByteArray) : ByteArray := ⟨([(⟨1, k, ⟨#[]⟩⟩ : It), ⟨itm k, n, s⟩].flatMap Q.itB).toArray⟩
theorem chk_kind {k n : Int} {s : ByteArray} (h : chkV k n s = true) : 1 ≤ k ∧ k ≤ 4 := by
  unfold chkV at h
  (repeat' split at h) <;> first | omega | (exact absurd h (by decide))
theorem isE {s : ByteArray} (h : s.size = 0) : s.toList.isEmpty = true := empty_is s h
theorem chk_may {k n : Int} {s : ByteArray} (h : chkV k n s = true) : [(⟨1, k, ⟨#[]⟩⟩ : It), ⟨itm k, n, s⟩].all Q.mayIt = true := by
  have hk := chk_kind h
  have h1 : Q.mayIt ⟨1, k, ⟨#[]⟩⟩ = true := by
    show Q.mayB 1 k ⟨#[]⟩ = true
    unfold Q.mayB
    rw [if_pos rfl, isE rfl, Bool.true_and, decide_eq_true_eq]
    omega
  have h2 : Q.mayIt ⟨itm k, n, s⟩ = true := by
    show Q.mayB (itm k) n s = true
    obtain rfl | rfl | rfl | rfl : k = 1 ∨ k = 2 ∨ k = 3 ∨ k = 4 := by omega
    · have e : itm 1 = 2 := by decide
      rw [e]
      simp only [chkV, if_pos, Bool.and_eq_true, decide_eq_true_eq] at h
      unfold Q.mayB
      rw [if_neg (by decide), if_pos rfl, isE h.1, Bool.true_and, decide_eq_true_eq]
      omega
    · have e : itm 2 = 4 := by decide
      rw [e]
      have h' : n = 0 ∧ s.size ≤ 200 := by
        unfold chkV at h
        rw [if_neg (by decide), if_pos rfl] at h
        simp only [Bool.and_eq_true, decide_eq_true_eq] at h
        exact ⟨h.1, h.2.1⟩
      unfold Q.mayB
      rw [if_neg (by decide), if_neg (by decide), if_neg (by decide), if_pos rfl, decide_eq_true_eq]
      omega
    · have e : itm 3 = 3 := by decide
      rw [e]
      unfold chkV at h
      rw [if_neg (by decide), if_neg (by decide), if_pos rfl] at h
      simp only [Bool.and_eq_true, decide_eq_true_eq] at h
      unfold Q.mayB
      rw [if_neg (by decide), if_neg (by decide), if_pos rfl, isE h.1, Bool.true_and, decide_eq_true_eq]
      exact h.2
    · have e : itm 4 = 4 := by decide
      rw [e]
      unfold chkV at h
      rw [if_neg (by decide), if_neg (by decide), if_neg (by decide), if_pos rfl] at h
      simp only [Bool.and_eq_true, decide_eq_true_eq] at h
      unfold Q.mayB
      rw [if_neg (by decide), if_neg (by decide), if_neg (by decide), if_pos rfl, decide_eq_true_eq]
      omega
  simp [h1, h2]
theorem row_two (W : World) (k I n : Int) (s : ByteArray) (t : TypeId) : IsRow (W.alloc (.cells #[.int .i64 1, .int .i64 k, .string ⟨#[]⟩, .int .i64 I, .int .i64 n, .string s] t)) 3 (.slice (some ⟨W.heap.size, 0, none⟩) 2 2) [(⟨1, k, ⟨#[]⟩⟩ : It), ⟨I, n, s⟩].length (itCells [(⟨1, k, ⟨#[]⟩⟩ : It), ⟨I, n, s⟩]) := by
  refine ⟨rfl, .inr ⟨W.heap.size, 0, 2, rfl, by simp, Nat.le_refl _, by decide, fun j u hu => ?_⟩⟩
  have hc : (W.alloc (.cells #[.int .i64 1, .int .i64 k, .string ⟨#[]⟩, .int .i64 I, .int .i64 n, .string s] t)).cell? ⟨W.heap.size, 0 + j, none⟩ = #[Value.int .i64 1, .int .i64 k, .string ⟨#[]⟩, .int .i64 I, .int .i64 n, .string s][j]? := by simp
  rw [hc]
  have e : (itCells [(⟨1, k, ⟨#[]⟩⟩ : It), ⟨I, n, s⟩]) = [Value.int .i64 1, .int .i64 k, .string ⟨#[]⟩, .int .i64 I, .int .i64 n, .string s] := rfl
  rw [e] at hu
  simpa using hu
theorem row_two_d {W : World} {v : Value} {n : Nat} {xs : List Value} (h : IsRow W 3 v n xs) : IsRow W.drew 3 v n xs := by
  obtain ⟨h1, h2⟩ := h
  refine ⟨h1, ?_⟩
  rcases h2 with h | ⟨b, off, cap, hv, hl, hc, hm, hcell⟩
  · exact .inl h
  · exact .inr ⟨b, off, cap, hv, hl, hc, hm, hcell⟩
theorem put_2n (k n : Int) (s : ByteArray) (t : TypeId) (W : World) (N : Nat) (hN : N = W.heap.size) (hs : s.size ≤ 140737488355328) (hT : Q.Tab W) (h : chkV k n s = true) :
    Calls Tryz.prog 42 #[.slice (some ⟨N, 0, none⟩) 2 2] (W.alloc (.cells #[.int .i64 1, .int .i64 k, .string ⟨#[]⟩, .int .i64 (itm k), .int .i64 n, .string s] t)) fun e w' => e = .returned (.tuple #[.string (txt k n s), .int .i64 0]) ∧ Below W.heap.size W w' := by
  subst hN
  refine (Q.put_ok _ _ _ (row_two W k (itm k) n s t) (Q.Tab_alloc hT _) (by simp) ?_ (chk_may h)).mono ?_
  · intro x hx
    simp only [List.mem_cons, List.not_mem_nil, or_false] at hx
    rcases hx with rfl | rfl
    · exact Nat.zero_le _
    · exact hs
  · rintro e w' ⟨he, hb⟩
    exact ⟨he, ((Below.refl _ _).alloc (Nat.le_refl _) _).trans (hb.mono (by simp))⟩
theorem put_2 (k n : Int) (s : ByteArray) (t : TypeId) (W : World) (hs : s.size ≤ 140737488355328) (hT : Q.Tab W) (h : chkV k n s = true) :
    Calls Tryz.prog 42 #[.slice (some ⟨W.heap.size, 0, none⟩) 2 2] (W.alloc (.cells #[.int .i64 1, .int .i64 k, .string ⟨#[]⟩, .int .i64 (itm k), .int .i64 n, .string s] t)).drew fun e w' => e = .returned (.tuple #[.string (txt k n s), .int .i64 0]) ∧ Below W.heap.size W w' := by
  have hA := Q.Tab_alloc hT (.cells #[.int .i64 1, .int .i64 k, .string ⟨#[]⟩, .int .i64 (itm k), .int .i64 n, .string s] t)
  have hD : Below W.heap.size W (W.alloc (.cells #[.int .i64 1, .int .i64 k, .string ⟨#[]⟩, .int .i64 (itm k), .int .i64 n, .string s] t)).drew := ((Below.refl _ _).alloc (Nat.le_refl _) _).drew
  have hA' : Q.Tab (W.alloc (.cells #[.int .i64 1, .int .i64 k, .string ⟨#[]⟩, .int .i64 (itm k), .int .i64 n, .string s] t)).drew := hA.below (Below.drew (Below.refl _ _)) hA.size
  refine (Q.put_ok _ _ _ (row_two_d (row_two W k (itm k) n s t)) hA' (by simp) ?_ (chk_may h)).mono ?_
  · intro x hx
    simp only [List.mem_cons, List.not_mem_nil, or_false] at hx
    rcases hx with rfl | rfl
    · exact Nat.zero_le _
    · exact hs
  · rintro e w' ⟨he, hb⟩
    exact ⟨he, hD.trans (hb.mono hD.size)⟩
end Go.Proofs.YtdendpckihckeaaGreatDoor
/- value.Text of any value: its walk. -/
namespace Go.Proofs.YtdendpckihckeaaGreatDoor
open Go.RowKit

/-- A value that lies in a block, and what was there before. -/
abbrev S9 (w0 : World) (k n : Int) (s : ByteArray) (w : World) : Prop :=
  w.cell? ⟨w0.heap.size, 0, none⟩ = some (.int .i64 k) ∧ w.cell? ⟨w0.heap.size, 1, none⟩ = some (.int .i64 n) ∧ w.cell? ⟨w0.heap.size, 2, none⟩ = some (.string s) ∧ w0.heap.size < w.heap.size ∧ Below w0.heap.size w0 w
theorem S9_call {w0 W w' : World} {k n : Int} {s : ByteArray} (hb : Below W.heap.size W w') (h : S9 w0 k n s W) : S9 w0 k n s w' := by
  obtain ⟨a0, a1, a2, l1, hB⟩ := h
  exact ⟨(hb.cell (p := ⟨w0.heap.size, 0, none⟩) l1).trans a0, (hb.cell (p := ⟨w0.heap.size, 1, none⟩) l1).trans a1, (hb.cell (p := ⟨w0.heap.size, 2, none⟩) l1).trans a2, Nat.lt_of_lt_of_le l1 hb.size, hB.trans (hb.mono hB.size)⟩
theorem S9_drew {w0 W : World} {k n : Int} {s : ByteArray} (h : S9 w0 k n s W) : S9 w0 k n s W.drew := by
  obtain ⟨a0, a1, a2, l1, hB⟩ := h
  exact ⟨a0, a1, a2, l1, hB.drew⟩
theorem S9_alloc {w0 W : World} {k n : Int} {s : ByteArray} (o : Obj) (h : S9 w0 k n s W) : S9 w0 k n s (W.alloc o) := S9_call ((Below.refl _ _).alloc (Nat.le_refl _) o) h
theorem S9_tab {w0 W : World} {k n : Int} {s : ByteArray} (hT : Q.Tab w0) (h : S9 w0 k n s W) : Q.Tab W := hT.below h.2.2.2.2 hT.size

set_option maxRecDepth 100000 in
set_option maxHeartbeats 4000000 in
theorem text_ok (k n : Int) (s : ByteArray) (w : World) (hs : s.size ≤ 140737488355328) (hU : UT w) (hT : Q.Tab w) (h : chkV k n s = true) :
    Calls Tryz.prog 17 #[vv k n s] w fun e w' => e = .returned (.string (txt k n s)) ∧ Below w.heap.size w w' := by
  have HC : Hid (chkV k n s = true) := h
  have hA : Below w.heap.size w (w.alloc (.cells #[.int .i64 k, .int .i64 n, .string s] 25)) := (Below.refl _ _).alloc (Nat.le_refl _) _
  clear h
  go_enter Tryz.func17, Tryz.ntmps17
  go_wp2_with fail
  refine (check_any _ _ _ _ hs (Utf8Tabs_below hU hA)).mono ?_
  rintro e w1 ⟨rfl, hb1⟩
  rw [HC.out]
  have c0 : w1.cell? ⟨w.heap.size, 0, none⟩ = some (.int .i64 k) := (hb1.cell (p := ⟨w.heap.size, 0, none⟩) (by simp)).trans (by simp)
  have c1 : w1.cell? ⟨w.heap.size, 1, none⟩ = some (.int .i64 n) := (hb1.cell (p := ⟨w.heap.size, 1, none⟩) (by simp)).trans (by simp)
  have c2 : w1.cell? ⟨w.heap.size, 2, none⟩ = some (.string s) := (hb1.cell (p := ⟨w.heap.size, 2, none⟩) (by simp)).trans (by simp)
  have hB1 : Below w.heap.size w w1 := hA.trans (hb1.mono (by simp))
  have hS : S9 w k n s w1 := ⟨c0, c1, c2, by have := hb1.size; simp at this; omega, hB1⟩
  clear hb1 hA hU c0 c1 c2 hB1
  go_wp2_with fail
  go_region_held3 (fun w' => S9 w k n s w') (first | assumption | exact S9_call (by assumption) (by assumption) | exact S9_drew (by assumption) | exact S9_alloc _ (by assumption) | exact S9_drew (S9_alloc _ (by assumption)) | exact S9_alloc _ (S9_drew (by assumption)))
    (first
      | (go_at_call 43; refine (itemOf_any _ _).mono ?_; rintro e w' ⟨rfl, rfl⟩)
      | (go_at_call 42; refine (put_2 k n s 65 _ hs (S9_tab hT (by assumption)) HC.out).mono ?_; rintro e w' ⟨rfl, hb⟩)
      | (go_at_call 42; refine (put_2n k n s 65 _ _ (by simp) hs (S9_tab hT (by assumption)) HC.out).mono ?_; rintro e w' ⟨rfl, hb⟩))
  rename_i hS3
  have hB3 := hS3.2.2.2.2
  clear hS3 hS
  go_wp2
  go_ret
  exact ⟨rfl, hB3⟩

set_option maxRecDepth 100000 in
theorem text_no (k n : Int) (s : ByteArray) (w : World) (hs : s.size ≤ 140737488355328) (hU : UT w) (h : chkV k n s = false) :
    Calls Tryz.prog 17 #[vv k n s] w fun e w' => e = .returned (.string ⟨#[]⟩) ∧ Below w.heap.size w w' := by
  have HC : Hid (chkV k n s = false) := h
  have hA : Below w.heap.size w (w.alloc (.cells #[.int .i64 k, .int .i64 n, .string s] 25)) := (Below.refl _ _).alloc (Nat.le_refl _) _
  clear h
  go_enter Tryz.func17, Tryz.ntmps17
  go_wp2_with fail
  refine (check_any _ _ _ _ hs (Utf8Tabs_below hU hA)).mono ?_
  rintro e w1 ⟨rfl, hb1⟩
  rw [HC.out]
  have hB1 : Below w.heap.size w w1 := hA.trans (hb1.mono (by simp))
  clear hb1 hA
  go_wp2
  go_ret
  exact ⟨rfl, hB1⟩
/-- A value's bytes, or none. -/
def txtV (k n : Int) (s : ByteArray) : ByteArray := if chkV k n s = true then txt k n s else ⟨#[]⟩
theorem text_any (k n : Int) (s : ByteArray) (w : World) (hs : s.size ≤ 140737488355328) (hU : UT w) (hT : Q.Tab w) :
    Calls Tryz.prog 17 #[vv k n s] w fun e w' => e = .returned (.string (txtV k n s)) ∧ Below w.heap.size w w' := by
  unfold txtV
  by_cases h : chkV k n s = true
  · rw [if_pos h]; exact text_ok k n s w hs hU hT h
  · rw [if_neg h]; exact text_no k n s w hs hU (by simpa using h)
end Go.Proofs.YtdendpckihckeaaGreatDoor
