/- quic.Take: items of kinds at the front of bytes. -/
import Derived.Test.YtciibeldmcakeaaDoorT2
import Derived.Test.YtciibeldmcakeaaDoorFew
namespace Go.Proofs.YtciibeldmcakeaaDoor.Q
open Go.RowKit

def isK (k : Int) : Bool := decide (1 ≤ k ∧ k ≤ 4)
/-- What Take gathers, from some items and the bytes that are left on. -/
def tk : List It → ByteArray → List Int → List It × ByteArray × Int
  | acc, s, [] => (acc, s, 0)
  | acc, s, k :: ks => if tE s k = 0 then tk (acc ++ [⟨k, tN s k, tS s k⟩]) (tR s k) ks else ([], ⟨#[]⟩, tE s k)
def intCells (l : List Int) : List Value := l.map (Value.int .i64)
theorem ints_at {w : World} {a : Option Addr} {cap : Nat} {l : List Int} (h : IsRow w 1 (.slice a l.length cap) l.length (intCells l)) (i : Nat) (hi : i < l.length) :
    ∃ b off, a = some ⟨b, off, none⟩ ∧ b < w.heap.size ∧ w.cell? ⟨b, off + i, none⟩ = some (.int .i64 (l[i]'hi)) := by
  obtain ⟨b, off, cap', hv, hlt, _, _, hc⟩ := h.open (by omega)
  simp only [Value.slice.injEq] at hv
  exact ⟨b, off, hv.1, hlt, hc i _ (by simp [intCells, hi])⟩
theorem ttR_size (s : ByteArray) : (ttR s).size ≤ s.size := by
  have := getRest_size s
  unfold ttR; split
  · rw [size_extract _ _ _ (Nat.le_refl _)]; omega
  · exact Nat.zero_le _
theorem tR_size (s : ByteArray) (k : Int) : (tR s k).size ≤ s.size := by
  unfold tR
  split
  · exact getRest_size s
  split
  · exact getRest_size s
  split
  · unfold tfR; split
    · rw [size_extract _ _ _ (Nat.le_refl _)]; omega
    · exact Nat.zero_le _
  · exact ttR_size s

theorem owns_set {w : World} {base : Nat} {e : TypeId} {sz : Nat} {v : Value} {n : Nat} {xs : List Value} (h : w.ownsRow base e sz v n xs) {a : Addr} {u : Value} (hne : v.ownBlock ≠ some a.block) : (w.setCell a u).ownsRow base e sz v n xs :=
  h.kept (row := some a.block) ⟨rfl, rfl, rfl, by simp, fun k _ hk => Below.heap_setCell w a u k (fun e => hk (by rw [e]))⟩ (.inr hne)
theorem owns_below {w w1 : World} {base : Nat} {e : TypeId} {sz : Nat} {v : Value} {n : Nat} {xs : List Value} (h : w.ownsRow base e sz v n xs) (hb : Below w.heap.size w w1) : w1.ownsRow base e sz v n xs :=
  h.kept (row := none) ⟨hb.os, hb.tape, hb.output, hb.size, fun k hk _ => hb.block k hk⟩ (by cases hv : v.ownBlock <;> simp)
theorem owns_ne {w : World} {base : Nat} {e : TypeId} {sz : Nat} {v : Value} {n : Nat} {xs : List Value} (h : w.ownsRow base e sz v n xs) : v.ownBlock ≠ some w.heap.size := by
  intro e1
  have := (h.lt _ e1).2
  omega

/-- The same, the new block told by its number. -/
theorem wpl_appn {P : Program} (wr : World) {ops : Array Oper} {rest : List Oper} {o : Oper} {a : Act} {Q : Exit → Act → World → Prop} (hgd : o.guard = none) (s x : Operand) (t e : TypeId)
    (ho : o.op = .call { callee := .builtin .append, args := #[s, x], argTypes := #[t, t] })
    (i : TypeInfo) (z : Value) (size bytes : Nat) (ht : P.underlying t = some (.slice e)) (hi : P.info? e = some i) (hz : i.zero = some z)
    (hsize : i.size = size) (hby : i.bytes = bytes) (hzs : z.cells.size = size) (hsz : 0 < size)
    (base : Nat) (v : Value) (n : Nat) (xs : List Value) (hs : a.eval s = v) (hown : wr.ownsRow base e size v n xs)
    (es : List Value) (hes : es.length = size) (C : Array Value) (hC : C = es.toArray) (N : Nat) (hN : N = wr.heap.size) (hx : a.eval x = .slice (some ⟨N, 0, none⟩) 1 1) (h1 : ∀ u ∈ es, u.oneCell' = true)
    (hbytes : (n + 1) * bytes ≤ 140737488355328) (h63 : n + 1 ≤ maxLen) (hbase : base ≤ wr.heap.size)
    (h : ∀ v' w', w'.ownsRow base e size v' (n + 1) (xs ++ es) → Below base wr w' → wpList P ops Q rest (a.put o.dst v') w') :
    wpList P ops Q (o :: rest) a (wr.alloc (.cells C e)) := by
  subst hN
  exact wpl_appk wr hgd s x t e ho i z size bytes ht hi hz hsize hby hzs hsz base v n xs hs hown es hes C hC hx h1 hbytes h63 hbase h

theorem info_apiItem : (Tryd.prog.info? 49).map (fun i => (i.zero, i.size, i.bytes)) = some (some (.agg #[.int .i64 0, .int .i64 0, .string ⟨#[]⟩]), 3, 32) := by kernel_rfl

/-- What Take leaves: a row of the items, the rest, the error. -/
def TakePost (r : List It × ByteArray × Int) (w : World) (e : Ending) (w' : World) : Prop :=
  ∃ v, e = .returned (.tuple #[v, .string r.2.1, .int .i64 r.2.2]) ∧ IsRow w' 3 v r.1.length (itCells r.1) ∧ Below w.heap.size w w'

set_option maxRecDepth 100000 in
set_option maxHeartbeats 2000000 in
theorem take_ok (s : ByteArray) (v : Value) (ks : List Int) (w : World) (hs : s.size ≤ 140737488355328) (h : IsRow w 1 v ks.length (intCells ks)) (hl : ks.length ≤ 4096) (hk : ks.all isK = true) :
    Calls Tryd.prog 18 #[.string s, v] w fun e w' => TakePost (tk [] s ks) w e w' := by
  obtain ⟨a0, cap0, rfl⟩ := h.form
  obtain ⟨i0, hi0, hz0, hz1, hz2⟩ := info_parts info_apiItem
  have hl' : ¬ (4096 : Int) < ks.length := by omega
  have HK : Hid (ks.all isK = true) := hk
  clear hk
  go_enter Tryd.func18, Tryd.ntmps18
  go_wp2
  go_loopw [4, 17] (fun t i wr => ∃ k : Nat, k ≤ ks.length ∧ i = .int .i64 k ∧ t = .slice none 0 0 ∧ Below w.heap.size w wr) (fun _ i _ => ks.length - (intOf i).toNat)
  case atStart => exact ⟨0, Nat.zero_le _, rfl, rfl, Below.refl _ _⟩
  case round =>
    obtain ⟨k, hk, rfl, rfl, hb⟩ := hrel
    by_cases hlt : k < ks.length
    · obtain ⟨b, off, rfl, hbl, c0⟩ := ints_at (h.below hb) k hlt
      have hi : (k : Int) < ks.length := by omega
      have HM : 1 ≤ ks[k] ∧ ks[k] ≤ 4 := of_decide_eq_true (List.all_eq_true.1 HK.out _ (List.getElem_mem hlt))
      obtain ⟨hm1, hm4⟩ := HM
      go_wp2
      go_roundw
      case rel => exact ⟨k + 1, by omega, by go_num, rfl, hb⟩
      case measure => simp [intOf]; omega
    · have hk' : k = ks.length := by omega
      subst hk'
      obtain ⟨W1, rfl⟩ : ∃ W1, W1 = wr := ⟨_, rfl⟩
      have hr1 := h.below hb
      have hs1 := hb.size
      go_wp2_with fail
      go_loopw [0, 4, 6, 27] (fun ss t ee i wx => ∃ (k : Nat) (acc : List It) (sj : ByteArray), k ≤ ks.length ∧ i = .int .i64 k ∧ ss = .string sj ∧ sj.size ≤ 140737488355328 ∧ acc.length = k ∧ tk acc sj (ks.drop k) = tk [] s ks ∧ wx.ownsRow W1.heap.size 49 3 t acc.length (itCells acc) ∧ Below W1.heap.size W1 wx) (fun _ _ _ i _ => ks.length - (intOf i).toNat)
      case atStart => exact ⟨0, [], s, Nat.zero_le _, rfl, rfl, hs, rfl, rfl, World.ownsRow_nil _ _ _ _, Below.refl _ _⟩
      case round =>
        obtain ⟨k, acc, sj, hk, rfl, rfl, hsj, hal, htk, hown, hbx⟩ := hrel
        have HT : Hid (tk acc sj (ks.drop k) = tk [] s ks) := htk
        clear htk
        have hsx := hbx.size
        by_cases hlt : k < ks.length
        · obtain ⟨b, off, rfl, hbl, c0⟩ := ints_at (hr1.below hbx) k hlt
          have hi : (k : Int) < ks.length := by omega
          have HM : 1 ≤ ks[k] ∧ ks[k] ≤ 4 := of_decide_eq_true (List.all_eq_true.1 HK.out _ (List.getElem_mem hlt))
          have HD : Hid (ks.drop k = ks[k] :: ks.drop (k + 1)) := List.drop_eq_getElem_cons hlt
          obtain ⟨hm1, hm4⟩ := HM
          generalize hkk : ks[k] = kk at *
          clear hkk
          go_wp2_with fail
          refine (takeItem_any _ _ _ hsj hm1 hm4).mono ?_
          rintro e w2 ⟨rfl, hb2⟩
          obtain ⟨hc, hf, hbl2, hz⟩ := part_cells0 hb2
          have hown2 := owns_below (hown.alloc _) hb2
          have hne := owns_ne hown
          have HS : Hid (Below W1.heap.size W1 w2) := hbx.trans (hbl2.mono hsx)
          clear hb2 c0
          by_cases hte : tE sj kk = 0
          · have HN : Hid (tk (acc ++ [⟨kk, tN sj kk, tS sj kk⟩]) (tR sj kk) (ks.drop (k + 1)) = tk [] s ks) := by
              show _ = _
              rw [← HT.out, HD.out]
              show _ = (if tE sj kk = 0 then _ else _)
              rw [if_pos hte]
            have htr := tR_size sj kk
            have HZ : Hid (tE sj kk = 0) := hte
            clear hte
            rw [HZ.out]
            go_wp2_with (at_builtin; refine wpl_appn _ rfl (.tmp 41) (.tmp 43) 45 49 rfl i0 _ 3 32 Tryd.underlying45 hi0 hz0 hz1 hz2 rfl (by decide) _ _ _ _ rfl (owns_set (owns_set (owns_set hown2 hne) hne) hne) (It.cells ⟨kk, tN sj kk, tS sj kk⟩) rfl _ rfl w2.heap.size (by simp) rfl (by intro u hu; simp [It.cells] at hu; rcases hu with rfl | rfl | rfl <;> rfl) (by omega) (by unfold maxLen; omega) (by simp; have := HS.out.size; omega) ?_; intro v3 w3 hown3 hb3)
            have HO : Hid (w3.ownsRow W1.heap.size 49 3 v3 (acc ++ [It.mk kk (tN sj kk) (tS sj kk)]).length (itCells (acc ++ [It.mk kk (tN sj kk) (tS sj kk)]))) := by
              show World.ownsRow _ _ _ _ _ _ _
              rw [itCells_snoc, List.length_append]
              exact hown3
            have HB3 : Hid (Below W1.heap.size W1 w3) := (((HS.out.setCell (p := ⟨wr.heap.size, 0, none⟩) hsx _).setCell (p := ⟨wr.heap.size, 1, none⟩) hsx _).setCell (p := ⟨wr.heap.size, 2, none⟩) hsx _).trans hb3
            refine ⟨⟨k + 1, acc ++ [⟨kk, tN sj kk, tS sj kk⟩], tR sj kk, by omega, by go_num, rfl, by omega, by simp [hal], HN.out, HO.out, HB3.out⟩, ?_⟩
            simp [intOf]; omega
          · have HN : Hid ((([] : List It), (⟨#[]⟩ : ByteArray), tE sj kk) = tk [] s ks) := by
              show _ = _
              rw [← HT.out, HD.out]
              show _ = (if tE sj kk = 0 then _ else _)
              rw [if_neg hte]
            have hte' : (tE sj kk != 0) = true := by rw [bne_iff_ne]; exact hte
            have HF : Hid (Below w.heap.size w w2) := hb.trans (HS.out.mono hs1)
            clear hte
            go_wp2
            go_ret3
            refine ⟨.slice none 0 0, ?_, ?_, ?_⟩
            · rw [← HN.out]; rfl
            · rw [← HN.out]; exact IsRow.nil _ _
            · exact (((HF.out.setCell (p := ⟨wr.heap.size, 0, none⟩) (by show w.heap.size ≤ wr.heap.size; omega) _).setCell (p := ⟨wr.heap.size, 1, none⟩) (by show w.heap.size ≤ wr.heap.size; omega) _).setCell (p := ⟨wr.heap.size, 2, none⟩) (by show w.heap.size ≤ wr.heap.size; omega) _)
        · have hk' : k = ks.length := by omega
          have HN : Hid ((acc, sj, 0) = tk [] s ks) := by
            show _ = _
            rw [← HT.out, List.drop_of_length_le (by omega)]
            rfl
          have HF : Hid (Below w.heap.size w wr) := hb.trans (hbx.mono hs1)
          have HO : Hid (IsRow wr 3 u4 acc.length (itCells acc)) := IsRow.own hown
          clear hown
          subst hk'
          go_wp2
          go_ret3
          refine ⟨u4, ?_, ?_, HF.out⟩
          · rw [← HN.out]; rfl
          · rw [← HN.out]; exact HO.out

set_option maxHeartbeats 1000000 in
theorem take_long (s : ByteArray) (a : Option Addr) (n cap : Nat) (w : World) (hl : 4096 < n) (hn : n ≤ 140737488355328) :
    Calls Tryd.prog 18 #[.string s, .slice a n cap] w fun e w' => TakePost ([], ⟨#[]⟩, 2) w e w' := by
  have hl' : (4096 : Int) < n := by omega
  go_enter Tryd.func18, Tryd.ntmps18
  go_wp2
  go_ret3
  exact ⟨.slice none 0 0, rfl, IsRow.nil _ _, Below.refl _ _⟩

theorem allk_take {l : List Int} {k : Nat} (h : k < l.length) (h1 : (l.take k).all isK = true) (h2 : isK (l[k]'h) = true) : (l.take (k + 1)).all isK = true := by
  rw [List.take_succ_eq_append_getElem h, List.all_append, h1]
  simp [h2]

set_option maxRecDepth 100000 in
set_option maxHeartbeats 2000000 in
theorem take_bad (s : ByteArray) (v : Value) (ks : List Int) (w : World) (h : IsRow w 1 v ks.length (intCells ks)) (hl : ks.length ≤ 4096) (hk : ks.all isK = false) :
    Calls Tryd.prog 18 #[.string s, v] w fun e w' => TakePost ([], ⟨#[]⟩, 1) w e w' := by
  obtain ⟨a0, cap0, rfl⟩ := h.form
  have hl' : ¬ (4096 : Int) < ks.length := by omega
  have HK : Hid (ks.all isK = false) := hk
  clear hk
  go_enter Tryd.func18, Tryd.ntmps18
  go_wp2
  go_loopw [17] (fun i wr => ∃ k : Nat, k ≤ ks.length ∧ i = .int .i64 k ∧ (ks.take k).all isK = true ∧ Below w.heap.size w wr) (fun i _ => ks.length - (intOf i).toNat)
  case atStart => exact ⟨0, Nat.zero_le _, rfl, rfl, Below.refl _ _⟩
  case round =>
    obtain ⟨k, hk, rfl, hall, hb⟩ := hrel
    have HA : Hid ((ks.take k).all isK = true) := hall
    clear hall
    by_cases hlt : k < ks.length
    · obtain ⟨b, off, rfl, hbl, c0⟩ := ints_at (h.below hb) k hlt
      have hi : (k : Int) < ks.length := by omega
      by_cases hm1 : 1 ≤ ks[k]
      · by_cases hm4 : ks[k] ≤ 4
        · have HN : Hid ((ks.take (k + 1)).all isK = true) := allk_take hlt HA.out (by simp [isK, hm1, hm4])
          go_wp2
          go_roundw
          case rel => exact ⟨k + 1, by omega, by go_num, HN.out, hb⟩
          case measure => simp [intOf]; omega
        · have hd : decide (ks[k] ≤ 4) = false := by simpa using hm4
          go_wp2
          go_ret3
          exact ⟨.slice none 0 0, rfl, IsRow.nil _ _, hb⟩
      · have hd : decide (1 ≤ ks[k]) = false := by simpa using hm1
        go_wp2
        go_ret3
        exact ⟨.slice none 0 0, rfl, IsRow.nil _ _, hb⟩
    · exfalso
      have e : ks.take k = ks := List.take_of_length_le (by omega)
      have h1 := HA.out
      rw [e, HK.out] at h1
      cases h1

/-- What Take answers, up to 4,096 kinds. -/
def takeR (s : ByteArray) (ks : List Int) : List It × ByteArray × Int := if ks.all isK = true then tk [] s ks else ([], ⟨#[]⟩, 1)
theorem take_any (s : ByteArray) (v : Value) (ks : List Int) (w : World) (hs : s.size ≤ 140737488355328) (h : IsRow w 1 v ks.length (intCells ks)) (hl : ks.length ≤ 4096) :
    Calls Tryd.prog 18 #[.string s, v] w fun e w' => TakePost (takeR s ks) w e w' := by
  unfold takeR
  by_cases hc : ks.all isK = true
  · rw [if_pos hc]; exact take_ok s v ks w hs h hl hc
  · rw [if_neg hc]; exact take_bad s v ks w h hl (by simpa using hc)
end Go.Proofs.YtciibeldmcakeaaDoor.Q
