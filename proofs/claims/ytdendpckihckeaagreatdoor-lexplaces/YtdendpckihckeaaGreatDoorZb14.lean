/- quic.Take: items of kinds at the front of bytes. -/
import Derived.Test.YtdendpckihckeaaGreatDoorZb12
import Derived.Test.YtdendpckihckeaaGreatDoorZb13
import Derived.Test.YtdendpckihckeaaGreatDoorZb11
import Derived.Test.YtdendpckihckeaaGreatDoorZb1
import Derived.Lib.Bytealg
namespace Go.Proofs.YtdendpckihckeaaGreatDoor.Q
open Go.RowKit

def isK (k : Int) : Bool := decide (1 ≤ k ∧ k ≤ 4)
/-- What Take gathers, from some items and the bytes that are left on. -/
def tk : List It → ByteArray → List Int → List It × ByteArray × Int
  | acc, s, [] => (acc, s, 0)
  | acc, s, k :: ks => if tE s k = 0 then tk (acc ++ [⟨k, tN s k, tS s k⟩]) (tR s k) ks else ([], ⟨#[]⟩, tE s k)
def intCells (l : List Int) : List Value := l.map (Value.int .i64)
theorem ints_at {w : World} {a : Option Addr} {cap : Nat} {l : List Int} (h : IsRow w 1 (.slice a l.length cap) l.length (intCells l)) (i : Nat) (hi : i < l.length) :
    ∃ b off, a = some ⟨b, off, none⟩ ∧ b < w.heap.size ∧ w.cell? ⟨b, off + i, none⟩ = some (.int .i64 (l[i]'hi)) := by
  obtain ⟨b, off, cap', hv, hlt, _, _, hc⟩ := h.open (by omega)
  simp only [Value.slice.injEq] at hv
  exact ⟨b, off, hv.1, hlt, hc i _ (by simp [intCells, hi])⟩
theorem ttR_size (s : ByteArray) : (ttR s).size ≤ s.size := by
  have := getRest_size s
  unfold ttR; split
  · rw [size_extract _ _ _ (Nat.le_refl _)]; omega
  · exact Nat.zero_le _
theorem tR_size (s : ByteArray) (k : Int) : (tR s k).size ≤ s.size := by
  unfold tR
  split
  · exact getRest_size s
  split
  · exact getRest_size s
  split
  · unfold tfR; split
    · rw [size_extract _ _ _ (Nat.le_refl _)]; omega
    · exact Nat.zero_le _
  · exact ttR_size s

theorem owns_set {w : World} {base : Nat} {e : TypeId} {sz : Nat} {v : Value} {n : Nat} {xs : List Value} (h : w.ownsRow base e sz v n xs) {a : Addr} {u : Value} (hne : v.ownBlock ≠ some a.block) : (w.setCell a u).ownsRow base e sz v n xs :=
  h.kept (row := some a.block) ⟨rfl, rfl, rfl, by simp, fun k _ hk => Below.heap_setCell w a u k (fun e => hk (by rw [e]))⟩ (.inr hne)
theorem owns_below {w w1 : World} {base : Nat} {e : TypeId} {sz : Nat} {v : Value} {n : Nat} {xs : List Value} (h : w.ownsRow base e sz v n xs) (hb : Below w.heap.size w w1) : w1.ownsRow base e sz v n xs :=
  h.kept (row := none) ⟨hb.os, hb.tape, hb.output, hb.size, fun k hk _ => hb.block k hk⟩ (by cases hv : v.ownBlock <;> simp)
theorem owns_ne {w : World} {base : Nat} {e : TypeId} {sz : Nat} {v : Value} {n : Nat} {xs : List Value} (h : w.ownsRow base e sz v n xs) : v.ownBlock ≠ some w.heap.size := by
  intro e1
  have := (h.lt _ e1).2
  omega

/-- The same, the new block told by its number. -/
theorem wpl_appn {P : Program} (wr : World) {ops : Array Oper} {rest : List Oper} {o : Oper} {a : Act} {Q : Exit → Act → World → Prop} (hgd : o.guard = none) (s x : Operand) (t e : TypeId)
    (ho : o.op = .call { callee := .builtin .append, args := #[s, x], argTypes := #[t, t] })
    (i : TypeInfo) (z : Value) (size bytes : Nat) (ht : P.underlying t = some (.slice e)) (hi : P.info? e = some i) (hz : i.zero = some z)
    (hsize : i.size = size) (hby : i.bytes = bytes) (hzs : z.cells.size = size) (hsz : 0 < size)
    (base : Nat) (v : Value) (n : Nat) (xs : List Value) (hs : a.eval s = v) (hown : wr.ownsRow base e size v n xs)
    (es : List Value) (hes : es.length = size) (C : Array Value) (hC : C = es.toArray) (N : Nat) (hN : N = wr.heap.size) (hx : a.eval x = .slice (some ⟨N, 0, none⟩) 1 1) (h1 : ∀ u ∈ es, u.oneCell' = true)
    (hbytes : (n + 1) * bytes ≤ 140737488355328) (h63 : n + 1 ≤ maxLen) (hbase : base ≤ wr.heap.size)
    (h : ∀ v' w', w'.ownsRow base e size v' (n + 1) (xs ++ es) → Below base wr w' → wpList P ops Q rest (a.put o.dst v') w') :
    wpList P ops Q (o :: rest) a (wr.alloc (.cells C e)) := by
  subst hN
  exact wpl_appk wr hgd s x t e ho i z size bytes ht hi hz hsize hby hzs hsz base v n xs hs hown es hes C hC hx h1 hbytes h63 hbase h

theorem info_apiItem : (Tryz.prog.info? 65).map (fun i => (i.zero, i.size, i.bytes)) = some (some (.agg #[.int .i64 0, .int .i64 0, .string ⟨#[]⟩]), 3, 32) := by kernel_rfl

/-- What Take leaves: a row of the items, the rest, the error. -/
def TakePost (r : List It × ByteArray × Int) (w : World) (e : Ending) (w' : World) : Prop :=
  ∃ v, e = .returned (.tuple #[v, .string r.2.1, .int .i64 r.2.2]) ∧ IsRow w' 3 v r.1.length (itCells r.1) ∧ Below w.heap.size w w'

set_option maxRecDepth 100000 in
set_option maxHeartbeats 2000000 in
theorem take_ok (s : ByteArray) (v : Value) (ks : List Int) (w : World) (hs : s.size ≤ 140737488355328) (h : IsRow w 1 v ks.length (intCells ks)) (hl : ks.length ≤ 4096) (hk : ks.all isK = true) :
    Calls Tryz.prog 45 #[.string s, v] w fun e w' => TakePost (tk [] s ks) w e w' := by
  obtain ⟨a0, cap0, rfl⟩ := h.form
  obtain ⟨i0, hi0, hz0, hz1, hz2⟩ := info_parts info_apiItem
  have hl' : ¬ (4096 : Int) < ks.length := by omega
  have HK : Hid (ks.all isK = true) := hk
  clear hk
  go_enter Tryz.func45, Tryz.ntmps45
  go_wp2
  go_loopw [4, 17] (fun t i wr => ∃ k : Nat, k ≤ ks.length ∧ i = .int .i64 k ∧ t = .slice none 0 0 ∧ Below w.heap.size w wr) (fun _ i _ => ks.length - (intOf i).toNat)
  case atStart => exact ⟨0, Nat.zero_le _, rfl, rfl, Below.refl _ _⟩
  case round =>
    obtain ⟨k, hk, rfl, rfl, hb⟩ := hrel
    by_cases hlt : k < ks.length
    · obtain ⟨b, off, rfl, hbl, c0⟩ := ints_at (h.below hb) k hlt
      have hi : (k : Int) < ks.length := by omega
      have HM : 1 ≤ ks[k] ∧ ks[k] ≤ 4 := of_decide_eq_true (List.all_eq_true.1 HK.out _ (List.getElem_mem hlt))
      obtain ⟨hm1, hm4⟩ := HM
      go_wp2
      go_roundw
      case rel => exact ⟨k + 1, by omega, by go_num, rfl, hb⟩
      case measure => simp [intOf]; omega
    · have hk' : k = ks.length := by omega
      subst hk'
      obtain ⟨W1, rfl⟩ : ∃ W1, W1 = wr := ⟨_, rfl⟩
      have hr1 := h.below hb
      have hs1 := hb.size
      go_wp2_with fail
      go_loopw [0, 4, 6, 27] (fun ss t ee i wx => ∃ (k : Nat) (acc : List It) (sj : ByteArray), k ≤ ks.length ∧ i = .int .i64 k ∧ ss = .string sj ∧ sj.size ≤ 140737488355328 ∧ acc.length = k ∧ tk acc sj (ks.drop k) = tk [] s ks ∧ wx.ownsRow W1.heap.size 65 3 t acc.length (itCells acc) ∧ Below W1.heap.size W1 wx) (fun _ _ _ i _ => ks.length - (intOf i).toNat)
      case atStart => exact ⟨0, [], s, Nat.zero_le _, rfl, rfl, hs, rfl, rfl, World.ownsRow_nil _ _ _ _, Below.refl _ _⟩
      case round =>
        obtain ⟨k, acc, sj, hk, rfl, rfl, hsj, hal, htk, hown, hbx⟩ := hrel
        have HT : Hid (tk acc sj (ks.drop k) = tk [] s ks) := htk
        clear htk
        have hsx := hbx.size
        by_cases hlt : k < ks.length
        · obtain ⟨b, off, rfl, hbl, c0⟩ := ints_at (hr1.below hbx) k hlt
          have hi : (k : Int) < ks.length := by omega
          have HM : 1 ≤ ks[k] ∧ ks[k] ≤ 4 := of_decide_eq_true (List.all_eq_true.1 HK.out _ (List.getElem_mem hlt))
          have HD : Hid (ks.drop k = ks[k] :: ks.drop (k + 1)) := List.drop_eq_getElem_cons hlt
          obtain ⟨hm1, hm4⟩ := HM
          generalize hkk : ks[k] = kk at *
          clear hkk
          go_wp2_with fail
          refine (takeItem_any _ _ _ hsj hm1 hm4).mono ?_
          rintro e w2 ⟨rfl, hb2⟩
          obtain ⟨hc, hf, hbl2, hz⟩ := part_cells0 hb2
          have hown2 := owns_below (hown.alloc _) hb2
          have hne := owns_ne hown
          have HS : Hid (Below W1.heap.size W1 w2) := hbx.trans (hbl2.mono hsx)
          clear hb2 c0
          by_cases hte : tE sj kk = 0
          · have HN : Hid (tk (acc ++ [⟨kk, tN sj kk, tS sj kk⟩]) (tR sj kk) (ks.drop (k + 1)) = tk [] s ks) := by
              show _ = _
              rw [← HT.out, HD.out]
              show _ = (if tE sj kk = 0 then _ else _)
              rw [if_pos hte]
            have htr := tR_size sj kk
            have HZ : Hid (tE sj kk = 0) := hte
            clear hte
            rw [HZ.out]
            go_wp2_with (at_builtin; refine wpl_appn _ rfl (.tmp 41) (.tmp 43) 67 65 rfl i0 _ 3 32 Tryz.underlying67 hi0 hz0 hz1 hz2 rfl (by decide) _ _ _ _ rfl (owns_set (owns_set (owns_set hown2 hne) hne) hne) (It.cells ⟨kk, tN sj kk, tS sj kk⟩) rfl _ rfl w2.heap.size (by simp) rfl (by intro u hu; simp [It.cells] at hu; rcases hu with rfl | rfl | rfl <;> rfl) (by omega) (by unfold maxLen; omega) (by simp; have := HS.out.size; omega) ?_; intro v3 w3 hown3 hb3)
            have HO : Hid (w3.ownsRow W1.heap.size 65 3 v3 (acc ++ [It.mk kk (tN sj kk) (tS sj kk)]).length (itCells (acc ++ [It.mk kk (tN sj kk) (tS sj kk)]))) := by
              show World.ownsRow _ _ _ _ _ _ _
              rw [itCells_snoc, List.length_append]
              exact hown3
            have HB3 : Hid (Below W1.heap.size W1 w3) := (((HS.out.setCell (p := ⟨wr.heap.size, 0, none⟩) hsx _).setCell (p := ⟨wr.heap.size, 1, none⟩) hsx _).setCell (p := ⟨wr.heap.size, 2, none⟩) hsx _).trans hb3
            refine ⟨⟨k + 1, acc ++ [⟨kk, tN sj kk, tS sj kk⟩], tR sj kk, by omega, by go_num, rfl, by omega, by simp [hal], HN.out, HO.out, HB3.out⟩, ?_⟩
            simp [intOf]; omega
          · have HN : Hid ((([] : List It), (⟨#[]⟩ : ByteArray), tE sj kk) = tk [] s ks) := by
              show _ = _
              rw [← HT.out, HD.out]
              show _ = (if tE sj kk = 0 then _ else _)
              rw [if_neg hte]
            have hte' : (tE sj kk != 0) = true := by rw [bne_iff_ne]; exact hte
            have HF : Hid (Below w.heap.size w w2) := hb.trans (HS.out.mono hs1)
            clear hte
            go_wp2
            go_ret3
            refine ⟨.slice none 0 0, ?_, ?_, ?_⟩
            · rw [← HN.out]; rfl
            · rw [← HN.out]; exact IsRow.nil _ _
            · exact (((HF.out.setCell (p := ⟨wr.heap.size, 0, none⟩) (by show w.heap.size ≤ wr.heap.size; omega) _).setCell (p := ⟨wr.heap.size, 1, none⟩) (by show w.heap.size ≤ wr.heap.size; omega) _).setCell (p := ⟨wr.heap.size, 2, none⟩) (by show w.heap.size ≤ wr.heap.size; omega) _)
        · have hk' : k = ks.length := by omega
          have HN : Hid ((acc, sj, 0) = tk [] s ks) := by
            show _ = _
            rw [← HT.out, List.drop_of_length_le (by omega)]
            rfl
          have HF : Hid (Below w.heap.size w wr) := hb.trans (hbx.mono hs1)
          have HO : Hid (IsRow wr 3 u4 acc.length (itCells acc)) := IsRow.own hown
          clear hown
          subst hk'
          go_wp2
          go_ret3
          refine ⟨u4, ?_, ?_, HF.out⟩
          · rw [← HN.out]; rfl
          · rw [← HN.out]; exact HO.out

set_option maxHeartbeats 1000000 in
theorem take_long (s : ByteArray) (a : Option Addr) (n cap : Nat) (w : World) (hl : 4096 < n) (hn : n ≤ 140737488355328) :
    Calls Tryz.prog 45 #[.string s, .slice a n cap] w fun e w' => TakePost ([], ⟨#[]⟩, 2) w e w' := by
  have hl' : (4096 : Int) < n := by omega
  go_enter Tryz.func45, Tryz.ntmps45
  go_wp2
  go_ret3
  exact ⟨.slice none 0 0, rfl, IsRow.nil _ _, Below.refl _ _⟩

theorem allk_take {l : List Int} {k : Nat} (h : k < l.length) (h1 : (l.take k).all isK = true) (h2 : isK (l[k]'h) = true) : (l.take (k + 1)).all isK = true := by
  rw [List.take_succ_eq_append_getElem h, List.all_append, h1]
  simp [h2]

set_option maxRecDepth 100000 in
set_option maxHeartbeats 2000000 in
theorem take_bad (s : ByteArray) (v : Value) (ks : List Int) (w : World) (h : IsRow w 1 v ks.length (intCells ks)) (hl : ks.length ≤ 4096) (hk : ks.all isK = false) :
    Calls Tryz.prog 45 #[.string s, v] w fun e w' => TakePost ([], ⟨#[]⟩, 1) w e w' := by
  obtain ⟨a0, cap0, rfl⟩ := h.form
  have hl' : ¬ (4096 : Int) < ks.length := by omega
  have HK : Hid (ks.all isK = false) := hk
  clear hk
  go_enter Tryz.func45, Tryz.ntmps45
  go_wp2
  go_loopw [17] (fun i wr => ∃ k : Nat, k ≤ ks.length ∧ i = .int .i64 k ∧ (ks.take k).all isK = true ∧ Below w.heap.size w wr) (fun i _ => ks.length - (intOf i).toNat)
  case atStart => exact ⟨0, Nat.zero_le _, rfl, rfl, Below.refl _ _⟩
  case round =>
    obtain ⟨k, hk, rfl, hall, hb⟩ := hrel
    have HA : Hid ((ks.take k).all isK = true) := hall
    clear hall
    by_cases hlt : k < ks.length
    · obtain ⟨b, off, rfl, hbl, c0⟩ := ints_at (h.below hb) k hlt
      have hi : (k : Int) < ks.length := by omega
      by_cases hm1 : 1 ≤ ks[k]
      · by_cases hm4 : ks[k] ≤ 4
        · have HN : Hid ((ks.take (k + 1)).all isK = true) := allk_take hlt HA.out (by simp [isK, hm1, hm4])
          go_wp2
          go_roundw
          case rel => exact ⟨k + 1, by omega, by go_num, HN.out, hb⟩
          case measure => simp [intOf]; omega
        · have hd : decide (ks[k] ≤ 4) = false := by simpa using hm4
          go_wp2
          go_ret3
          exact ⟨.slice none 0 0, rfl, IsRow.nil _ _, hb⟩
      · have hd : decide (1 ≤ ks[k]) = false := by simpa using hm1
        go_wp2
        go_ret3
        exact ⟨.slice none 0 0, rfl, IsRow.nil _ _, hb⟩
    · exfalso
      have e : ks.take k = ks := List.take_of_length_le (by omega)
      have h1 := HA.out
      rw [e, HK.out] at h1
      cases h1

/-- What Take answers, up to 4,096 kinds. -/
def takeR (s : ByteArray) (ks : List Int) : List It × ByteArray × Int := if ks.all isK = true then tk [] s ks else ([], ⟨#[]⟩, 1)
theorem take_any (s : ByteArray) (v : Value) (ks : List Int) (w : World) (hs : s.size ≤ 140737488355328) (h : IsRow w 1 v ks.length (intCells ks)) (hl : ks.length ≤ 4096) :
    Calls Tryz.prog 45 #[.string s, v] w fun e w' => TakePost (takeR s ks) w e w' := by
  unfold takeR
  by_cases hc : ks.all isK = true
  · rw [if_pos hc]; exact take_ok s v ks w hs h hl hc
  · rw [if_neg hc]; exact take_bad s v ks w h hl (by simpa using hc)
end Go.Proofs.YtdendpckihckeaaGreatDoor.Q
/- lex.Lex at any text: its walk. -/
namespace Go.Proofs.YtdendpckihckeaaGreatDoor
open Go.RowKit

theorem own_ne_iter6 {w : World} {base : Nat} {e : TypeId} {sz : Nat} {v : Value} {n : Nat} {xs : List Value} (h : w.ownsRow base e sz v n xs) {k : Nat} {s : ByteArray} {p : Nat} (hk : w.heap[k]? = some (.stringIter s p)) : v.ownBlock ≠ some k := by
  intro e
  rcases h.2 with ⟨hv, _⟩ | ⟨g, cap, cur, hv, _, hg, _⟩
  · rw [hv] at e; cases e
  · rw [hv] at e
    cases e
    rw [hk] at hg
    cases hg
theorem own_iter6 {w : World} {base : Nat} {e : TypeId} {sz : Nat} {v : Value} {n : Nat} {xs : List Value} (h : w.ownsRow base e sz v n xs) {k : Nat} {s : ByteArray} {p : Nat} (hk : w.heap[k]? = some (.stringIter s p)) (p' : Nat) : (w.iterAt k s p').ownsRow base e sz v n xs :=
  h.kept (row := some k) ⟨rfl, rfl, rfl, by rw [Lib.iterAt_size]; exact Nat.le_refl _, fun j _ hj => Lib.iterAt_other w k j s p' (fun e => hj (by rw [e]))⟩ (.inr (own_ne_iter6 h hk))
theorem own_below6 {w w1 : World} {base : Nat} {e : TypeId} {sz : Nat} {v : Value} {n : Nat} {xs : List Value} (h : w.ownsRow base e sz v n xs) (hb : Below w.heap.size w w1) : w1.ownsRow base e sz v n xs :=
  h.kept (row := none) ⟨hb.os, hb.tape, hb.output, hb.size, fun k hk _ => hb.block k hk⟩ (by cases hv : v.ownBlock <;> simp)
theorem al_below6 (w : World) (o : Obj) : Below w.heap.size w (w.alloc o) := (Below.refl _ _).alloc (Nat.le_refl _) _
theorem info_tok : (Tryz.prog.info? 51).map (fun i => (i.zero, i.size, i.bytes)) = some (some (.agg #[.int .i64 0, .int .i64 0, .string ⟨#[]⟩, .int .i64 0, .int .i64 0, .string ⟨#[]⟩]), 6, 64) := by kernel_rfl
/-- What Lex leaves. -/
def LxPost (x : Lx) (w : World) (e : Ending) (w' : World) : Prop :=
  ∃ v, e = .returned (.tuple #[v, .int .i64 x.a, .int .i64 x.e]) ∧ IsRow w' 6 v x.l.length (tkCells x.l) ∧ Below w.heap.size w w'
/-- What holds of Lex's loop at every round. -/
def LxRel (s : ByteArray) (w : World) (k0 : Nat) (t a n l : Value) (wr : World) : Prop :=
  ∃ (pos at' en : Nat) (long : Int) (acc : List Tk), a = .int .i64 (at' : Int) ∧ n = .int .i64 (en : Int) ∧ l = .int .i64 long ∧ wr.ownsRow (k0 + 1) 51 6 t acc.length (tkCells acc) ∧ wr.heap[k0]? = some (.stringIter s pos) ∧ Below w.heap.size w wr ∧
    pos ≤ s.size ∧ at' ≤ pos ∧ acc.length ≤ at' ∧ en ≤ 2 * s.size ∧ -1 ≤ long ∧ long ≤ pos ∧ lxs (s.data.toList.drop pos) pos at' en long acc = lxs s.data.toList 0 0 0 (-1) []
theorem cut_size (l : List UInt8) : (cutL l).z ≤ l.length ∧ ((cutL l).e = 0 ∨ (cutL l).e = 2 ∨ (cutL l).e = 3) := by
  unfold cutL
  split
  · exact ⟨Nat.zero_le _, .inr (.inl rfl)⟩
  split
  · exact ⟨Nat.sub_le _ _, .inl rfl⟩
  split
  · refine ⟨?_, .inl rfl⟩
    show wsz l ≤ _
    unfold wsz
    split
    · exact wgo_le _ _ (Nat.le_refl _)
    · exact Nat.zero_le _
  split
  · refine ⟨?_, .inl rfl⟩
    show msz l ≤ _
    rename_i hm
    unfold msz at hm ⊢
    split
    · rename_i hp
      rcases hp with hp | hp | hp <;> exact pre_len hp
    · rename_i hp
      rw [if_neg hp] at hm
      split at hm
      · rename_i hi
        rw [if_pos hi]
        cases l with
        | nil => exfalso; revert hi; decide
        | cons b t => simp
      · simp at hm
  · exact ⟨Nat.zero_le _, .inr (.inr rfl)⟩
/-- A next round. -/
theorem lx_again {s : ByteArray} {w W W3 : World} {k0 : Nat} {t av nv lv : Value} {pos at' en M : Nat} {long : Int} {acc : List Tk} {X : Lx} (HXX : Hid (lxs s.data.toList 0 0 0 (-1) [] = X))
    (HX : Hid (X = lxs (s.data.toList.drop pos) pos at' en long acc)) (ha : av = .int .i64 (at' : Int)) (hn : nv = .int .i64 (en : Int)) (hl : lv = .int .i64 long) (hit : W.heap[k0]? = some (.stringIter s pos))
    (HB : Hid (Below (k0 + 1) W W3)) (hbw : Below w.heap.size w W) (hk : w.heap.size ≤ k0) (HO : Hid (W3.ownsRow (k0 + 1) 51 6 t acc.length (tkCells acc)))
    (h1 : pos ≤ s.size) (h2 : at' ≤ pos) (h3 : acc.length ≤ at') (h4 : en ≤ 2 * s.size) (h5 : -1 ≤ long) (h6 : long ≤ pos) (hm : Hid (s.size - pos < M)) :
    LxRel s w k0 t av nv lv W3 ∧ s.size - W3.iterPos k0 < M := by
  have hi3 : W3.heap[k0]? = some (.stringIter s pos) := (HB.out.block k0 (Nat.lt_succ_self _)).trans hit
  refine ⟨⟨pos, at', en, long, acc, ha, hn, hl, HO.out, hi3, hbw.trans (HB.out.mono (by omega)), h1, h2, h3, h4, h5, h6, HX.out.symm.trans HXX.out.symm⟩, ?_⟩
  rw [iterPos_of hi3]
  exact hm.out
set_option maxRecDepth 100000 in
set_option maxHeartbeats 8000000 in
theorem lex_any (s : ByteArray) (w : World) (hs : s.size ≤ 1000000) (h : VE w) :
    Calls Tryz.prog 22 #[.string s] w fun e w' => LxPost (lexL s.data.toList) w e w' := by
  obtain ⟨i0, hi0, hz0, hz1, hz2⟩ := info_parts info_tok
  have HVs : Hid (∀ w, UT w → Calls Tryz.prog 37 #[.string s] w fun e w' => e = .returned (.bool (Lib.validD s.data.toList)) ∧ Below w.heap.size w w') := fun w hU => Tryz.utf8_ValidString s w (by omega) hU
  cases hv : Lib.validD s.data.toList
  · have HX : Hid (lexL s.data.toList = ⟨[], 0, 3⟩) := by show _ = _; unfold lexL; rw [if_neg (by rw [hv]; decide)]
    rw [HX.out]
    rw [hv] at HVs
    clear hv HX
    go_enter Tryz.func22, Tryz.ntmps22
    go_wp2_with fail
    refine (HVs.out _ h.u).mono ?_
    rintro e0 w1 ⟨rfl, hb1⟩
    go_wp2
    go_ret3
    exact ⟨_, rfl, IsRow.nil _ _, hb1⟩
  · have HX : Hid (lexL s.data.toList = lxs s.data.toList 0 0 0 (-1) []) := by show _ = _; unfold lexL; rw [if_pos hv]; rfl
    rw [HX.out]
    rw [hv] at HVs
    clear hv HX
    go_enter Tryz.func22, Tryz.ntmps22
    go_wp2_with fail
    refine (HVs.out _ h.u).mono ?_
    rintro e0 w1 ⟨rfl, hb1⟩
    have hs1 := hb1.size
    go_wp2_with fail
    go_loopw [2, 3, 4, 5, 6] (fun t a e n l wr => e = .int .i64 0 ∧ LxRel s w w1.heap.size t a n l wr) (fun _ _ _ _ _ wr => s.size - wr.iterPos w1.heap.size)
    case atStart =>
      exact ⟨rfl, 0, 0, 0, -1, [], rfl, rfl, rfl, World.ownsRow_nil _ _ _ _, World.iter_heap w1 s 0, hb1.alloc hs1 _, Nat.zero_le _, Nat.le_refl _, Nat.le_refl _, Nat.zero_le _, by decide, by decide, rfl⟩
    case round =>
      obtain ⟨rfl, pos, at', en, long, acc, rfl, rfl, rfl, hown, hit, hbw, hps, hat, hac, hen, hl1, hl2, hck⟩ := hrel
      have HC : Hid (lxs (s.data.toList.drop pos) pos at' en long acc = lxs s.data.toList 0 0 0 (-1) []) := hck
      clear hck
      obtain ⟨X, HXX⟩ : ∃ X, Hid (lxs s.data.toList 0 0 0 (-1) [] = X) := ⟨_, rfl⟩
      have hszr : w1.heap.size < wr.heap.size := (Array.getElem?_eq_some_iff.1 hit).1
      by_cases hp : pos < s.size
      · have hnx : ∀ ty, (Instr.next (.pointer (some ⟨w1.heap.size, 0, none⟩)) true ty).run Tryz.prog wr = _ := fun ty => Lib.run_next_any_at wr w1.heap.size s pos ty hit hp
        have hwd := Lib.decode_width_pos s pos hp
        have hit2 := Lib.iterAt_heap wr w1.heap.size s pos (pos + (Utf8.decode s pos).2) hit
        have hbw2 := Lib.below_iterAt hbw (k := w1.heap.size) hs1 s (pos + (Utf8.decode s pos).2)
        have hown2 := own_iter6 hown hit (pos + (Utf8.decode s pos).2)
        have hne2 := own_ne_iter6 hown hit
        have hrl := Lib.rune_le s pos
        have hwl := width_le s pos hp
        have hmeas : Hid (s.size - (pos + (Utf8.decode s pos).2) < s.size - wr.iterPos w1.heap.size) := by
          show _ < _
          rw [iterPos_of hit]; omega
        have hmp : Hid ((wr.iterAt w1.heap.size s (pos + (Utf8.decode s pos).2)).iterPos w1.heap.size = pos + (Utf8.decode s pos).2) := iterPos_of hit2
        have hWs : w1.heap.size < (wr.iterAt w1.heap.size s (pos + (Utf8.decode s pos).2)).heap.size := by rw [Lib.iterAt_size]; exact hszr
        have HS : Hid (X = if en ≤ pos ∧ blankN (Utf8.decode s pos).1 = false then
            if (cutL (s.extract pos s.size).data.toList).e = 3 then ⟨[], at', 3⟩
            else if (cutL (s.extract pos s.size).data.toList).e = 2 then ⟨[], if long < 0 then at' else long, 2⟩
            else if long < 0 ∧ acc.length ≠ 300 then lxs (s.data.toList.drop (pos + (Utf8.decode s pos).2)) (pos + (Utf8.decode s pos).2) (at' + 1) (pos + (cutL (s.extract pos s.size).data.toList).z) long (acc ++ [{ (cutL (s.extract pos s.size).data.toList).t with p := at' }])
            else lxs (s.data.toList.drop (pos + (Utf8.decode s pos).2)) (pos + (Utf8.decode s pos).2) (at' + 1) (pos + (cutL (s.extract pos s.size).data.toList).z) (if long < 0 then at' else long) acc
          else lxs (s.data.toList.drop (pos + (Utf8.decode s pos).2)) (pos + (Utf8.decode s pos).2) (at' + 1) en long acc) := by
          show _ = _
          rw [← HXX.out, ← HC.out, lxs_step (drop_ne s pos hp), Lib.decodeL_drop, List.drop_drop, sub_list]
        have HCt : Hid (∀ w, VE w → Calls Tryz.prog 50 #[.string (s.extract pos s.size)] w fun e w' => e = .returned (ctV (cutL (s.extract pos s.size).data.toList)) ∧ Below w.heap.size w w') := fun w h => cut_any _ w (by rw [ByteArray.size_extract]; omega) (by rw [ByteArray.size_extract]; omega) h
        have hcz := cut_size (s.extract pos s.size).data.toList
        rw [← Lib.size_eq, ByteArray.size_extract] at hcz
        clear HC
        generalize (Utf8.decode s pos).1 = c at *
        generalize (Utf8.decode s pos).2 = d at *
        generalize hW : wr.iterAt w1.heap.size s (pos + d) = W at *
        clear hW
        have HB : Hid (∀ w : World, Calls Tryz.prog 49 #[.int .i32 (c : Int)] w fun e w' => e = .returned (.bool (blankN c)) ∧ w' = w) := fun w => blank_any c w
        have HVE : Hid (VE W) := h.below hbw2
        by_cases hg : pos < en
        · have HR : Hid (LxRel s w w1.heap.size u2 (.int .i64 ((at' : Int) + 1)) (.int .i64 (en : Int)) (.int .i64 long) W) :=
            ⟨pos + d, at' + 1, en, long, acc, by simp, rfl, rfl, hown2, hit2, hbw2, by omega, by omega, by omega, by omega, hl1, by omega, by rw [HXX.out, HS.out, if_neg (by omega)]⟩
          have dg : decide ((en : Int) ≤ pos) = false := by simp; omega
          clear HS HCt hcz hown hown2 HB HVE
          go_wp2
          go_roundw
          case rel => exact ⟨rfl, HR.out⟩
          case measure => rw [hmp.out]; exact hmeas.out
        have dg : decide ((en : Int) ≤ pos) = true := by simp; omega
        cases hbc : blankN c
        rotate_left
        · have HR : Hid (LxRel s w w1.heap.size u2 (.int .i64 ((at' : Int) + 1)) (.int .i64 (en : Int)) (.int .i64 long) W) :=
            ⟨pos + d, at' + 1, en, long, acc, by simp, rfl, rfl, hown2, hit2, hbw2, by omega, by omega, by omega, by omega, hl1, by omega, by rw [HXX.out, HS.out, if_neg (by rw [hbc]; simp)]⟩
          rw [hbc] at HB
          clear HS HCt hcz hown hown2 HVE hbc
          go_wp2_with fail
          refine (HB.out _).mono ?_
          rintro e0 w2 ⟨rfl, hw2⟩
          subst hw2
          go_wp2
          go_roundw
          case rel => exact ⟨rfl, HR.out⟩
          case measure => rw [hmp.out]; exact hmeas.out
        have HS2 := HS.out
        rw [if_pos ⟨by omega, hbc⟩] at HS2
        rw [hbc] at HB
        clear HS hbc
        generalize cutL (s.extract pos s.size).data.toList = x at *
        obtain ⟨⟨k, q, S, vk, vn, vs⟩, z, e⟩ := x
        have HC3 : Hid (∀ w, VE w → Calls Tryz.prog 50 #[.string (s.extract pos s.size)] w fun e0 w' => e0 = .returned (.tuple #[tv k q (str S) vk vn (str vs), .int .i64 (z : Int), .int .i64 e]) ∧ Below w.heap.size w w') := HCt.out
        clear HCt
        simp only at HS2 hcz
        obtain ⟨a0, cap0, hu⟩ := (IsRow.own hown2).form
        subst hu
        rcases hcz with ⟨hz, rfl | rfl | rfl⟩
        · rw [if_neg (by decide), if_neg (by decide)] at HS2
          by_cases hl : long < 0
          · have dl : decide (long < 0) = true := by simpa using hl
            by_cases hn : acc.length = 300
            · rw [if_neg (by omega), if_pos hl] at HS2
              have HS3 : Hid (X = lxs (s.data.toList.drop (pos + d)) (pos + d) (at' + 1) (pos + z) (at' : Int) acc) := HS2
              have dn : ((acc.length : Int) == 300) = true := by rw [beq_iff_eq]; omega
              have da : decide ((at' : Int) < 0) = false := by simp
              clear HS2
              go_wp2_with fail
              refine (HB.out _).mono ?_
              rintro e0 w2 ⟨rfl, hw2⟩
              subst hw2
              go_wp2_with fail
              refine (HC3.out _ HVE.out).mono ?_
              rintro e0 w3 ⟨rfl, hb3⟩
              have hs3 := hb3.size
              have HO3 : Hid ((w3.alloc (.cells #[.int .i64 k, .int .i64 q, .string (str S), .int .i64 vk, .int .i64 vn, .string (str vs)] 51)).ownsRow (w1.heap.size + 1) 51 6 (.slice a0 acc.length cap0) acc.length (tkCells acc)) := own_below6 (own_below6 hown2 hb3) (al_below6 _ _)
              have HBb : Hid (Below (w1.heap.size + 1) w2 (w3.alloc (.cells #[.int .i64 k, .int .i64 q, .string (str S), .int .i64 vk, .int .i64 vn, .string (str vs)] 51))) := (hb3.mono hWs).alloc (by omega) _
              clear hown hown2 hb3
              go_wp2
              rw [hn] at HO3
              have HF := lx_again (av := .int .i64 ((at' : Int) + 1)) (nv := .int .i64 ((pos : Int) + z)) (lv := .int .i64 (at' : Int)) HXX HS3 (by simp) (by simp) rfl hit2 HBb hbw2 hs1 (by rw [hn]; exact HO3) (by omega) (by omega) (by omega) (by omega) (by omega) (by omega) hmeas
              exact ⟨⟨rfl, HF.1⟩, HF.2⟩
            · rw [if_pos ⟨hl, hn⟩] at HS2
              have HS3 : Hid (X = lxs (s.data.toList.drop (pos + d)) (pos + d) (at' + 1) (pos + z) long (acc ++ [⟨k, at', S, vk, vn, vs⟩])) := HS2
              have dn : ((acc.length : Int) == 300) = false := by rw [beq_eq_false_iff_ne]; omega
              clear HS2
              go_wp2_with fail
              refine (HB.out _).mono ?_
              rintro e0 w2 ⟨rfl, hw2⟩
              subst hw2
              go_wp2_with fail
              refine (HC3.out _ HVE.out).mono ?_
              rintro e0 w3 ⟨rfl, hb3⟩
              have hs3 := hb3.size
              have HO3 : Hid ((w3.alloc (.cells #[.int .i64 k, .int .i64 (at' : Int), .string (str S), .int .i64 vk, .int .i64 vn, .string (str vs)] 51)).ownsRow (w1.heap.size + 1) 51 6 (.slice a0 acc.length cap0) acc.length (tkCells acc)) := own_below6 (own_below6 hown2 hb3) (al_below6 _ _)
              have HBb : Hid (Below (w1.heap.size + 1) w2 (w3.alloc (.cells #[.int .i64 k, .int .i64 (at' : Int), .string (str S), .int .i64 vk, .int .i64 vn, .string (str vs)] 51))) := (hb3.mono hWs).alloc (by omega) _
              clear hown hown2 hb3
              go_wp2_with (at_builtin; refine Q.wpl_appn _ rfl (.tmp 59) (.tmp 61) 47 51 rfl i0 _ 6 64 Tryz.underlying47 hi0 hz0 hz1 hz2 rfl (by decide) (w1.heap.size + 1) (.slice a0 acc.length cap0) acc.length (tkCells acc) rfl HO3.out (Tk.cells ⟨k, at', S, vk, vn, vs⟩) rfl _ rfl (w3.heap.size + 1) (by simp) rfl (by intro u hu; simp [Tk.cells] at hu; rcases hu with rfl | rfl | rfl | rfl | rfl | rfl <;> rfl) (by omega) (by unfold maxLen; omega) (by simp; omega) ?_; intro v5 w5 hown5 hb5)
              have HO5 : Hid (w5.ownsRow (w1.heap.size + 1) 51 6 v5 (acc ++ [Tk.mk k at' S vk vn vs]).length (tkCells (acc ++ [⟨k, at', S, vk, vn, vs⟩]))) := by
                show World.ownsRow _ _ _ _ _ _ _
                rw [tkCells_snoc, List.length_append]
                exact hown5
              have HB5 : Hid (Below (w1.heap.size + 1) w2 w5) := HBb.out.trans hb5
              have HF := lx_again (av := .int .i64 ((at' : Int) + 1)) (nv := .int .i64 ((pos : Int) + z)) (lv := .int .i64 long) HXX HS3 (by simp) (by simp) rfl hit2 HB5 hbw2 hs1 HO5 (by omega) (by omega) (by simp; omega) (by omega) (by omega) (by omega) hmeas
              exact ⟨⟨rfl, HF.1⟩, HF.2⟩
          · have dl : decide (long < 0) = false := by simpa using hl
            rw [if_neg (by omega), if_neg hl] at HS2
            have HS3 : Hid (X = lxs (s.data.toList.drop (pos + d)) (pos + d) (at' + 1) (pos + z) long acc) := HS2
            clear HS2
            go_wp2_with fail
            refine (HB.out _).mono ?_
            rintro e0 w2 ⟨rfl, hw2⟩
            subst hw2
            go_wp2_with fail
            refine (HC3.out _ HVE.out).mono ?_
            rintro e0 w3 ⟨rfl, hb3⟩
            have hs3 := hb3.size
            have HO3 : Hid ((w3.alloc (.cells #[.int .i64 k, .int .i64 q, .string (str S), .int .i64 vk, .int .i64 vn, .string (str vs)] 51)).ownsRow (w1.heap.size + 1) 51 6 (.slice a0 acc.length cap0) acc.length (tkCells acc)) := own_below6 (own_below6 hown2 hb3) (al_below6 _ _)
            have HBb : Hid (Below (w1.heap.size + 1) w2 (w3.alloc (.cells #[.int .i64 k, .int .i64 q, .string (str S), .int .i64 vk, .int .i64 vn, .string (str vs)] 51))) := (hb3.mono hWs).alloc (by omega) _
            clear hown hown2 hb3
            go_wp2
            have HF := lx_again (av := .int .i64 ((at' : Int) + 1)) (nv := .int .i64 ((pos : Int) + z)) (lv := .int .i64 long) HXX HS3 (by simp) (by simp) rfl hit2 HBb hbw2 hs1 HO3 (by omega) (by omega) (by omega) (by omega) (by omega) (by omega) hmeas
            exact ⟨⟨rfl, HF.1⟩, HF.2⟩
        · rw [if_neg (by decide), if_pos rfl] at HS2
          by_cases hl : long < 0
          · have dl : decide (long < 0) = true := by simpa using hl
            rw [if_pos hl] at HS2
            have HS3 : Hid (X = ⟨[], at', 2⟩) := HS2
            have da : decide (0 ≤ (at' : Int)) = true := by simp
            clear HS2
            go_wp2_with fail
            refine (HB.out _).mono ?_
            rintro e0 w2 ⟨rfl, hw2⟩
            subst hw2
            go_wp2_with fail
            refine (HC3.out _ HVE.out).mono ?_
            rintro e0 w3 ⟨rfl, hb3⟩
            have hs3 := hb3.size
            have HBb : Hid (Below w.heap.size w (w3.alloc (.cells #[.int .i64 k, .int .i64 q, .string (str S), .int .i64 vk, .int .i64 vn, .string (str vs)] 51))) := (hbw2.trans (hb3.mono hbw2.size)).alloc (by omega) _
            clear hown hown2 hb3
            go_wp2
            go_ret3
            exact ⟨_, by rw [HXX.out, HS3.out]; rfl, by rw [HXX.out, HS3.out]; exact IsRow.nil _ _, HBb.out⟩
          · have dl : decide (long < 0) = false := by simpa using hl
            have da : decide (0 ≤ long) = true := by simp; omega
            rw [if_neg hl] at HS2
            have HS3 : Hid (X = ⟨[], long, 2⟩) := HS2
            clear HS2
            go_wp2_with fail
            refine (HB.out _).mono ?_
            rintro e0 w2 ⟨rfl, hw2⟩
            subst hw2
            go_wp2_with fail
            refine (HC3.out _ HVE.out).mono ?_
            rintro e0 w3 ⟨rfl, hb3⟩
            have hs3 := hb3.size
            have HBb : Hid (Below w.heap.size w (w3.alloc (.cells #[.int .i64 k, .int .i64 q, .string (str S), .int .i64 vk, .int .i64 vn, .string (str vs)] 51))) := (hbw2.trans (hb3.mono hbw2.size)).alloc (by omega) _
            clear hown hown2 hb3
            go_wp2
            go_ret3
            exact ⟨_, by rw [HXX.out, HS3.out]; rfl, by rw [HXX.out, HS3.out]; exact IsRow.nil _ _, HBb.out⟩
        · rw [if_pos rfl] at HS2
          have HS3 : Hid (X = ⟨[], at', 3⟩) := HS2
          clear HS2
          go_wp2_with fail
          refine (HB.out _).mono ?_
          rintro e0 w2 ⟨rfl, hw2⟩
          subst hw2
          go_wp2_with fail
          refine (HC3.out _ HVE.out).mono ?_
          rintro e0 w3 ⟨rfl, hb3⟩
          have hs3 := hb3.size
          have HBb : Hid (Below w.heap.size w (w3.alloc (.cells #[.int .i64 k, .int .i64 q, .string (str S), .int .i64 vk, .int .i64 vn, .string (str vs)] 51))) := (hbw2.trans (hb3.mono hbw2.size)).alloc (by omega) _
          clear hown hown2 hb3
          go_wp2
          go_ret3
          exact ⟨_, by rw [HXX.out, HS3.out]; rfl, by rw [HXX.out, HS3.out]; exact IsRow.nil _ _, HBb.out⟩
      · have hnx : ∀ ty, (Instr.next (.pointer (some ⟨w1.heap.size, 0, none⟩)) true ty).run Tryz.prog wr = _ := fun ty => Lib.run_next_end_at wr w1.heap.size s pos ty hit hp
        have HE : Hid (lxs s.data.toList 0 0 0 (-1) [] = lxEnd at' long acc) := by
          show _ = _
          rw [← HC.out, List.drop_of_length_le (by rw [← Lib.size_eq]; omega), lxs_nil]
        by_cases hl : 0 ≤ long
        · have dl : decide (0 ≤ long) = true := by simpa using hl
          have HE2 : Hid (lxs s.data.toList 0 0 0 (-1) [] = ⟨[], long, 2⟩) := HE.out.trans (if_pos hl)
          clear HE HC hown
          go_wp2
          go_ret3
          refine ⟨_, by rw [HE2.out]; rfl, by rw [HE2.out]; exact IsRow.nil _ _, hbw⟩
        · have dl : decide (0 ≤ long) = false := by simpa using hl
          have HE2 : Hid (lxs s.data.toList 0 0 0 (-1) [] = ⟨acc, at', 0⟩) := HE.out.trans (if_neg hl)
          have HO : Hid (IsRow wr 6 u2 acc.length (tkCells acc)) := IsRow.own hown
          clear HE HC hown
          go_wp2
          go_ret3
          refine ⟨u2, by rw [HE2.out]; rfl, by rw [HE2.out]; exact HO.out, hbw⟩
end Go.Proofs.YtdendpckihckeaaGreatDoor
/- The bytes of UTF-8 stand as the runes do: plain, of no program. -/
namespace Go.Proofs.YtdendpckihckeaaGreatDoor
open Go.Lib
set_option maxRecDepth 100000

/-- How rows of runes stand. -/
def cmpR : List Nat → List Nat → Int
  | [], [] => 0
  | [], _ :: _ => -1
  | _ :: _, [] => 1
  | a :: k, b :: l => if a < b then -1 else if b < a then 1 else cmpR k l
theorem cb_lt {m n : Nat} (hn : n < 256) (h : m < n) (x y : List UInt8) : compareBytes (UInt8.ofNat m :: x) (UInt8.ofNat n :: y) = -1 := by
  have e : UInt8.ofNat m < UInt8.ofNat n := by
    rw [UInt8.lt_iff_toNat_lt, toNat_of (by omega), toNat_of hn]
    exact h
  simp [compareBytes, e]
theorem cb_eq (b : UInt8) (x y : List UInt8) : compareBytes (b :: x) (b :: y) = compareBytes x y := by
  simp [compareBytes]
theorem cb_pre : ∀ (p x y : List UInt8), compareBytes (p ++ x) (p ++ y) = compareBytes x y
  | [], _, _ => rfl
  | b :: p, x, y => by rw [List.cons_append, List.cons_append, cb_eq, cb_pre p x y]
/-- Of two first bytes, and what stands behind them. -/
theorem cb_step {m n : Nat} (hn : n < 256) (x y : List UInt8) (h : m < n ∨ (m = n ∧ compareBytes x y = -1)) : compareBytes (UInt8.ofNat m :: x) (UInt8.ofNat n :: y) = -1 := by
  rcases h with h | ⟨rfl, h⟩
  · exact cb_lt hn h x y
  · rw [cb_eq]; exact h
theorem enc_lt {c d : Nat} (hc : scal c) (hd : scal d) (h : c < d) (x y : List UInt8) : compareBytes (enc c ++ x) (enc d ++ y) = -1 := by
  have hd' := hd
  unfold scal at hd'
  by_cases d1 : d < 128
  · rw [enc1 d1, enc1 (by omega)]
    exact cb_lt (by omega) h _ _
  by_cases d2 : d < 2048
  · rw [enc2 (by omega) d2]
    by_cases c1 : c < 128
    · rw [enc1 c1]
      exact cb_lt (by omega) (by omega) _ _
    · rw [enc2 (by omega) (by omega)]
      refine cb_step (by omega) _ _ ?_
      by_cases e : c / 64 = d / 64
      · exact .inr ⟨by omega, cb_step (by omega) _ _ (.inl (by omega))⟩
      · exact .inl (by omega)
  by_cases d3 : d < 65536
  · rw [enc3 (by omega) d3 hd]
    by_cases c1 : c < 128
    · rw [enc1 c1]
      exact cb_lt (by omega) (by omega) _ _
    by_cases c2 : c < 2048
    · rw [enc2 (by omega) (by omega)]
      exact cb_lt (by omega) (by omega) _ _
    · rw [enc3 (by omega) (by omega) hc]
      refine cb_step (by omega) _ _ ?_
      by_cases e : c / 4096 = d / 4096
      · refine .inr ⟨by omega, cb_step (by omega) _ _ ?_⟩
        by_cases e2 : c / 64 % 64 = d / 64 % 64
        · exact .inr ⟨by omega, cb_step (by omega) _ _ (.inl (by omega))⟩
        · exact .inl (by omega)
      · exact .inl (by omega)
  · rw [enc4 (by omega) hd]
    by_cases c1 : c < 128
    · rw [enc1 c1]
      exact cb_lt (by omega) (by omega) _ _
    by_cases c2 : c < 2048
    · rw [enc2 (by omega) (by omega)]
      exact cb_lt (by omega) (by omega) _ _
    by_cases c3 : c < 65536
    · rw [enc3 (by omega) (by omega) hc]
      exact cb_lt (by omega) (by omega) _ _
    · rw [enc4 (by omega) hc]
      refine cb_step (by omega) _ _ ?_
      by_cases e : c / 262144 = d / 262144
      · refine .inr ⟨by omega, cb_step (by omega) _ _ ?_⟩
        by_cases e2 : c / 4096 % 64 = d / 4096 % 64
        · refine .inr ⟨by omega, cb_step (by omega) _ _ ?_⟩
          by_cases e3 : c / 64 % 64 = d / 64 % 64
          · exact .inr ⟨by omega, cb_step (by omega) _ _ (.inl (by omega))⟩
          · exact .inl (by omega)
        · exact .inl (by omega)
      · exact .inl (by omega)
theorem cb_anti : ∀ (a b : List UInt8), compareBytes a b = - compareBytes b a
  | [], [] => rfl
  | [], b :: l => by simp [compareBytes]
  | a :: k, [] => by simp [compareBytes]
  | a :: k, b :: l => by
    simp only [compareBytes]
    by_cases h1 : a < b
    · have h2 : ¬ b < a := UInt8.lt_asymm h1
      simp [h1, h2]
    · by_cases h2 : b < a
      · simp [h1, h2]
      · simp [h1, h2, cb_anti k l]
theorem enc_cons (c : Nat) : ∃ b t, enc c = b :: t := by
  have := enc_len c
  cases h : enc c with
  | nil => rw [h] at this; simp at this
  | cons b t => exact ⟨b, t, rfl⟩
/-- The bytes of runes stand as the runes. -/
theorem cmp_enc : ∀ (a b : List Nat), (∀ c ∈ a, scal c) → (∀ c ∈ b, scal c) → compareBytes (a.flatMap enc) (b.flatMap enc) = cmpR a b
  | [], [], _, _ => rfl
  | [], b :: l, _, _ => by
    obtain ⟨x, t, e⟩ := enc_cons b
    rw [List.flatMap_cons, e]
    rfl
  | a :: k, [], _, _ => by
    obtain ⟨x, t, e⟩ := enc_cons a
    rw [List.flatMap_cons, e]
    rfl
  | a :: k, b :: l, ha, hb => by
    have ih := cmp_enc k l (fun x hx => ha x (List.mem_cons_of_mem _ hx)) (fun x hx => hb x (List.mem_cons_of_mem _ hx))
    rw [List.flatMap_cons, List.flatMap_cons, cmpR]
    by_cases h1 : a < b
    · rw [if_pos h1]
      exact enc_lt (ha a (by simp)) (hb b (by simp)) h1 _ _
    · by_cases h2 : b < a
      · rw [if_neg h1, if_pos h2, cb_anti, enc_lt (hb b (by simp)) (ha a (by simp)) h2]
        rfl
      · have e : a = b := by omega
        subst e
        rw [if_neg h1, if_neg h2, cb_pre, ih]
end Go.Proofs.YtdendpckihckeaaGreatDoor
