/- LexBlanks: its walk, over what the callees say. -/
import Derived.Test.YtdendpckihckeaaDoorZb4
import Derived.RegionTactic
import Derived.Deep.QuietTactic
import Derived.BigQuiet
import Derived.BigFrame
import Derived.Test.YtdendpckihckeaaDoorZb1
import Derived.Deep.RegionLaw
namespace Go.Proofs.YtdendpckihckeaaDoor
open Go.RowKit

/-- What Lex leaves (as LxPost has it). -/
def LyPost (x : Lx) (w : World) (e : Ending) (w' : World) : Prop :=
  ∃ v, e = .returned (.tuple #[v, .int .i64 x.a, .int .i64 x.e]) ∧ IsRow w' 6 v x.l.length (tkCells x.l) ∧ Below w.heap.size w w'
/-- What refs leaves. -/
def RfPost (l : List Tk) (w : World) (e : Ending) (w' : World) : Prop :=
  ∃ v', e = .returned v' ∧ w'.ownsRow w.heap.size 43 6 v' l.length (tkCells l) ∧ Below w.heap.size w w'
def bcells7 (l : List Int) : List Value := l.map (Value.int .u8)
def isBl (l : List UInt8) : Prop := ∀ c ∈ l, c = 32 ∨ c = 9 ∨ c = 10 ∨ c = 13
theorem isBl_nil : isBl [] := fun c hc => by cases hc
theorem isBl_snoc {l : List UInt8} (h : isBl l) {c : UInt8} (hc : c = 32 ∨ c = 9 ∨ c = 10 ∨ c = 13) : isBl (l ++ [c]) := fun d hd => by
  rcases List.mem_append.1 hd with hd | hd
  · exact h d hd
  · simp at hd; subst hd; exact hc
theorem cv7 (w : World) (o : Obj) (x : Int) : (convert 22 9 (.slice (some ⟨w.heap.size + 1, 0, none⟩) 1 1)).run Tryd.prog ((w.alloc o).alloc (.cells #[.int .u8 x] 5)) = .ok (.string (strOfNums [x])) ((w.alloc o).alloc (.cells #[.int .u8 x] 5)) := by
  refine run_convert_bytes_arg _ 22 5 Tryd.underlying22 Tryd.underlying5 (w.heap.size + 1) 0 1 1 [x] rfl ?_ 9 Tryd.underlying9
  intro i hi
  have : i = 0 := by omega
  subst this
  simp
theorem own_b8 {w w1 : World} {base : Nat} {e : TypeId} {sz : Nat} {v : Value} {n : Nat} {xs : List Value} (h : w.ownsRow base e sz v n xs) (hb : Below w.heap.size w w1) : w1.ownsRow base e sz v n xs :=
  h.kept (row := none) ⟨hb.os, hb.tape, hb.output, hb.size, fun k hk _ => hb.block k hk⟩ (by cases hv : v.ownBlock <;> simp)
theorem row_two {w : World} {base : Nat} {e : TypeId} {v : Value} {M : List Tk} (h : w.ownsRow base e 6 v M.length (tkCells M)) :
    (v = .slice none 0 0 ∧ M = []) ∨ ∃ b off cap, v = .slice (some ⟨b, off, none⟩) M.length cap ∧ (∀ j u, (tkCells M)[j]? = some u → w.cell? ⟨b, off + j, none⟩ = some u) := by
  by_cases h0 : M.length = 0
  · obtain rfl : M = [] := List.eq_nil_of_length_eq_zero h0
    rcases h.2 with ⟨hv, _⟩ | ⟨g, cap, cur, hv, _, hg, _⟩
    · exact .inl ⟨hv, rfl⟩
    · exact .inr ⟨g, 0, cap, hv, fun j u hu => by simp [tkCells] at hu⟩
  · obtain ⟨b, off, cap', hv, _, _, _, hc⟩ := (IsRow.own h).open (by omega)
    exact .inr ⟨b, off, cap', hv, hc⟩
/-- Elements of a row put behind a row of the call's own, where the operation hangs on another. -/
theorem wpl_app8 {P : Program} {w : World} {ops : Array Oper} {rest : List Oper} {o : Oper} {a : Act} {Q : Exit → Act → World → Prop} (hw : Region.wanted o (yielded ops a.tmps) = true) (s x : Operand) (t e : TypeId)
    (ho : o.op = .call { callee := .builtin .append, args := #[s, x], argTypes := #[t, t] })
    (i : TypeInfo) (z : Value) (size bytes : Nat) (ht : P.underlying t = some (.slice e)) (hi : P.info? e = some i) (hz : i.zero = some z)
    (hsize : i.size = size) (hby : i.bytes = bytes) (hzs : z.cells.size = size) (hsz : 0 < size)
    (base : Nat) (v : Value) (n : Nat) (xs : List Value) (hs : a.eval s = v) (hown : w.ownsRow base e size v n xs)
    (ad : Addr) (m c : Nat) (news : List Value) (hx : a.eval x = .slice (some ad) m c) (hl : news.length = m * size) (hnews : ∀ j u, news[j]? = some u → w.cell? (ad.add j) = some u) (h1 : ∀ u ∈ news, u.oneCell' = true)
    (h63 : n + m ≤ maxLen) (hbytes : (n + m) * bytes ≤ 140737488355328) (hbase : base ≤ w.heap.size)
    (h : ∀ v' w', w'.ownsRow base e size v' (n + m) (xs ++ news) → Below base w w' → wpList P ops Q rest (a.put o.dst v') w') :
    wpList P ops Q (o :: rest) a w := by
  refine BigFrame.wpList_want hw fun K hK => ?_
  refine wp_append_own w s x t ho base e i z size bytes ht hi hz hsize hby hzs hsz v n xs hs hown ad m c news hx hl hnews h1 h63 hbytes hbase ?_
  intro v' w' h2 h3 h4
  exact hK _ _ (h v' w' h2 ((Below.refl _ _).grown h3 hbase (fun k hk => (hown.lt k hk).1)))
theorem tk_one {l : List Tk} : ∀ u ∈ tkCells l, u.oneCell' = true := by
  intro u hu
  obtain ⟨t, _, ht⟩ := List.mem_flatMap.1 hu
  simp [Tk.cells] at ht
  rcases ht with rfl | rfl | rfl | rfl | rfl | rfl <;> rfl
theorem row_form {w : World} {base : Nat} {e : TypeId} {v : Value} {M : List Tk} (h : w.ownsRow base e 6 v M.length (tkCells M)) :
    (v = .slice none 0 0 ∧ M = []) ∨ ∃ b off cap, v = .slice (some ⟨b, off, none⟩) M.length cap ∧ M.length ≤ cap := by
  by_cases h0 : M.length = 0
  · obtain rfl : M = [] := List.eq_nil_of_length_eq_zero h0
    rcases h.2 with ⟨hv, _⟩ | ⟨g, cap, cur, hv, _, hg, _⟩
    · exact .inl ⟨hv, rfl⟩
    · exact .inr ⟨g, 0, cap, hv, Nat.zero_le _⟩
  · obtain ⟨b, off, cap', hv, _, q1, q2, hc⟩ := (IsRow.own h).open (by omega)
    exact .inr ⟨b, off, cap', hv, by omega⟩
theorem tk_app (l m : List Tk) : tkCells (l ++ m) = tkCells l ++ tkCells m := by simp [tkCells]
theorem bare_app (l m : List Tk) : bare (l ++ m) = bare l ++ bare m := by simp [bare]
theorem info_rtk : (Tryd.prog.info? 43).map (fun i => (i.zero, i.size, i.bytes)) = some (some (.agg #[.int .i64 0, .int .i64 0, .string ⟨#[]⟩, .int .i64 0, .int .i64 0, .string ⟨#[]⟩]), 6, 64) := by kernel_rfl
/-- What holds of the loop at every round. -/
def BlRel (a : List UInt8) (w2 : World) (n : Nat) (sv iv : Value) (wr : World) : Prop :=
  ∃ bl : List UInt8, isBl bl ∧ bl.length ≤ n ∧ bl.length ≤ 20 ∧ sv = .string (str (a ++ 32 :: bl)) ∧ iv = .int .i64 (bl.length : Int) ∧ Below w2.heap.size w2 wr
theorem lxs_len : ∀ (n : Nat) (l : List UInt8) (pos at' en : Nat) (long : Int) (acc : List Tk), l.length ≤ n → acc.length ≤ 300 → (lxs l pos at' en long acc).l.length ≤ 300
  | 0, l, pos, at', en, long, acc, h, ha => by
    obtain rfl : l = [] := List.eq_nil_of_length_eq_zero (by omega)
    rw [lxs_nil, lxEnd]
    split
    · simp
    · exact ha
  | n + 1, l, pos, at', en, long, acc, h, ha => by
    by_cases hne : l = []
    · subst hne
      rw [lxs_nil, lxEnd]
      split
      · simp
      · exact ha
    · have hw := Lib.decodeL_width l
      have hr : ∀ p a e lo (ac : List Tk), ac.length ≤ 300 → (lxs (l.drop (Lib.decodeL l).2) p a e lo ac).l.length ≤ 300 := fun p a e lo ac h => lxs_len n _ p a e lo ac (by rw [List.length_drop]; omega) h
      rw [lxs_step hne]
      split
      · split
        · simp
        split
        · simp
        split
        · rename_i hc
          exact hr _ _ _ _ _ (by rw [List.length_append, List.length_singleton]; omega)
        · exact hr _ _ _ _ _ ha
      · exact hr _ _ _ _ _ ha
theorem lex_len {l : List UInt8} {x : Lx} (h : lexL l = x) : x.l.length ≤ 300 := by
  subst h
  unfold lexL
  split
  · exact lxs_len l.length l 0 0 0 (-1) [] (Nat.le_refl _) (by simp)
  · simp
set_option maxRecDepth 100000 in
set_option maxHeartbeats 4000000 in
theorem blanks_core (V : World → Prop) (hV : ∀ w w', V w → Below w.heap.size w w' → V w') (HA : Hid (∀ w, V w → Calls Tryd.prog 4 #[] w fun e w' => e = .returned (.bool true) ∧ Below w.heap.size w w'))
    (HL : Hid (∀ s w, s.size ≤ 1000000 → V w → Calls Tryd.prog 5 #[.string s] w fun e w' => LyPost (lexL s.data.toList) w e w'))
    (HR : Hid (∀ v l w, IsRow w 6 v l.length (tkCells l) → l.length ≤ 100000 → Calls Tryd.prog 7 #[v] w fun e w' => RfPost l w e w'))
    (HS : Hid (∀ v1 v2 l m w, IsRow w 6 v1 l.length (tkCells l) → IsRow w 6 v2 m.length (tkCells m) → l.length ≤ 100000 → bare l = bare m → Calls Tryd.prog 6 #[v1, v2, .bool true] w fun e w' => e = .returned (.bool true) ∧ Below w.heap.size w w'))
    (a b : ByteArray) (bv : Value) (bs : List Int) (w : World) (hr : IsRow w 1 bv bs.length (bcells7 bs)) (hbs : ∀ y ∈ bs, 0 ≤ y ∧ y ≤ 255) (h : V w) :
    Calls Tryd.prog 3 #[.string a, .string b, bv] w fun e w' => e = .returned (.bool true) ∧ Below w.heap.size w w' := by
  obtain ⟨a0, cap0, rfl⟩ := hr.form
  have HBR : Hid (IsRow w 1 (.slice a0 bs.length cap0) bs.length (bcells7 bs)) := hr
  clear hr
  by_cases ga : 1000 < a.size
  · have da : decide ((1000 : Int) < a.size) = true := by simp; omega
    go_enter Tryd.func3, Tryd.ntmps3
    go_wp2_with fail
    refine (HA.out _ h).mono ?_
    rintro e0 w1 ⟨rfl, hb1⟩
    go_wp2
    go_ret
    exact ⟨rfl, hb1⟩
  have da : decide ((1000 : Int) < a.size) = false := by simp; omega
  by_cases gb : 1000 < b.size
  · have db : decide ((1000 : Int) < b.size) = true := by simp; omega
    go_enter Tryd.func3, Tryd.ntmps3
    go_wp2_with fail
    refine (HA.out _ h).mono ?_
    rintro e0 w1 ⟨rfl, hb1⟩
    go_wp2
    go_ret
    exact ⟨rfl, hb1⟩
  have db : decide ((1000 : Int) < b.size) = false := by simp; omega
  have H1 : Hid (∀ w, V w → Calls Tryd.prog 5 #[.string a] w fun e w' => LyPost (lexL a.data.toList) w e w') := fun w h => HL.out a w (by omega) h
  have H2 : Hid (∀ w, V w → Calls Tryd.prog 5 #[.string b] w fun e w' => LyPost (lexL b.data.toList) w e w') := fun w h => HL.out b w (by omega) h
  obtain ⟨X, HX⟩ : ∃ X, Hid (lexL a.data.toList = X) := ⟨_, rfl⟩
  obtain ⟨Y, HY⟩ : ∃ Y, Hid (lexL b.data.toList = Y) := ⟨_, rfl⟩
  rw [HX.out] at H1
  rw [HY.out] at H2
  have hL0 := lex_len HX.out
  have hM0 := lex_len HY.out
  obtain ⟨L, n, e⟩ := X
  obtain ⟨M, m, f⟩ := Y
  have hL : L.length ≤ 300 := hL0
  have hM : M.length ≤ 300 := hM0
  clear hL0 hM0
  by_cases he : e = 0
  rotate_left
  · have de : (e != 0) = true := by rw [bne_iff_ne]; exact he
    go_enter Tryd.func3, Tryd.ntmps3
    go_wp2_with fail
    refine (H1.out _ h).mono ?_
    rintro e0 w1 ⟨v1, rfl, -, hb1⟩
    have HV1 : Hid (V w1) := hV _ _ h hb1
    go_wp2_with fail
    refine (H2.out _ HV1.out).mono ?_
    rintro e0 w2 ⟨v2, rfl, -, hb2⟩
    have HV2 : Hid (V w2) := hV _ _ HV1.out hb2
    have HB2 : Hid (Below w.heap.size w w2) := hb1.trans (hb2.mono hb1.size)
    clear hb1 hb2
    go_wp2_with fail
    refine (HA.out _ HV2.out).mono ?_
    rintro e0 w3 ⟨rfl, hb3⟩
    have HB3 : Hid (Below w.heap.size w w3) := HB2.out.trans (hb3.mono HB2.out.size)
    clear hb3
    go_wp2
    go_ret
    exact ⟨rfl, HB3.out⟩
  subst he
  by_cases hf : f = 0
  rotate_left
  · have de : (f != 0) = true := by rw [bne_iff_ne]; exact hf
    go_enter Tryd.func3, Tryd.ntmps3
    go_wp2_with fail
    refine (H1.out _ h).mono ?_
    rintro e0 w1 ⟨v1, rfl, -, hb1⟩
    have HV1 : Hid (V w1) := hV _ _ h hb1
    go_wp2_with fail
    refine (H2.out _ HV1.out).mono ?_
    rintro e0 w2 ⟨v2, rfl, -, hb2⟩
    have HV2 : Hid (V w2) := hV _ _ HV1.out hb2
    have HB2 : Hid (Below w.heap.size w w2) := hb1.trans (hb2.mono hb1.size)
    clear hb1 hb2
    go_wp2_with fail
    refine (HA.out _ HV2.out).mono ?_
    rintro e0 w3 ⟨rfl, hb3⟩
    have HB3 : Hid (Below w.heap.size w w3) := HB2.out.trans (hb3.mono HB2.out.size)
    clear hb3
    go_wp2
    go_ret
    exact ⟨rfl, HB3.out⟩
  subst hf
  by_cases hl : 300 < L.length + M.length
  · have dl : decide ((300 : Int) < (L.length : Int) + M.length) = true := by simp; omega
    go_enter Tryd.func3, Tryd.ntmps3
    go_wp2_with fail
    refine (H1.out _ h).mono ?_
    rintro e0 w1 ⟨v1, rfl, hr1, hb1⟩
    obtain ⟨a1, cap1, rfl⟩ := hr1.form
    have HV1 : Hid (V w1) := hV _ _ h hb1
    go_wp2_with fail
    refine (H2.out _ HV1.out).mono ?_
    rintro e0 w2 ⟨v2, rfl, hr2, hb2⟩
    obtain ⟨a2, cap2, rfl⟩ := hr2.form
    have HV2 : Hid (V w2) := hV _ _ HV1.out hb2
    have HB2 : Hid (Below w.heap.size w w2) := hb1.trans (hb2.mono hb1.size)
    clear hb1 hb2 hr1 hr2
    go_wp2_with fail
    refine (HA.out _ HV2.out).mono ?_
    rintro e0 w3 ⟨rfl, hb3⟩
    have HB3 : Hid (Below w.heap.size w w3) := HB2.out.trans (hb3.mono HB2.out.size)
    clear hb3
    go_wp2
    go_ret
    exact ⟨rfl, HB3.out⟩
  have dl : decide ((300 : Int) < (L.length : Int) + M.length) = false := by simp; omega
  go_enter Tryd.func3, Tryd.ntmps3
  go_wp2_with fail
  refine (H1.out _ h).mono ?_
  rintro e0 w1 ⟨v1, rfl, hr1, hb1⟩
  obtain ⟨a1, cap1, rfl⟩ := hr1.form
  have HV1 : Hid (V w1) := hV _ _ h hb1
  have HR1 : Hid (IsRow w1 6 (.slice a1 L.length cap1) L.length (tkCells L)) := hr1
  clear hr1
  go_wp2_with fail
  refine (H2.out _ HV1.out).mono ?_
  rintro e0 w2 ⟨v2, rfl, hr2, hb2⟩
  obtain ⟨a2, cap2, rfl⟩ := hr2.form
  have HV2 : Hid (V w2) := hV _ _ HV1.out hb2
  have HB2 : Hid (Below w.heap.size w w2) := hb1.trans (hb2.mono hb1.size)
  have HR2 : Hid (IsRow w2 6 (.slice a2 M.length cap2) M.length (tkCells M)) := hr2
  have HR12 : Hid (IsRow w2 6 (.slice a1 L.length cap1) L.length (tkCells L)) := HR1.out.below hb2
  have HBR2 : Hid (IsRow w2 1 (.slice a0 bs.length cap0) bs.length (bcells7 bs)) := HBR.out.below HB2.out
  clear hb1 hb2 hr2 HR1 HBR H1 H2
  have H0 : Hid (a ++ (⟨#[32]⟩ : ByteArray) = str (a.data.toList ++ 32 :: [])) := ba_eq (by rw [ba_append, str_data])
  go_wp2_with fail
  go_loopw [13, 14] (fun s i wr => BlRel a.data.toList w2 bs.length s i wr) (fun _ i _ => bs.length - (RowKit.intOf i).toNat)
  case atStart => exact ⟨[], isBl_nil, Nat.zero_le _, Nat.zero_le _, by rw [← H0.out], rfl, Below.refl _ _⟩
  case round =>
    obtain ⟨bl, hbl, hn1, hn2, rfl, rfl, hb⟩ := hrel
    have hsz : (str (a.data.toList ++ 32 :: bl)).size = a.size + 1 + bl.length := by rw [str_size, List.length_append, List.length_cons, ← Lib.size_eq]; omega
    by_cases hlt : bl.length < bs.length
    · have d1 : decide ((bl.length : Int) < bs.length) = true := by simpa using hlt
      by_cases h20 : bl.length < 20
      · have d2 : decide ((bl.length : Int) < 20) = true := by simp; omega
        obtain ⟨bb, off, cap', hv, hltb, _, _, hc⟩ := (HBR2.out.below hb).open (by omega)
        simp only [Value.slice.injEq] at hv
        obtain ⟨rfl, -, rfl⟩ := hv
        have hcell : wr.cell? ⟨bb, off + bl.length, none⟩ = some (.int .u8 (bs[bl.length]'hlt)) := hc bl.length _ (by simp [bcells7, hlt])
        obtain ⟨y0, y1⟩ := hbs _ (List.getElem_mem hlt)
        generalize bs[bl.length]'hlt = y at *
        clear hc
        obtain ⟨r, hr4, er⟩ : ∃ r : Nat, r < 4 ∧ y.tmod 4 = (r : Int) := ⟨(y.tmod 4).toNat, by have := Int.tmod_lt_of_pos y (show (0 : Int) < 4 by decide); omega, by have := Int.tmod_nonneg 4 y0; omega⟩
        have hr : r = 0 ∨ r = 1 ∨ r = 2 ∨ r = 3 := by omega
        have hcv := cv7
        rcases hr with rfl | rfl | rfl | rfl
        · have HN : Hid (str (a.data.toList ++ 32 :: bl) ++ strOfNums [32] = str (a.data.toList ++ 32 :: (bl ++ [32]))) := ba_eq (by rw [ba_append, str_data, str_data, show (strOfNums [32]).data.toList = [32] from rfl]; simp)
          have HZ : Hid ((strOfNums [32]).size ≤ 1) := by show _ ≤ _; decide
          have hzz := HZ.out
          generalize str (a.data.toList ++ 32 :: bl) = S at *
          go_wp2
          exact ⟨⟨bl ++ [32], isBl_snoc hbl (.inl rfl), by simp; omega, by simp; omega, by rw [HN.out], by simp, (hb.alloc hb.size _).alloc (by simp; have := hb.size; omega) _⟩, by simp [intOf]; omega⟩
        · have HN : Hid (str (a.data.toList ++ 32 :: bl) ++ strOfNums [9] = str (a.data.toList ++ 32 :: (bl ++ [9]))) := ba_eq (by rw [ba_append, str_data, str_data, show (strOfNums [9]).data.toList = [9] from rfl]; simp)
          have HZ : Hid ((strOfNums [9]).size ≤ 1) := by show _ ≤ _; decide
          have hzz := HZ.out
          generalize str (a.data.toList ++ 32 :: bl) = S at *
          go_wp2
          exact ⟨⟨bl ++ [9], isBl_snoc hbl (.inr (.inl rfl)), by simp; omega, by simp; omega, by rw [HN.out], by simp, (hb.alloc hb.size _).alloc (by simp; have := hb.size; omega) _⟩, by simp [intOf]; omega⟩
        · have HN : Hid (str (a.data.toList ++ 32 :: bl) ++ strOfNums [10] = str (a.data.toList ++ 32 :: (bl ++ [10]))) := ba_eq (by rw [ba_append, str_data, str_data, show (strOfNums [10]).data.toList = [10] from rfl]; simp)
          have HZ : Hid ((strOfNums [10]).size ≤ 1) := by show _ ≤ _; decide
          have hzz := HZ.out
          generalize str (a.data.toList ++ 32 :: bl) = S at *
          go_wp2
          exact ⟨⟨bl ++ [10], isBl_snoc hbl (.inr (.inr (.inl rfl))), by simp; omega, by simp; omega, by rw [HN.out], by simp, (hb.alloc hb.size _).alloc (by simp; have := hb.size; omega) _⟩, by simp [intOf]; omega⟩
        · have HN : Hid (str (a.data.toList ++ 32 :: bl) ++ strOfNums [13] = str (a.data.toList ++ 32 :: (bl ++ [13]))) := ba_eq (by rw [ba_append, str_data, str_data, show (strOfNums [13]).data.toList = [13] from rfl]; simp)
          have HZ : Hid ((strOfNums [13]).size ≤ 1) := by show _ ≤ _; decide
          have hzz := HZ.out
          generalize str (a.data.toList ++ 32 :: bl) = S at *
          go_wp2
          exact ⟨⟨bl ++ [13], isBl_snoc hbl (.inr (.inr (.inr rfl))), by simp; omega, by simp; omega, by rw [HN.out], by simp, (hb.alloc hb.size _).alloc (by simp; have := hb.size; omega) _⟩, by simp [intOf]; omega⟩
      · have d2 : decide ((bl.length : Int) < 20) = false := by simp; omega
        have HVr : Hid (V wr) := hV _ _ HV2.out hb
        obtain ⟨M2, kk, hlx, hbm⟩ := lex_two HX.out HY.out (by omega) hbl
        have HLx : Hid (Calls Tryd.prog 5 #[.string (str (a.data.toList ++ 32 :: bl) ++ b)] wr fun e w' => LyPost ⟨L ++ M2, kk, 0⟩ wr e w') := by
          have := HL.out (str (a.data.toList ++ 32 :: bl) ++ b) wr (by rw [ByteArray.size_append]; omega) HVr.out
          rw [ba_append, str_data, List.append_assoc, List.cons_append, hlx] at this
          exact this
        have hM2 : M2.length = M.length := by have := congrArg List.length hbm; simpa [bare] using this
        have HBm : Hid (bare (L ++ M2) = bare (L ++ M)) := by show _ = _; rw [bare_app, bare_app, hbm]
        have HRL : Hid (IsRow wr 6 (.slice a1 L.length cap1) L.length (tkCells L)) := HR12.out.below hb
        have HRM : Hid (IsRow wr 6 (.slice a2 M.length cap2) M.length (tkCells M)) := HR2.out.below hb
        have HBr : Hid (Below w.heap.size w wr) := HB2.out.trans (hb.mono HB2.out.size)
        generalize str (a.data.toList ++ 32 :: bl) = S at *
        clear hlx hbm HL hb
        go_wp2_with fail
        refine HLx.out.mono ?_
        rintro e0 w4 ⟨v4, rfl, hr4, hb4⟩
        obtain ⟨a4, cap4, rfl⟩ := hr4.form
        have HV4 : Hid (V w4) := hV _ _ HVr.out hb4
        have HR4 : Hid (IsRow w4 6 (.slice a4 (L ++ M2).length cap4) (L ++ M2).length (tkCells (L ++ M2))) := hr4
        have HRL4 : Hid (IsRow w4 6 (.slice a1 L.length cap1) L.length (tkCells L)) := HRL.out.below hb4
        have HRM4 : Hid (IsRow w4 6 (.slice a2 M.length cap2) M.length (tkCells M)) := HRM.out.below hb4
        have HB4 : Hid (Below w.heap.size w w4) := HBr.out.trans (hb4.mono HBr.out.size)
        clear hr4 hb4 HRL HRM
        go_wp2_with fail
        refine (HA.out _ HV4.out).mono ?_
        rintro e0 w5 ⟨rfl, hb5⟩
        have HR5 : Hid (IsRow w5 6 (.slice a4 (L ++ M2).length cap4) (L ++ M2).length (tkCells (L ++ M2))) := HR4.out.below hb5
        have HRL5 : Hid (IsRow w5 6 (.slice a1 L.length cap1) L.length (tkCells L)) := HRL4.out.below hb5
        have HRM5 : Hid (IsRow w5 6 (.slice a2 M.length cap2) M.length (tkCells M)) := HRM4.out.below hb5
        have HB5 : Hid (Below w.heap.size w w5) := HB4.out.trans (hb5.mono HB4.out.size)
        clear hb5 HR4 HRL4 HRM4
        go_wp2_with fail
        have hlen : (L ++ M2).length = L.length + M.length := by rw [List.length_append, hM2]
        have HRN := HR.out (.slice a4 (L ++ M2).length cap4) (L ++ M2) w5 HR5.out (by omega)
        rw [hlen] at HRN
        refine HRN.mono ?_
        rintro e0 w6 ⟨v6, rfl, hown6, hb6⟩
        have HN6 : Hid (IsRow w6 6 v6 (L ++ M2).length (tkCells (L ++ M2))) := IsRow.own hown6
        have HRL6 : Hid (IsRow w6 6 (.slice a1 L.length cap1) L.length (tkCells L)) := HRL5.out.below hb6
        have HRM6 : Hid (IsRow w6 6 (.slice a2 M.length cap2) M.length (tkCells M)) := HRM5.out.below hb6
        have HB6 : Hid (Below w.heap.size w w6) := HB5.out.trans (hb6.mono HB5.out.size)
        clear hown6 hb6 HRN HR5 HRL5 HRM5
        go_wp2_with fail
        refine (HR.out _ L _ HRL6.out (by omega)).mono ?_
        rintro e0 w7 ⟨v7, rfl, hown7, hb7⟩
        have HO7 : Hid (w7.ownsRow w6.heap.size 43 6 v7 L.length (tkCells L)) := hown7
        have HRM7 : Hid (IsRow w7 6 (.slice a2 M.length cap2) M.length (tkCells M)) := HRM6.out.below hb7
        have HC7 : Hid (Below w6.heap.size w6 w7) := hb7
        clear hown7 hb7 HRL6 HRM6
        go_wp2_with fail
        refine (HR.out _ M _ HRM7.out (by omega)).mono ?_
        rintro e0 w8 ⟨v8, rfl, hown8, hb8⟩
        have HO8 : Hid (w8.ownsRow w6.heap.size 43 6 v7 L.length (tkCells L)) := own_b8 HO7.out hb8
        have HC8 : Hid (Below w6.heap.size w6 w8) := HC7.out.trans (hb8.mono HC7.out.size)
        have HR8 : Hid (IsRow w8 6 v8 M.length (tkCells M)) := IsRow.own hown8
        have hf8 : (v8 = .slice none 0 0 ∧ M = []) ∨ ∃ b off cap, v8 = .slice (some ⟨b, off, none⟩) M.length cap ∧ (∀ j u, (tkCells M)[j]? = some u → w8.cell? ⟨b, off + j, none⟩ = some u) := row_two hown8
        have hs8 := HC8.out.size
        clear hown8 hb8 HO7 HRM7
        rcases hf8 with ⟨rfl, rfl⟩ | ⟨b8, o8, cap8, rfl, hc8⟩
        · have HN8 : Hid (IsRow w8 6 v6 (L ++ M2).length (tkCells (L ++ M2))) := HN6.out.below HC8.out
          have HB8 : Hid (Below w.heap.size w w8) := HB6.out.trans (HC8.out.mono HB6.out.size)
          have HBm2 : Hid (bare (L ++ M2) = bare L) := by show _ = _; rw [HBm.out, List.append_nil]
          have HR9 : Hid (IsRow w8 6 v7 L.length (tkCells L)) := IsRow.own HO8.out
          rcases row_form HO8.out with ⟨rfl, rfl⟩ | ⟨b7, o7, cap7, rfl, hcap7⟩
          · clear HO8 HBm
            go_wp2_with fail
            refine (HS.out v6 _ _ [] w8 HN8.out HR9.out (by omega) HBm2.out).mono ?_
            rintro e0 w10 ⟨rfl, hb10⟩
            have HB10 : Hid (Below w.heap.size w w10) := HB8.out.trans (hb10.mono HB8.out.size)
            clear hb10
            go_wp2
            go_ret
            exact ⟨rfl, HB10.out⟩
          · clear HO8 HBm
            go_wp2_with fail
            refine (HS.out v6 _ _ L w8 HN8.out HR9.out (by omega) HBm2.out).mono ?_
            rintro e0 w10 ⟨rfl, hb10⟩
            have HB10 : Hid (Below w.heap.size w w10) := HB8.out.trans (hb10.mono HB8.out.size)
            clear hb10
            go_wp2
            go_ret
            exact ⟨rfl, HB10.out⟩
        · have HC9 : Hid (∀ j u, (tkCells M)[j]? = some u → w8.cell? ((⟨b8, o8, none⟩ : Addr).add j) = some u) := fun j u hu => by
            have e1 : (⟨b8, o8, none⟩ : Addr).add j = ⟨b8, o8 + j, none⟩ := by unfold Addr.add; split <;> simp_all
            rw [e1]; exact hc8 j u hu
          clear hc8
          obtain ⟨i0, hi0, hz0, hz1, hz2⟩ := info_parts info_rtk
          have hq1 : (tkCells M).length = M.length * 6 := tkCells_len M
          have hq2 : L.length + M.length ≤ maxLen := by unfold maxLen; omega
          have hq3 : (L.length + M.length) * 64 ≤ 140737488355328 := by omega
          go_wp2_with (at_builtin; go_loud (refine wpl_app8 rfl (.tmp 95) (.tmp 97) 29 43 rfl i0 _ 6 64 Tryd.underlying29 hi0 hz0 hz1 hz2 rfl (by decide) w6.heap.size v7 L.length (tkCells L) rfl HO8.out ⟨b8, o8, none⟩ M.length cap8 (tkCells M) rfl hq1 HC9.out tk_one hq2 hq3 hs8 ?_; intro v9 w9 hown9 hb9; have HO9 : Hid (w9.ownsRow w6.heap.size 43 6 v9 (L.length + M.length) (tkCells L ++ tkCells M)) := hown9; have HB9 : Hid (Below w6.heap.size w8 w9) := hb9; clear hown9 hb9))
          have HX9 : Hid (Below w6.heap.size w6 w9) := HC8.out.trans HB9.out
          have HN9 : Hid (IsRow w9 6 v6 (L ++ M2).length (tkCells (L ++ M2))) := HN6.out.below HX9.out
          have HR9 : Hid (IsRow w9 6 v9 (L ++ M).length (tkCells (L ++ M))) := by show IsRow _ _ _ _ _; rw [List.length_append, tk_app]; exact IsRow.own HO9.out
          have HBB : Hid (Below w.heap.size w w9) := HB6.out.trans (HX9.out.mono HB6.out.size)
          refine (HS.out v6 v9 (L ++ M2) (L ++ M) w9 HN9.out HR9.out (by omega) HBm.out).mono ?_
          rintro e0 w10 ⟨rfl, hb10⟩
          have HB10 : Hid (Below w.heap.size w w10) := HBB.out.trans (hb10.mono HBB.out.size)
          clear hb10
          go_wp2
          go_ret
          exact ⟨rfl, HB10.out⟩
    · have d1 : decide ((bl.length : Int) < bs.length) = false := by simp; omega
      have HVr : Hid (V wr) := hV _ _ HV2.out hb
      obtain ⟨M2, kk, hlx, hbm⟩ := lex_two HX.out HY.out (by omega) hbl
      have HLx : Hid (Calls Tryd.prog 5 #[.string (str (a.data.toList ++ 32 :: bl) ++ b)] wr fun e w' => LyPost ⟨L ++ M2, kk, 0⟩ wr e w') := by
        have := HL.out (str (a.data.toList ++ 32 :: bl) ++ b) wr (by rw [ByteArray.size_append]; omega) HVr.out
        rw [ba_append, str_data, List.append_assoc, List.cons_append, hlx] at this
        exact this
      have hM2 : M2.length = M.length := by have := congrArg List.length hbm; simpa [bare] using this
      have HBm : Hid (bare (L ++ M2) = bare (L ++ M)) := by show _ = _; rw [bare_app, bare_app, hbm]
      have HRL : Hid (IsRow wr 6 (.slice a1 L.length cap1) L.length (tkCells L)) := HR12.out.below hb
      have HRM : Hid (IsRow wr 6 (.slice a2 M.length cap2) M.length (tkCells M)) := HR2.out.below hb
      have HBr : Hid (Below w.heap.size w wr) := HB2.out.trans (hb.mono HB2.out.size)
      generalize str (a.data.toList ++ 32 :: bl) = S at *
      clear hlx hbm HL hb
      go_wp2_with fail
      refine HLx.out.mono ?_
      rintro e0 w4 ⟨v4, rfl, hr4, hb4⟩
      obtain ⟨a4, cap4, rfl⟩ := hr4.form
      have HV4 : Hid (V w4) := hV _ _ HVr.out hb4
      have HR4 : Hid (IsRow w4 6 (.slice a4 (L ++ M2).length cap4) (L ++ M2).length (tkCells (L ++ M2))) := hr4
      have HRL4 : Hid (IsRow w4 6 (.slice a1 L.length cap1) L.length (tkCells L)) := HRL.out.below hb4
      have HRM4 : Hid (IsRow w4 6 (.slice a2 M.length cap2) M.length (tkCells M)) := HRM.out.below hb4
      have HB4 : Hid (Below w.heap.size w w4) := HBr.out.trans (hb4.mono HBr.out.size)
      clear hr4 hb4 HRL HRM
      go_wp2_with fail
      refine (HA.out _ HV4.out).mono ?_
      rintro e0 w5 ⟨rfl, hb5⟩
      have HR5 : Hid (IsRow w5 6 (.slice a4 (L ++ M2).length cap4) (L ++ M2).length (tkCells (L ++ M2))) := HR4.out.below hb5
      have HRL5 : Hid (IsRow w5 6 (.slice a1 L.length cap1) L.length (tkCells L)) := HRL4.out.below hb5
      have HRM5 : Hid (IsRow w5 6 (.slice a2 M.length cap2) M.length (tkCells M)) := HRM4.out.below hb5
      have HB5 : Hid (Below w.heap.size w w5) := HB4.out.trans (hb5.mono HB4.out.size)
      clear hb5 HR4 HRL4 HRM4
      go_wp2_with fail
      have hlen : (L ++ M2).length = L.length + M.length := by rw [List.length_append, hM2]
      have HRN := HR.out (.slice a4 (L ++ M2).length cap4) (L ++ M2) w5 HR5.out (by omega)
      rw [hlen] at HRN
      refine HRN.mono ?_
      rintro e0 w6 ⟨v6, rfl, hown6, hb6⟩
      have HN6 : Hid (IsRow w6 6 v6 (L ++ M2).length (tkCells (L ++ M2))) := IsRow.own hown6
      have HRL6 : Hid (IsRow w6 6 (.slice a1 L.length cap1) L.length (tkCells L)) := HRL5.out.below hb6
      have HRM6 : Hid (IsRow w6 6 (.slice a2 M.length cap2) M.length (tkCells M)) := HRM5.out.below hb6
      have HB6 : Hid (Below w.heap.size w w6) := HB5.out.trans (hb6.mono HB5.out.size)
      clear hown6 hb6 HRN HR5 HRL5 HRM5
      go_wp2_with fail
      refine (HR.out _ L _ HRL6.out (by omega)).mono ?_
      rintro e0 w7 ⟨v7, rfl, hown7, hb7⟩
      have HO7 : Hid (w7.ownsRow w6.heap.size 43 6 v7 L.length (tkCells L)) := hown7
      have HRM7 : Hid (IsRow w7 6 (.slice a2 M.length cap2) M.length (tkCells M)) := HRM6.out.below hb7
      have HC7 : Hid (Below w6.heap.size w6 w7) := hb7
      clear hown7 hb7 HRL6 HRM6
      go_wp2_with fail
      refine (HR.out _ M _ HRM7.out (by omega)).mono ?_
      rintro e0 w8 ⟨v8, rfl, hown8, hb8⟩
      have HO8 : Hid (w8.ownsRow w6.heap.size 43 6 v7 L.length (tkCells L)) := own_b8 HO7.out hb8
      have HC8 : Hid (Below w6.heap.size w6 w8) := HC7.out.trans (hb8.mono HC7.out.size)
      have HR8 : Hid (IsRow w8 6 v8 M.length (tkCells M)) := IsRow.own hown8
      have hf8 : (v8 = .slice none 0 0 ∧ M = []) ∨ ∃ b off cap, v8 = .slice (some ⟨b, off, none⟩) M.length cap ∧ (∀ j u, (tkCells M)[j]? = some u → w8.cell? ⟨b, off + j, none⟩ = some u) := row_two hown8
      have hs8 := HC8.out.size
      clear hown8 hb8 HO7 HRM7
      rcases hf8 with ⟨rfl, rfl⟩ | ⟨b8, o8, cap8, rfl, hc8⟩
      · have HN8 : Hid (IsRow w8 6 v6 (L ++ M2).length (tkCells (L ++ M2))) := HN6.out.below HC8.out
        have HB8 : Hid (Below w.heap.size w w8) := HB6.out.trans (HC8.out.mono HB6.out.size)
        have HBm2 : Hid (bare (L ++ M2) = bare L) := by show _ = _; rw [HBm.out, List.append_nil]
        have HR9 : Hid (IsRow w8 6 v7 L.length (tkCells L)) := IsRow.own HO8.out
        rcases row_form HO8.out with ⟨rfl, rfl⟩ | ⟨b7, o7, cap7, rfl, hcap7⟩
        · clear HO8 HBm
          go_wp2_with fail
          refine (HS.out v6 _ _ [] w8 HN8.out HR9.out (by omega) HBm2.out).mono ?_
          rintro e0 w10 ⟨rfl, hb10⟩
          have HB10 : Hid (Below w.heap.size w w10) := HB8.out.trans (hb10.mono HB8.out.size)
          clear hb10
          go_wp2
          go_ret
          exact ⟨rfl, HB10.out⟩
        · clear HO8 HBm
          go_wp2_with fail
          refine (HS.out v6 _ _ L w8 HN8.out HR9.out (by omega) HBm2.out).mono ?_
          rintro e0 w10 ⟨rfl, hb10⟩
          have HB10 : Hid (Below w.heap.size w w10) := HB8.out.trans (hb10.mono HB8.out.size)
          clear hb10
          go_wp2
          go_ret
          exact ⟨rfl, HB10.out⟩
      · have HC9 : Hid (∀ j u, (tkCells M)[j]? = some u → w8.cell? ((⟨b8, o8, none⟩ : Addr).add j) = some u) := fun j u hu => by
          have e1 : (⟨b8, o8, none⟩ : Addr).add j = ⟨b8, o8 + j, none⟩ := by unfold Addr.add; split <;> simp_all
          rw [e1]; exact hc8 j u hu
        clear hc8
        obtain ⟨i0, hi0, hz0, hz1, hz2⟩ := info_parts info_rtk
        have hq1 : (tkCells M).length = M.length * 6 := tkCells_len M
        have hq2 : L.length + M.length ≤ maxLen := by unfold maxLen; omega
        have hq3 : (L.length + M.length) * 64 ≤ 140737488355328 := by omega
        go_wp2_with (at_builtin; go_loud (refine wpl_app8 rfl (.tmp 95) (.tmp 97) 29 43 rfl i0 _ 6 64 Tryd.underlying29 hi0 hz0 hz1 hz2 rfl (by decide) w6.heap.size v7 L.length (tkCells L) rfl HO8.out ⟨b8, o8, none⟩ M.length cap8 (tkCells M) rfl hq1 HC9.out tk_one hq2 hq3 hs8 ?_; intro v9 w9 hown9 hb9; have HO9 : Hid (w9.ownsRow w6.heap.size 43 6 v9 (L.length + M.length) (tkCells L ++ tkCells M)) := hown9; have HB9 : Hid (Below w6.heap.size w8 w9) := hb9; clear hown9 hb9))
        have HX9 : Hid (Below w6.heap.size w6 w9) := HC8.out.trans HB9.out
        have HN9 : Hid (IsRow w9 6 v6 (L ++ M2).length (tkCells (L ++ M2))) := HN6.out.below HX9.out
        have HR9 : Hid (IsRow w9 6 v9 (L ++ M).length (tkCells (L ++ M))) := by show IsRow _ _ _ _ _; rw [List.length_append, tk_app]; exact IsRow.own HO9.out
        have HBB : Hid (Below w.heap.size w w9) := HB6.out.trans (HX9.out.mono HB6.out.size)
        refine (HS.out v6 v9 (L ++ M2) (L ++ M) w9 HN9.out HR9.out (by omega) HBm.out).mono ?_
        rintro e0 w10 ⟨rfl, hb10⟩
        have HB10 : Hid (Below w.heap.size w w10) := HBB.out.trans (hb10.mono HBB.out.size)
        clear hb10
        go_wp2
        go_ret
        exact ⟨rfl, HB10.out⟩
end Go.Proofs.YtdendpckihckeaaDoor
/- Steps of a region that draws its order: an append onto an owned row, a call. Over whatever program. -/
namespace Go.Proofs.YtdendpckihckeaaDoor
open Go.RowKit

/-- An append onto an owned row, as one step of a region that draws. -/
theorem step_append_own {P : Program} {ops : Array Oper} {o : Oper} {a : Act} {w : World} {K : Act → World → Prop} {Q : Exit → Act → World → Prop} {E : Prop}
    (hg : o.guard = none) (s x : Operand) (t e : TypeId) (ho : o.op = .call { callee := .builtin .append, args := #[s, x], argTypes := #[t, t] })
    (i : TypeInfo) (z : Value) (size bytes : Nat) (ht : P.underlying t = some (.slice e)) (hi : P.info? e = some i) (hz : i.zero = some z)
    (hsize : i.size = size) (hby : i.bytes = bytes) (hzs : z.cells.size = size) (hsz : 0 < size)
    (base : Nat) (v : Value) (n : Nat) (xs : List Value) (hs : a.eval s = v) (hown : w.ownsRow base e size v n xs)
    (ad : Addr) (es : List Value) (hes : es.length = size) (hx : a.eval x = .slice (some ad) 1 1) (hnews : ∀ j u, es[j]? = some u → w.cell? (ad.add j) = some u) (h1 : ∀ u ∈ es, u.oneCell' = true)
    (hbytes : (n + 1) * bytes ≤ 140737488355328) (h63 : n + 1 ≤ maxLen) (hbase : base ≤ w.heap.size)
    (hK : ∀ v' w', w'.ownsRow base e size v' (n + 1) (xs ++ es) → w.grownBy w' v.ownBlock → (∃ g c, v' = .slice (some g) (n + 1) c) → K (a.put o.dst v') w') :
    if Region.wanted o (yielded ops a.tmps) = true then Oper.wp P o a w K Q else E := by
  have hw : Region.wanted o (yielded ops a.tmps) = true := by simp [Region.wanted, hg]
  rw [if_pos hw]
  refine wp_append_own w s x t ho base e i z size bytes ht hi hz hsize hby hzs hsz v n xs hs hown ad 1 1 es hx (by omega) hnews h1 h63 hbytes hbase ?_
  intro v' w' h2 h3 h4
  refine hK v' w' h2 h3 ?_
  rcases h2.2 with ⟨_, h0⟩ | ⟨g, cap, cur, hv, _⟩
  · omega
  · exact ⟨_, _, hv⟩
/-- An append of one element that a drawing region has laid, onto an owned row. -/
theorem step_appd {P : Program} {wr : World} {ops : Array Oper} {o : Oper} {a : Act} {K : Act → World → Prop} {Q : Exit → Act → World → Prop} {E : Prop}
    (hg : o.guard = none) (s x : Operand) (t e : TypeId) (ho : o.op = .call { callee := .builtin .append, args := #[s, x], argTypes := #[t, t] })
    (i : TypeInfo) (z : Value) (size bytes : Nat) (ht : P.underlying t = some (.slice e)) (hi : P.info? e = some i) (hz : i.zero = some z)
    (hsize : i.size = size) (hby : i.bytes = bytes) (hzs : z.cells.size = size) (hsz : 0 < size)
    (base : Nat) (v : Value) (n : Nat) (xs : List Value) (hs : a.eval s = v) (hown : wr.ownsRow base e size v n xs)
    (es : List Value) (hes : es.length = size) (C : Array Value) (hC : C = es.toArray) (hx : a.eval x = .slice (some ⟨wr.heap.size, 0, none⟩) 1 1) (h1 : ∀ u ∈ es, u.oneCell' = true)
    (hbytes : (n + 1) * bytes ≤ 140737488355328) (h63 : n + 1 ≤ maxLen) (hbase : base ≤ wr.heap.size)
    (hK : ∀ v' w', w'.ownsRow base e size v' (n + 1) (xs ++ es) → Below base wr w' → (∀ b, b < wr.heap.size → v.ownBlock ≠ some b → w'.heap[b]? = wr.heap[b]?) → (∃ g c, v' = .slice (some g) (n + 1) c) → K (a.put o.dst v') w') :
    if Region.wanted o (yielded ops a.tmps) = true then Oper.wp P o a (wr.alloc (.cells C e)).drew K Q else E := by
  subst hC
  refine step_append_own hg s x t e ho i z size bytes ht hi hz hsize hby hzs hsz base v n xs hs (hown.alloc _).drew ⟨wr.heap.size, 0, none⟩ es hes hx ?_ h1 hbytes h63 (by simp; omega) ?_
  · intro j u hj
    have : (wr.alloc (.cells es.toArray e)).cell? ⟨wr.heap.size, j, none⟩ = some u := by simpa using hj
    have e1 : (⟨wr.heap.size, 0, none⟩ : Addr).add j = ⟨wr.heap.size, j, none⟩ := by cases j <;> simp [Addr.add]
    rw [e1]
    exact this
  · intro v' w' h2 h3 h4
    refine hK v' w' h2 ?_ ?_ h4
    · exact (((Below.refl _ _).alloc hbase _).drew).grown h3 (by simp; omega) (fun k hk => (hown.lt k hk).1)
    · intro b hb hne
      rw [h3.block b (by simp; omega) (fun e => hne e.symm)]
      exact Below.heap_alloc _ _ _ hb

/-- A call of a Go function that leaves the world as it was, as one step of a region that draws. -/
theorem step_fn {P : Program} {ops : Array Oper} {o : Oper} {a : Act} {w : World} {K : Act → World → Prop} {Q : Exit → Act → World → Prop} {E : Prop}
    (hg : o.guard = none) (f : FuncId) (x : Operand) (t : TypeId) (ho : o.op = .call { callee := .value (.func f), args := #[x], argTypes := #[t] })
    (he : ∀ args w, (callFunc f args).run P w = .ok (.enter f args) w) (v r : Value) (hx : a.eval x = v) (hc : ∀ w, Calls P f #[v] w fun e w' => e = .returned r ∧ w' = w) (hK : K (a.put o.dst r) w) :
    if Region.wanted o (yielded ops a.tmps) = true then Oper.wp P o a w K Q else E := by
  have hw : Region.wanted o (yielded ops a.tmps) = true := by simp [Region.wanted, hg]
  rw [if_pos hw]
  unfold Oper.wp
  simp [execOp, ho, resolve, invoke, hx, Result.andThen]
  simp [Act.eval, Deferred.ofValue, he]
  rw [Oper.upon_enter]
  refine (hc w).mono ?_
  rintro e w' ⟨rfl, rfl⟩
  exact hK
end Go.Proofs.YtdendpckihckeaaDoor
