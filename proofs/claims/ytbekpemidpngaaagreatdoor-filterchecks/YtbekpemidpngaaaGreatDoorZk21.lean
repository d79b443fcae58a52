/- value.scanBytes where the digits are even: its walk. -/
import Derived.Test.YtbekpemidpngaaaGreatDoorZk20
import Derived.Test.YtbekpemidpngaaaGreatDoorZk19
import Derived.Test.YtbekpemidpngaaaGreatDoorZk0
namespace Go.Proofs.YtbekpemidpngaaaGreatDoor.V
open Go.RowKit

/-- Where a byte stands among the digits. -/
def hxI (b : Nat) : Int := Lib.indexByte HX.data.toList b.toUInt8
theorem hxI_d : ∀ n : Fin 256, hxI n.val = match hxd (UInt8.ofNat n.val) with | some x => (x : Int) | none => -1 := by decide +kernel
theorem hxI_some {b : UInt8} {x : Nat} (h : hxd b = some x) : hxI b.toNat = x := by
  have := hxI_d ⟨b.toNat, UInt8.toNat_lt b⟩
  simp only [UInt8.ofNat_toNat, h] at this
  exact this
theorem hxI_none {b : UInt8} (h : hxd b = none) : hxI b.toNat = -1 := by
  have := hxI_d ⟨b.toNat, UInt8.toNat_lt b⟩
  simp only [UInt8.ofNat_toNat, h] at this
  exact this
theorem idx_any (c : Int) (b : Nat) (w : World) (hc : c = (b : Int)) : Calls Tryz.prog 135 #[.string HX, .int .u8 c] w fun e w' => e = .returned (.int .i64 (hxI b)) ∧ w' = w := by
  subst hc
  exact Tryz.strings_IndexByte HX (b : Int) w
theorem mkN (n : Nat) (W : World) (hn : n ≤ 1000000) : (Instr.makeSlice 124 (.int .i64 (n : Int)) (.int .i64 (n : Int))).run Tryz.prog W = .ok (.slice (some ⟨W.heap.size, 0, none⟩) n n) (W.alloc (.cells (madeCells (Value.int .u8 0).cells n) 5)) := by
  obtain ⟨i0, hi, hz0, hz1, hz2⟩ := info_parts info_u8
  have := run_makeSlice (P := Tryz.prog) W 124 5 i0 _ Tryz.underlying124 hi hz0 .i64 .i64 n n (by omega) (by omega) (by rw [hz1]; omega) (by rw [hz2]; omega) (by omega)
  rw [hz1] at this
  simpa using this
theorem mkN_cell (n j : Nat) (W : World) (h : j < n) : (W.alloc (.cells (madeCells (Value.int .u8 0).cells n) 5)).cell? ⟨W.heap.size, j, none⟩ = some (.int .u8 0) := by
  have hs : (madeCells (Value.int .u8 0).cells n).size = n := size_madeCells _ _
  have : (madeCells (Value.int .u8 0).cells n)[j]? = some (.int .u8 0) := by
    rw [Array.getElem?_eq_getElem (by omega)]
    simp [madeCells, Value.cells, Nat.mod_one]
  simp [this]
theorem Three.drew {b : Nat} {W : World} {x y z : Value} (h : Three b W x y z) : Three b W.drew x y z := ⟨h.c0, h.c1, h.c2⟩
theorem orr : ∀ x y : Fin 16, bits BinOp.or IntKind.i64 ((x.val : Int) * 16) (y.val : Int) = ((16 * x.val + y.val : Nat) : Int) := by decide +kernel
/-- What holds of scanBytes' loop at every round. -/
def SbRl (D : List UInt8) (n g : Nat) (w : World) (i : Value) (wr : World) : Prop :=
  ∃ (k : Nat) (acc : List UInt8), k ≤ n ∧ i = .int .i64 k ∧ acc.length = k ∧ (∀ j, j < n → wr.cell? ⟨g, j, none⟩ = some (.int .u8 ((acc.getD j 0).toNat : Int))) ∧ (∀ j, wr.frozen? ⟨g, j, none⟩ = false) ∧ Fr w wr ∧ (hxp (D.drop (2 * k))).map (acc ++ ·) = hxp D
theorem getD_snoc (acc : List UInt8) (b : UInt8) (j : Nat) : (acc ++ [b]).getD j 0 = if j = acc.length then b else acc.getD j 0 := by
  by_cases h : j < acc.length
  · rw [if_neg (by omega), List.getD_eq_getElem?_getD, List.getElem?_append_left h, List.getD_eq_getElem?_getD]
  · by_cases e : j = acc.length
    · rw [if_pos e, List.getD_eq_getElem?_getD, List.getElem?_append_right (by omega), e]
      simp
    · rw [if_neg e, List.getD_eq_getElem?_getD, List.getElem?_append_right (by omega), List.getElem?_eq_none (by simp; omega), List.getD_eq_getElem?_getD, List.getElem?_eq_none (by omega)]
theorem Sb_put {D : List UInt8} {n g k : Nat} {w wr : World} {acc : List UInt8} {x y : Nat} (hg : w.heap.size < g) (hk : k < n) (hl : acc.length = k) (hc : ∀ j, j < n → wr.cell? ⟨g, j, none⟩ = some (.int .u8 ((acc.getD j 0).toNat : Int))) (hf : ∀ j, wr.frozen? ⟨g, j, none⟩ = false) (hF : Fr w wr) (hx : x < 16) (hy : y < 16)
    (hX : (hxp (D.drop (2 * (k + 1)))).map ((acc ++ [UInt8.ofNat (16 * x + y)]) ++ ·) = hxp D) :
    SbRl D n g w (.int .i64 ((k + 1 : Nat) : Int)) (wr.setCell ⟨g, k, none⟩ (.int .u8 ((16 * x + y : Nat) : Int))) := by
  have ht : (UInt8.ofNat (16 * x + y)).toNat = 16 * x + y := toNat_of (by omega)
  refine ⟨k + 1, acc ++ [UInt8.ofNat (16 * x + y)], by omega, rfl, by simp [hl], fun j hj => ?_, fun j => by simpa using hf j, ⟨?_, hF.b.setCell (p := ⟨g, k, none⟩) (Nat.le_of_lt hg) _⟩, hX⟩
  · rw [getD_snoc, hl]
    by_cases e : j = k
    · subst e
      rw [if_pos rfl, ht, World.cell?_setCell_same _ _ _ (hc j hj)]
    · rw [if_neg e, World.cell?_setCell_other _ _ _ _ (fun h => e (congrArg Addr.off h).symm)]
      exact hc j hj
  · obtain ⟨a, b, c, f0, f1, f2⟩ := hF.z
    have o : ∀ j, (⟨g, k, none⟩ : Addr) ≠ ⟨w.heap.size, j, none⟩ := fun j e => by have h1 : g = w.heap.size := congrArg Addr.block e; omega
    exact ⟨by rw [World.cell?_setCell_other _ _ _ _ (o 0)]; exact a, by rw [World.cell?_setCell_other _ _ _ _ (o 1)]; exact b, by rw [World.cell?_setCell_other _ _ _ _ (o 2)]; exact c, by simpa using f0, by simpa using f1, by simpa using f2⟩
theorem Sb_drew {D : List UInt8} {n g : Nat} {w wr : World} {i : Value} (h : SbRl D n g w i wr) : SbRl D n g w i wr.drew := by
  obtain ⟨k, acc, a, b, c, d, e, f, x⟩ := h
  exact ⟨k, acc, a, b, c, d, e, ⟨f.z.below (B := w.heap.size + 1) (Below.drew (Below.refl _ _)) (by omega), f.b.drew⟩, x⟩
theorem nums_str (acc : List UInt8) : strOfNums (acc.map fun b => (b.toNat : Int)) = str acc := by
  unfold strOfNums str
  rw [List.map_map]
  refine congrArg (fun l : List UInt8 => (⟨l.toArray⟩ : ByteArray)) ?_
  conv => rhs; rw [← List.map_id acc]
  apply List.map_congr_left
  intro b _
  simp
theorem conv_bytes (w : World) (g n : Nat) (acc : List UInt8) (hl : acc.length = n) (hc : ∀ j, j < n → w.cell? ⟨g, j, none⟩ = some (.int .u8 ((acc.getD j 0).toNat : Int))) : (convert 124 9 (.slice (some ⟨g, 0, none⟩) n n)).run Tryz.prog w = .ok (.string (str acc)) w := by
  have := run_convert_bytes_arg (P := Tryz.prog) w 124 5 Tryz.underlying124 Tryz.underlying5 g 0 n n (acc.map fun b => (b.toNat : Int)) (by simp [hl]) (fun i hi => by
    rw [Nat.zero_add, hc i hi, List.getD_eq_getElem?_getD, List.getD_eq_getElem?_getD, List.getElem?_map, List.getElem?_eq_getElem (by omega)]
    rfl) 9 Tryz.underlying9
  rw [this]
  rw [nums_str]
set_option maxRecDepth 100000 in
set_option maxHeartbeats 4000000 in
theorem scanBytes_even (s : ByteArray) (w : World) (D R : List UInt8) (n : Nat) (hs : s.size ≤ 1000000) (hM : ML w) (hl : s.data.toList = D ++ 39 :: R) (h : 39 ∉ D) (hn : D.length = 2 * n) :
    Calls Tryz.prog 132 #[.string s] w fun e w' => e = .returned (scV (scX s.data.toList)) ∧ Below w.heap.size w w' := by
  have HX : Hid (scX s.data.toList = match (hxp D).map fun b => (b, R) with | none => .bad 3 | some p => if 200 < p.1.length then .bad 2 else ⟨4, 0, p.1, p.2, 0⟩) := by show _ = _; unfold scX; rw [hl, hxs_app _ _ h]; cases hxp D <;> rfl
  have HC : Hid (∀ w, ML w → Calls Tryz.prog 157 #[.string s, .string ⟨#[39]⟩] w fun e w' => e = .returned (.tuple #[.string (str D), .string (str R), .bool true]) ∧ Below w.heap.size w w') := fun w hM => cutCall s _ _ _ w hs hM (by rw [hl]; exact cut_yes h)
  have hz : (str D).size = 2 * n := by rw [str_size]; exact hn
  have hn1 : n ≤ 1000000 := by have := Lib.size_eq s; rw [hl, List.length_append] at this; omega
  have HG : Hid (∀ j, j < D.length → gN (str D) j = (D.getD j 0).toNat) := fun j hj => gN_str D j hj
  have h1 : (((str D).size : Int) % 2 != 0) = false := by rw [bne_eq_false_iff_eq, hz]; omega
  have h2 : ((str D).size : Int) / 2 = n := by rw [hz]; omega
  have HN : Hid (D.length = 2 * n) := hn
  have HZ : Hid ((str D).size = 2 * n) := hz
  generalize str D = E at *
  clear h hl hz hn
  go_enter Tryz.func132, Tryz.ntmps132
  go_wp2_with fail
  refine (HC.out _ (ML_below hM (wv_below w))).mono ?_
  rintro e w1 ⟨rfl, hb1⟩
  have HF : Hid (Fr w w1) := Fr.of hb1
  have hlt : w.heap.size < w1.heap.size := by have := hb1.size; simp at this; omega
  clear hb1
  go_wp2
  rw [mkN n _ hn1]
  have HA : Hid (SbRl D n w1.heap.size w (.int .i64 ((0 : Nat) : Int)) (w1.alloc (.cells (madeCells (Value.int .u8 0).cells n) 5))) := by
    have hA := (Below.refl w1.heap.size w1).alloc (Nat.le_refl _) (.cells (madeCells (Value.int .u8 0).cells n) 5)
    refine ⟨0, [], Nat.zero_le _, rfl, rfl, fun j hj => by rw [mkN_cell n j w1 hj]; rfl, fun j => by simp, ⟨HF.out.z.below hA hlt, HF.out.b.alloc (by omega) _⟩, ?_⟩
    show (hxp (D.drop 0)).map ([] ++ ·) = hxp D
    rw [List.drop_zero]
    cases hxp D <;> rfl
  generalize w1.alloc (.cells (madeCells (Value.int .u8 0).cells n) 5) = w2 at *
  generalize w1.heap.size = g at *
  go_wp2_with fail
  go_loopw [3, 4, 32] (fun r e i wr => r = .string (str R) ∧ e = .int .i64 0 ∧ SbRl D n g w i wr) (fun _ _ i _ => n - (RowKit.intOf i).toNat)
  case atStart => exact ⟨rfl, rfl, HA.out⟩
  case round =>
    obtain ⟨rfl, rfl, k, acc, hk, rfl, hal, hc, hf, hFr, hck⟩ := hrel
    have HL : Hid (acc.length = k) := hal
    have HCK : Hid ((hxp (D.drop (2 * k))).map (acc ++ ·) = hxp D) := hck
    have HFr : Hid (Fr w wr) := hFr
    have HCC : Hid (∀ j, j < n → wr.cell? ⟨g, j, none⟩ = some (.int .u8 ((acc.getD j 0).toNat : Int))) := hc
    have HFF : Hid (∀ j, wr.frozen? ⟨g, j, none⟩ = false) := hf
    obtain ⟨⟨d0, d1, d2, f0, f1, f2⟩, -⟩ := HFr.out
    clear hal hck hFr hc hf
    by_cases hkn : k < n
    · have hki : (k : Int) < n := by omega
      have hD2 : 2 * k + 1 < D.length := by rw [HN.out]; omega
      have hdrop : D.drop (2 * k) = D.getD (2 * k) 0 :: D.getD (2 * k + 1) 0 :: D.drop (2 * (k + 1)) := by
        rw [List.drop_eq_getElem_cons (by omega), List.drop_eq_getElem_cons hD2, List.getD_eq_getElem?_getD, List.getElem?_eq_getElem (by omega), List.getD_eq_getElem?_getD, List.getElem?_eq_getElem hD2]
        rfl
      have hE2 : 2 * k + 1 < E.size := by rw [HZ.out]; omega
      have g1 := gN_of E (2 * k) (by omega)
      have g2 := gN_of E (2 * k + 1) hE2
      rw [HG.out (2 * k) (by omega)] at g1
      rw [HG.out (2 * k + 1) hD2] at g2
      have e2 : 2 * (k : Int) < E.size := by omega
      have e3 : 2 * (k : Int) + 1 < E.size := by omega
      generalize D.getD (2 * k) 0 = a at *
      generalize D.getD (2 * k + 1) 0 = b at *
      have ha := UInt8.toNat_lt a
      have hb := UInt8.toNat_lt b
      have q1 : IntKind.i64.wrap (2 * (k : Int)) = ((2 * k : Nat) : Int) := by rw [IntKind.wrap_i64]; omega
      have q2 : IntKind.i64.wrap (((2 * k : Nat) : Int) + 1) = ((2 * k + 1 : Nat) : Int) := by rw [IntKind.wrap_i64]; omega
      have q3 : IntKind.i64.wrap (2 * (k : Int) + 1) = ((2 * k + 1 : Nat) : Int) := by rw [IntKind.wrap_i64]; omega
      have HD : Hid (D.drop (2 * k) = a :: b :: D.drop (2 * (k + 1))) := hdrop
      clear hdrop hD2
      have v1 : ∀ p : (2 * (k : Int)).toNat < E.size, hxI (E[(2 * (k : Int)).toNat]'p).toNat = hxI a.toNat := fun p => by
        have e : (2 * (k : Int)).toNat = 2 * k := by omega
        have := g1
        simp only [e]
        rw [this]
      have v2 : ∀ p : (2 * (k : Int) + 1).toNat < E.size, hxI (E[(2 * (k : Int) + 1).toNat]'p).toNat = hxI b.toNat := fun p => by
        have e : (2 * (k : Int) + 1).toNat = 2 * k + 1 := by omega
        have := g2
        simp only [e]
        rw [this]
      clear g1 g2
      have fail3 : hxd a = none ∨ hxd b = none → Hid (scX s.data.toList = .bad 3) := by
        intro h
        have hn : hxp (D.drop (2 * k)) = none := by
          rw [HD.out]
          unfold hxp
          rcases h with h | h
          · rw [h]
          · rw [h]; cases hxd a <;> rfl
        have := HCK.out
        rw [hn] at this
        have h3 : hxp D = none := this.symm
        show _ = _
        rw [HX.out, h3]
        rfl
      cases hxa : hxd a with
      | none =>
        have HX3 := fail3 (.inl hxa)
        rw [hxI_none hxa] at v1
        clear fail3 hxa HD HX
        go_wp2
        go_region_held3 (fun w' => True) (trivial) (first | (go_at_call 135; refine (idx_any _ _ _ rfl).mono ?_; rintro e w' ⟨rfl, rfl⟩))
        all_goals (try simp only [v1, v2])
        all_goals go_wp2
        all_goals (try simp only [Exit.inBlock, Exit.then])
        all_goals exact bodyPost_ret (results_v3 rfl _ _ w.heap.size rfl (Three.drew (HFr.out.z.three.set _ _ _))) rfl ⟨by rw [HX3.out]; rfl, (set3_below HFr.out.b _ _ _).drew⟩
      | some x =>
        have hx16 := hxd_lt hxa
        cases hxb : hxd b with
        | none =>
          have HX3 := fail3 (.inr hxb)
          rw [hxI_some hxa] at v1
          rw [hxI_none hxb] at v2
          clear fail3 hxa hxb HD HX
          go_wp2
          go_region_held3 (fun w' => True) (trivial) (first | (go_at_call 135; refine (idx_any _ _ _ rfl).mono ?_; rintro e w' ⟨rfl, rfl⟩))
          all_goals (try simp only [v1, v2])
          all_goals go_wp2
          all_goals (try simp only [Exit.inBlock, Exit.then])
          all_goals exact bodyPost_ret (results_v3 rfl _ _ w.heap.size rfl (Three.drew (HFr.out.z.three.set _ _ _))) rfl ⟨by rw [HX3.out]; rfl, (set3_below HFr.out.b _ _ _).drew⟩
        | some y =>
          have hy16 := hxd_lt hxb
          have HX2 : Hid ((hxp (D.drop (2 * (k + 1)))).map ((acc ++ [UInt8.ofNat (16 * x + y)]) ++ ·) = hxp D) := by
            show _ = _
            rw [← HCK.out, HD.out]
            conv => rhs; unfold hxp
            rw [hxa, hxb]
            cases hxp (D.drop (2 * (k + 1))) <;> simp
          rw [hxI_some hxa] at v1
          rw [hxI_some hxb] at v2
          have cg := HCC.out k hkn
          have fg := HFF.out k
          have hor := orr ⟨x, hx16⟩ ⟨y, hy16⟩
          simp only at hor
          have HP : Hid (SbRl D n g w (.int .i64 ((k + 1 : Nat) : Int)) (wr.setCell ⟨g, k, none⟩ (.int .u8 ((16 * x + y : Nat) : Int)))) := Sb_put hlt hkn HL.out HCC.out HFF.out HFr.out hx16 hy16 HX2.out
          clear fail3 hxa hxb HD HX
          go_wp2
          go_region_held3 (fun w' => True) (trivial) (first | (go_at_call 135; refine (idx_any _ _ _ rfl).mono ?_; rintro e w' ⟨rfl, rfl⟩))
          all_goals (try simp only [v1, v2])
          all_goals go_wp2
          all_goals
            refine ⟨⟨rfl, rfl, Sb_drew ?_⟩, by simp [RowKit.intOf]; omega⟩
            have hp := HP.out
            push_cast at hp
            exact hp
    · obtain rfl : k = n := by omega
      have hfin : hxp D = some acc := by
        rw [← HCK.out, List.drop_eq_nil_of_le (by rw [HN.out]; exact Nat.le_refl _)]
        simp [hxp]
      have hE2 : scX s.data.toList = if 200 < acc.length then .bad 2 else ⟨4, 0, acc, R, 0⟩ := by
        rw [HX.out, hfin]
        rfl
      rw [HL.out] at hE2
      by_cases h200 : 200 < k
      · have HX3 : Hid (scX s.data.toList = .bad 2) := hE2.trans (if_pos h200)
        have d200 : decide ((200 : Int) < k) = true := by simp; omega
        clear hE2 hfin HX
        go_wp2
        try simp only [Exit.inBlock, Exit.then]
        exact bodyPost_ret (results_v3 rfl _ _ w.heap.size rfl (HFr.out.z.three.set _ _ _)) rfl ⟨by rw [HX3.out]; rfl, set3_below HFr.out.b _ _ _⟩
      · have HX3 : Hid (scX s.data.toList = ⟨4, 0, acc, R, 0⟩) := hE2.trans (if_neg h200)
        have d200 : decide ((200 : Int) < k) = false := by simp; omega
        have hcv := conv_bytes wr g k acc HL.out HCC.out
        clear hE2 hfin HX
        go_wp2
        try simp only [Exit.inBlock, Exit.then]
        exact bodyPost_ret (results_v3 rfl _ _ w.heap.size rfl (HFr.out.z.three.set _ _ _)) rfl ⟨by rw [HX3.out]; rfl, set3_below HFr.out.b _ _ _⟩
theorem scanBytes_any (s : ByteArray) (w : World) (hs : s.size ≤ 1000000) (hM : ML w) :
    Calls Tryz.prog 132 #[.string s] w fun e w' => e = .returned (scV (scX s.data.toList)) ∧ Below w.heap.size w w' := by
  by_cases h : 39 ∈ s.data.toList
  · obtain ⟨D, R, h1, h2⟩ := split_at _ _ h
    by_cases ho : D.length % 2 = 0
    · exact scanBytes_even s w D R (D.length / 2) hs hM h1 h2 (by omega)
    · exact scanBytes_odd s w D R hs hM h1 h2 ho
  · exact scanBytes_no s w hs hM h
end Go.Proofs.YtbekpemidpngaaaGreatDoor.V
/- value.goesOn, scanBool, Scan, Parse at any text: walks. -/
namespace Go.Proofs.YtbekpemidpngaaaGreatDoor.V
open Go.RowKit

theorem goes_go (s : ByteArray) : goesL s.data.toList = (letterN (Lib.decodeGo s).1 || (decide (48 ≤ (Lib.decodeGo s).1 ∧ (Lib.decodeGo s).1 ≤ 57) || ((Lib.decodeGo s).1 == 95 || (Lib.decodeGo s).1 == 45))) := by
  by_cases hz : s.size = 0
  · have ed : Lib.decodeGo s = (65533, 0) := by unfold Lib.decodeGo; rw [if_pos hz]
    have e : s.data.toList = [] := List.eq_nil_of_length_eq_zero (by rw [← Lib.size_eq]; exact hz)
    rw [ed, e]
    decide +kernel
  · rw [dec_same s hz]
    rfl
set_option maxRecDepth 100000 in
set_option maxHeartbeats 2000000 in
theorem goesOn_any (s : ByteArray) (w : World) (hU : UT w) :
    Calls Tryz.prog 158 #[.string s] w fun e w' => e = .returned (.bool (goesL s.data.toList)) ∧ Below w.heap.size w w' := by
  have HD : Hid (∀ w, UT w → Calls Tryz.prog 97 #[.string s] w fun e w' => e = .returned (.tuple #[.int .i32 (Lib.decodeGo s).1, .int .i64 (Lib.decodeGo s).2]) ∧ Below w.heap.size w w') := fun w h => Tryz.utf8_DecodeRuneInString s w h
  have hcl : (Lib.decodeGo s).1 ≤ 1114111 := by have := (decGo_ok s).1; unfold scal at this; omega
  rw [goes_go]
  generalize (Lib.decodeGo s).1 = c at *
  generalize (Lib.decodeGo s).2 = d at *
  rw [← letterZ_nat]
  have HL : Hid (∀ w : World, Calls Tryz.prog 115 #[.int .i32 (c : Int)] w fun e w' => e = .returned (.bool (letterZ c)) ∧ w' = w) := fun w => letter_any c w
  generalize letterZ (c : Int) = L at *
  cases L
  · have k1 : (decide ((48 : Int) ≤ c) = true ∧ decide ((c : Int) ≤ 57) = true ∧ 48 ≤ c ∧ c ≤ 57) ∨ (decide ((48 : Int) ≤ c) = true ∧ decide ((c : Int) ≤ 57) = false ∧ ¬ (48 ≤ c ∧ c ≤ 57)) ∨ (decide ((48 : Int) ≤ c) = false ∧ ¬ (48 ≤ c ∧ c ≤ 57)) := by
      by_cases h1 : 48 ≤ c
      · by_cases h2 : c ≤ 57
        · exact .inl ⟨by simp; omega, by simp; omega, h1, h2⟩
        · exact .inr (.inl ⟨by simp; omega, by simp; omega, by omega⟩)
      · exact .inr (.inr ⟨by simp; omega, by omega⟩)
    have k2 : (c = 95 ∧ ((c : Int) == 95) = true) ∨ (((c : Int) == 95) = false ∧ (c == 95) = false) := by
      by_cases h : c = 95
      · exact .inl ⟨h, by subst h; rfl⟩
      · exact .inr ⟨by rw [beq_eq_false_iff_ne]; omega, by rw [beq_eq_false_iff_ne]; exact h⟩
    have k3 : (c = 45 ∧ ((c : Int) == 45) = true) ∨ (((c : Int) == 45) = false ∧ (c == 45) = false) := by
      by_cases h : c = 45
      · exact .inl ⟨h, by subst h; rfl⟩
      · exact .inr ⟨by rw [beq_eq_false_iff_ne]; omega, by rw [beq_eq_false_iff_ne]; exact h⟩
    rcases k1 with ⟨a1, a2, a3, a4⟩ | ⟨a1, a2, a3⟩ | ⟨a1, a3⟩
    · have HR : Hid ((false || (decide (48 ≤ c ∧ c ≤ 57) || (c == 95 || c == 45))) = true) := by show _ = _; rw [decide_eq_true ⟨a3, a4⟩]; rfl
      rw [HR.out]
      clear k2 k3 HR
      go_enter Tryz.func158, Tryz.ntmps158
      go_wp2_with fail
      refine (HD.out _ hU).mono ?_
      rintro e w1 ⟨rfl, hb1⟩
      go_wp2_with (go_at_call 115; refine (HL.out _).mono ?_; rintro e w' ⟨rfl, rfl⟩)
      go_ret
      exact ⟨rfl, hb1⟩
    all_goals
      have HR : Hid ((false || (decide (48 ≤ c ∧ c ≤ 57) || (c == 95 || c == 45))) = (c == 95 || c == 45)) := by show _ = _; rw [decide_eq_false a3]; rfl
      rw [HR.out]
      clear HR a3
      rcases k2 with ⟨rfl, -⟩ | ⟨k2, k2'⟩
      · go_enter Tryz.func158, Tryz.ntmps158
        go_wp2_with fail
        refine (HD.out _ hU).mono ?_
        rintro e w1 ⟨rfl, hb1⟩
        go_wp2_with (go_at_call 115; refine (HL.out _).mono ?_; rintro e w' ⟨rfl, rfl⟩)
        go_ret
        exact ⟨rfl, hb1⟩
      · rw [k2', Bool.false_or]
        rcases k3 with ⟨rfl, -⟩ | ⟨k3, k3'⟩
        · go_enter Tryz.func158, Tryz.ntmps158
          go_wp2_with fail
          refine (HD.out _ hU).mono ?_
          rintro e w1 ⟨rfl, hb1⟩
          go_wp2_with (go_at_call 115; refine (HL.out _).mono ?_; rintro e w' ⟨rfl, rfl⟩)
          go_ret
          exact ⟨rfl, hb1⟩
        · rw [k3']
          clear k2' k3'
          go_enter Tryz.func158, Tryz.ntmps158
          go_wp2_with fail
          refine (HD.out _ hU).mono ?_
          rintro e w1 ⟨rfl, hb1⟩
          go_wp2_with (go_at_call 115; refine (HL.out _).mono ?_; rintro e w' ⟨rfl, rfl⟩)
          go_ret
          exact ⟨rfl, hb1⟩
  · rw [Bool.true_or]
    go_enter Tryz.func158, Tryz.ntmps158
    go_wp2_with fail
    refine (HD.out _ hU).mono ?_
    rintro e w1 ⟨rfl, hb1⟩
    go_wp2_with (go_at_call 115; refine (HL.out _).mono ?_; rintro e w' ⟨rfl, rfl⟩)
    go_ret
    exact ⟨rfl, hb1⟩
set_option maxRecDepth 100000 in
set_option maxHeartbeats 2000000 in
theorem scanBool_any (n : Int) (s : ByteArray) (w : World) (hU : UT w) :
    Calls Tryz.prog 133 #[.int .i64 n, .string s] w fun e w' => e = .returned (scV (scB n s.data.toList)) ∧ Below w.heap.size w w' := by
  have HS : Hid (str s.data.toList = s) := str_of s
  have HG : Hid (∀ w, UT w → Calls Tryz.prog 158 #[.string s] w fun e w' => e = .returned (.bool (goesL s.data.toList)) ∧ Below w.heap.size w w') := fun w h => goesOn_any s w h
  unfold scB
  cases hB : goesL s.data.toList
  all_goals
    rw [hB] at HG
    clear hB
    go_enter Tryz.func133, Tryz.ntmps133
    go_wp2_with fail
    refine (HG.out _ (Utf8Tabs_below hU (wv_below w))).mono ?_
    rintro e w1 ⟨rfl, hb1⟩
    have HF : Hid (Fr w w1) := Fr.of hb1
    obtain ⟨⟨d0, d1, d2, f0, f1, f2⟩, -⟩ := HF.out
    clear hb1
    go_wp2
    try simp only [Exit.inBlock, Exit.then]
    refine bodyPost_ret (results_v3 rfl _ _ w.heap.size rfl (HF.out.z.three.set _ _ _)) rfl ⟨?_, set3_below HF.out.b _ _ _⟩
  · simp only [scV, HS.out]
    rfl
  · rfl
/-- What the scanners ask of the world. -/
structure VE (w : World) : Prop where
  u : UT w
  t : T16 w
  m : ML w
  e : ES w
theorem VE.below {w w' : World} (h : VE w) (hb : Below w.heap.size w w') : VE w' := ⟨Utf8Tabs_below h.u hb, T16_below h.t hb, ML_below h.m hb, ES_below h.e hb⟩
theorem sub_list (s : ByteArray) (m : Nat) : (s.extract m s.size).data.toList = s.data.toList.drop m := by rw [ext_from, str_data]
theorem pre_len {l p : List UInt8} (h : Lib.hasPrefix l p = true) : p.length ≤ l.length := (List.isPrefixOf_iff_prefix.1 h).length_le
theorem bad_or (l : List UInt8) : (scn l).e = 0 ∨ scn l = .bad (scn l).e := by
  have hB : ∀ n l, (scB n l).e = 0 ∨ scB n l = .bad (scB n l).e := fun n l => by unfold scB; split <;> simp
  have hI : ∀ b l, (scI b l).e = 0 ∨ scI b l = .bad (scI b l).e := fun b l => by unfold scI; (repeat' split) <;> simp
  have hT : ∀ l, (scT l).e = 0 ∨ scT l = .bad (scT l).e := fun l => by unfold scT; (repeat' split) <;> simp
  have hX : ∀ l, (scX l).e = 0 ∨ scX l = .bad (scX l).e := fun l => by unfold scX; (repeat' split) <;> simp
  unfold scn
  repeat' split
  · exact hT _
  · exact hX _
  · exact hB _ _
  · exact hB _ _
  · exact hI _ _
  · exact hI _ _
/-- A scanner's answer, its error asked. -/
def scW (k n : Int) (S R : ByteArray) (e : Int) : Value := if e = 0 then .tuple #[vv k n S, .string R, .int .i64 0] else .tuple #[v0, .string ⟨#[]⟩, .int .i64 e]
theorem scW_is {x : Sc} (h : x.e = 0 ∨ x = .bad x.e) : scW x.k x.n (str x.s) (str x.r) x.e = scV x := by
  unfold scW
  by_cases e : x.e = 0
  · rw [if_pos e, scV, e]
  · rw [if_neg e]
    rcases h with h | h
    · exact absurd h e
    · rw [h]; rfl
set_option maxRecDepth 100000 in
set_option maxHeartbeats 2000000 in
theorem scan_qw (s : ByteArray) (w : World) (h : VE w) (h0 : Lib.hasPrefix s.data.toList [34] = true) (hz : 1 ≤ s.size) (k n : Int) (S R : ByteArray) (e : Int)
    (HC : Hid (∀ w, VE w → Calls Tryz.prog 131 #[.string (s.extract 1 s.size)] w fun e0 w' => e0 = .returned (.tuple #[vv k n S, .string R, .int .i64 e]) ∧ Below w.heap.size w w')) :
    Calls Tryz.prog 102 #[.string s] w fun e0 w' => e0 = .returned (scW k n S R e) ∧ Below w.heap.size w w' := by
  have hz' : (1 : Int) ≤ s.size := by omega
  by_cases he : e = 0
  · subst he
    rw [show scW k n S R 0 = .tuple #[vv k n S, .string R, .int .i64 0] from rfl]
    go_enter Tryz.func102, Tryz.ntmps102
    go_wp2_with fail
    refine (Tryz.strings_HasPrefix _ _ _).mono ?_
    rintro e0 w1 ⟨rfl, rfl⟩
    rw [show (⟨#[34]⟩ : ByteArray).data.toList = [34] from rfl, h0]
    go_wp2_with fail
    refine (HC.out _ (h.below (wv_below w))).mono ?_
    rintro e0 w2 ⟨rfl, hb2⟩
    have HF : Hid (Fr w w2) := Fr.of hb2
    obtain ⟨⟨d0, d1, d2, f0, f1, f2⟩, -⟩ := HF.out
    clear hb2
    go_wp2
    try simp only [Exit.inBlock, Exit.then]
    exact bodyPost_ret (results_v3 rfl _ _ w.heap.size rfl ((HF.out.z.three.set _ _ _).set _ _ _)) rfl ⟨rfl, set3_below (set3_below HF.out.b _ _ _) _ _ _⟩
  · rw [show scW k n S R e = .tuple #[v0, .string ⟨#[]⟩, .int .i64 e] from if_neg he]
    have he' : (e != 0) = true := by rw [bne_iff_ne]; exact he
    clear he
    go_enter Tryz.func102, Tryz.ntmps102
    go_wp2_with fail
    refine (Tryz.strings_HasPrefix _ _ _).mono ?_
    rintro e0 w1 ⟨rfl, rfl⟩
    rw [show (⟨#[34]⟩ : ByteArray).data.toList = [34] from rfl, h0]
    go_wp2_with fail
    refine (HC.out _ (h.below (wv_below w))).mono ?_
    rintro e0 w2 ⟨rfl, hb2⟩
    have HF : Hid (Fr w w2) := Fr.of hb2
    obtain ⟨⟨d0, d1, d2, f0, f1, f2⟩, -⟩ := HF.out
    clear hb2
    go_wp2
    try simp only [Exit.inBlock, Exit.then]
    exact bodyPost_ret (results_v3 rfl _ _ w.heap.size rfl ((HF.out.z.three.set _ _ _).set _ _ _)) rfl ⟨rfl, set3_below (set3_below HF.out.b _ _ _) _ _ _⟩
set_option maxRecDepth 100000 in
set_option maxHeartbeats 2000000 in
theorem scan_xw (s : ByteArray) (w : World) (h : VE w) (h0 : Lib.hasPrefix s.data.toList [34] = false) (h1 : Lib.hasPrefix s.data.toList [120, 39] = true) (hz : 2 ≤ s.size) (k n : Int) (S R : ByteArray) (e : Int)
    (HC : Hid (∀ w, VE w → Calls Tryz.prog 132 #[.string (s.extract 2 s.size)] w fun e0 w' => e0 = .returned (.tuple #[vv k n S, .string R, .int .i64 e]) ∧ Below w.heap.size w w')) :
    Calls Tryz.prog 102 #[.string s] w fun e0 w' => e0 = .returned (scW k n S R e) ∧ Below w.heap.size w w' := by
  have hz' : (2 : Int) ≤ s.size := by omega
  by_cases he : e = 0
  · subst he
    rw [show scW k n S R 0 = .tuple #[vv k n S, .string R, .int .i64 0] from rfl]
    go_enter Tryz.func102, Tryz.ntmps102
    go_wp2_with fail
    refine (Tryz.strings_HasPrefix _ _ _).mono ?_
    rintro e0 w1 ⟨rfl, rfl⟩
    rw [show (⟨#[34]⟩ : ByteArray).data.toList = [34] from rfl, h0]
    go_wp2_with fail
    refine (Tryz.strings_HasPrefix _ _ _).mono ?_
    rintro e0 w1 ⟨rfl, rfl⟩
    rw [show (⟨#[120, 39]⟩ : ByteArray).data.toList = [120, 39] from rfl, h1]
    go_wp2_with fail
    refine (HC.out _ (h.below (wv_below w))).mono ?_
    rintro e0 w2 ⟨rfl, hb2⟩
    have HF : Hid (Fr w w2) := Fr.of hb2
    obtain ⟨⟨d0, d1, d2, f0, f1, f2⟩, -⟩ := HF.out
    clear hb2
    go_wp2
    try simp only [Exit.inBlock, Exit.then]
    exact bodyPost_ret (results_v3 rfl _ _ w.heap.size rfl ((HF.out.z.three.set _ _ _).set _ _ _)) rfl ⟨rfl, set3_below (set3_below HF.out.b _ _ _) _ _ _⟩
  · rw [show scW k n S R e = .tuple #[v0, .string ⟨#[]⟩, .int .i64 e] from if_neg he]
    have he' : (e != 0) = true := by rw [bne_iff_ne]; exact he
    clear he
    go_enter Tryz.func102, Tryz.ntmps102
    go_wp2_with fail
    refine (Tryz.strings_HasPrefix _ _ _).mono ?_
    rintro e0 w1 ⟨rfl, rfl⟩
    rw [show (⟨#[34]⟩ : ByteArray).data.toList = [34] from rfl, h0]
    go_wp2_with fail
    refine (Tryz.strings_HasPrefix _ _ _).mono ?_
    rintro e0 w1 ⟨rfl, rfl⟩
    rw [show (⟨#[120, 39]⟩ : ByteArray).data.toList = [120, 39] from rfl, h1]
    go_wp2_with fail
    refine (HC.out _ (h.below (wv_below w))).mono ?_
    rintro e0 w2 ⟨rfl, hb2⟩
    have HF : Hid (Fr w w2) := Fr.of hb2
    obtain ⟨⟨d0, d1, d2, f0, f1, f2⟩, -⟩ := HF.out
    clear hb2
    go_wp2
    try simp only [Exit.inBlock, Exit.then]
    exact bodyPost_ret (results_v3 rfl _ _ w.heap.size rfl ((HF.out.z.three.set _ _ _).set _ _ _)) rfl ⟨rfl, set3_below (set3_below HF.out.b _ _ _) _ _ _⟩
set_option maxRecDepth 100000 in
set_option maxHeartbeats 2000000 in
theorem scan_tw (s : ByteArray) (w : World) (h : VE w) (h0 : Lib.hasPrefix s.data.toList [34] = false) (h1 : Lib.hasPrefix s.data.toList [120, 39] = false) (h2 : Lib.hasPrefix s.data.toList [116, 114, 117, 101] = true) (hz : 4 ≤ s.size) (k n : Int) (S R : ByteArray) (e : Int)
    (HC : Hid (∀ w, VE w → Calls Tryz.prog 133 #[.int .i64 1, .string (s.extract 4 s.size)] w fun e0 w' => e0 = .returned (.tuple #[vv k n S, .string R, .int .i64 e]) ∧ Below w.heap.size w w')) :
    Calls Tryz.prog 102 #[.string s] w fun e0 w' => e0 = .returned (scW k n S R e) ∧ Below w.heap.size w w' := by
  have hz' : (4 : Int) ≤ s.size := by omega
  by_cases he : e = 0
  · subst he
    rw [show scW k n S R 0 = .tuple #[vv k n S, .string R, .int .i64 0] from rfl]
    go_enter Tryz.func102, Tryz.ntmps102
    go_wp2_with fail
    refine (Tryz.strings_HasPrefix _ _ _).mono ?_
    rintro e0 w1 ⟨rfl, rfl⟩
    rw [show (⟨#[34]⟩ : ByteArray).data.toList = [34] from rfl, h0]
    go_wp2_with fail
    refine (Tryz.strings_HasPrefix _ _ _).mono ?_
    rintro e0 w1 ⟨rfl, rfl⟩
    rw [show (⟨#[120, 39]⟩ : ByteArray).data.toList = [120, 39] from rfl, h1]
    go_wp2_with fail
    refine (Tryz.strings_HasPrefix _ _ _).mono ?_
    rintro e0 w1 ⟨rfl, rfl⟩
    rw [show (⟨#[116, 114, 117, 101]⟩ : ByteArray).data.toList = [116, 114, 117, 101] from rfl, h2]
    go_wp2_with fail
    refine (HC.out _ (h.below (wv_below w))).mono ?_
    rintro e0 w2 ⟨rfl, hb2⟩
    have HF : Hid (Fr w w2) := Fr.of hb2
    obtain ⟨⟨d0, d1, d2, f0, f1, f2⟩, -⟩ := HF.out
    clear hb2
    go_wp2
    try simp only [Exit.inBlock, Exit.then]
    exact bodyPost_ret (results_v3 rfl _ _ w.heap.size rfl ((HF.out.z.three.set _ _ _).set _ _ _)) rfl ⟨rfl, set3_below (set3_below HF.out.b _ _ _) _ _ _⟩
  · rw [show scW k n S R e = .tuple #[v0, .string ⟨#[]⟩, .int .i64 e] from if_neg he]
    have he' : (e != 0) = true := by rw [bne_iff_ne]; exact he
    clear he
    go_enter Tryz.func102, Tryz.ntmps102
    go_wp2_with fail
    refine (Tryz.strings_HasPrefix _ _ _).mono ?_
    rintro e0 w1 ⟨rfl, rfl⟩
    rw [show (⟨#[34]⟩ : ByteArray).data.toList = [34] from rfl, h0]
    go_wp2_with fail
    refine (Tryz.strings_HasPrefix _ _ _).mono ?_
    rintro e0 w1 ⟨rfl, rfl⟩
    rw [show (⟨#[120, 39]⟩ : ByteArray).data.toList = [120, 39] from rfl, h1]
    go_wp2_with fail
    refine (Tryz.strings_HasPrefix _ _ _).mono ?_
    rintro e0 w1 ⟨rfl, rfl⟩
    rw [show (⟨#[116, 114, 117, 101]⟩ : ByteArray).data.toList = [116, 114, 117, 101] from rfl, h2]
    go_wp2_with fail
    refine (HC.out _ (h.below (wv_below w))).mono ?_
    rintro e0 w2 ⟨rfl, hb2⟩
    have HF : Hid (Fr w w2) := Fr.of hb2
    obtain ⟨⟨d0, d1, d2, f0, f1, f2⟩, -⟩ := HF.out
    clear hb2
    go_wp2
    try simp only [Exit.inBlock, Exit.then]
    exact bodyPost_ret (results_v3 rfl _ _ w.heap.size rfl ((HF.out.z.three.set _ _ _).set _ _ _)) rfl ⟨rfl, set3_below (set3_below HF.out.b _ _ _) _ _ _⟩
set_option maxRecDepth 100000 in
set_option maxHeartbeats 2000000 in
theorem scan_fw (s : ByteArray) (w : World) (h : VE w) (h0 : Lib.hasPrefix s.data.toList [34] = false) (h1 : Lib.hasPrefix s.data.toList [120, 39] = false) (h2 : Lib.hasPrefix s.data.toList [116, 114, 117, 101] = false) (h3 : Lib.hasPrefix s.data.toList [102, 97, 108, 115, 101] = true) (hz : 5 ≤ s.size) (k n : Int) (S R : ByteArray) (e : Int)
    (HC : Hid (∀ w, VE w → Calls Tryz.prog 133 #[.int .i64 0, .string (s.extract 5 s.size)] w fun e0 w' => e0 = .returned (.tuple #[vv k n S, .string R, .int .i64 e]) ∧ Below w.heap.size w w')) :
    Calls Tryz.prog 102 #[.string s] w fun e0 w' => e0 = .returned (scW k n S R e) ∧ Below w.heap.size w w' := by
  have hz' : (5 : Int) ≤ s.size := by omega
  by_cases he : e = 0
  · subst he
    rw [show scW k n S R 0 = .tuple #[vv k n S, .string R, .int .i64 0] from rfl]
    go_enter Tryz.func102, Tryz.ntmps102
    go_wp2_with fail
    refine (Tryz.strings_HasPrefix _ _ _).mono ?_
    rintro e0 w1 ⟨rfl, rfl⟩
    rw [show (⟨#[34]⟩ : ByteArray).data.toList = [34] from rfl, h0]
    go_wp2_with fail
    refine (Tryz.strings_HasPrefix _ _ _).mono ?_
    rintro e0 w1 ⟨rfl, rfl⟩
    rw [show (⟨#[120, 39]⟩ : ByteArray).data.toList = [120, 39] from rfl, h1]
    go_wp2_with fail
    refine (Tryz.strings_HasPrefix _ _ _).mono ?_
    rintro e0 w1 ⟨rfl, rfl⟩
    rw [show (⟨#[116, 114, 117, 101]⟩ : ByteArray).data.toList = [116, 114, 117, 101] from rfl, h2]
    go_wp2_with fail
    refine (Tryz.strings_HasPrefix _ _ _).mono ?_
    rintro e0 w1 ⟨rfl, rfl⟩
    rw [show (⟨#[102, 97, 108, 115, 101]⟩ : ByteArray).data.toList = [102, 97, 108, 115, 101] from rfl, h3]
    go_wp2_with fail
    refine (HC.out _ (h.below (wv_below w))).mono ?_
    rintro e0 w2 ⟨rfl, hb2⟩
    have HF : Hid (Fr w w2) := Fr.of hb2
    obtain ⟨⟨d0, d1, d2, f0, f1, f2⟩, -⟩ := HF.out
    clear hb2
    go_wp2
    try simp only [Exit.inBlock, Exit.then]
    exact bodyPost_ret (results_v3 rfl _ _ w.heap.size rfl ((HF.out.z.three.set _ _ _).set _ _ _)) rfl ⟨rfl, set3_below (set3_below HF.out.b _ _ _) _ _ _⟩
  · rw [show scW k n S R e = .tuple #[v0, .string ⟨#[]⟩, .int .i64 e] from if_neg he]
    have he' : (e != 0) = true := by rw [bne_iff_ne]; exact he
    clear he
    go_enter Tryz.func102, Tryz.ntmps102
    go_wp2_with fail
    refine (Tryz.strings_HasPrefix _ _ _).mono ?_
    rintro e0 w1 ⟨rfl, rfl⟩
    rw [show (⟨#[34]⟩ : ByteArray).data.toList = [34] from rfl, h0]
    go_wp2_with fail
    refine (Tryz.strings_HasPrefix _ _ _).mono ?_
    rintro e0 w1 ⟨rfl, rfl⟩
    rw [show (⟨#[120, 39]⟩ : ByteArray).data.toList = [120, 39] from rfl, h1]
    go_wp2_with fail
    refine (Tryz.strings_HasPrefix _ _ _).mono ?_
    rintro e0 w1 ⟨rfl, rfl⟩
    rw [show (⟨#[116, 114, 117, 101]⟩ : ByteArray).data.toList = [116, 114, 117, 101] from rfl, h2]
    go_wp2_with fail
    refine (Tryz.strings_HasPrefix _ _ _).mono ?_
    rintro e0 w1 ⟨rfl, rfl⟩
    rw [show (⟨#[102, 97, 108, 115, 101]⟩ : ByteArray).data.toList = [102, 97, 108, 115, 101] from rfl, h3]
    go_wp2_with fail
    refine (HC.out _ (h.below (wv_below w))).mono ?_
    rintro e0 w2 ⟨rfl, hb2⟩
    have HF : Hid (Fr w w2) := Fr.of hb2
    obtain ⟨⟨d0, d1, d2, f0, f1, f2⟩, -⟩ := HF.out
    clear hb2
    go_wp2
    try simp only [Exit.inBlock, Exit.then]
    exact bodyPost_ret (results_v3 rfl _ _ w.heap.size rfl ((HF.out.z.three.set _ _ _).set _ _ _)) rfl ⟨rfl, set3_below (set3_below HF.out.b _ _ _) _ _ _⟩
set_option maxRecDepth 100000 in
set_option maxHeartbeats 2000000 in
theorem scan_iw (s : ByteArray) (w : World) (h : VE w) (h0 : Lib.hasPrefix s.data.toList [34] = false) (h1 : Lib.hasPrefix s.data.toList [120, 39] = false) (h2 : Lib.hasPrefix s.data.toList [116, 114, 117, 101] = false) (h3 : Lib.hasPrefix s.data.toList [102, 97, 108, 115, 101] = false) (k n : Int) (S R : ByteArray) (e : Int)
    (HC : Hid (∀ w, VE w → Calls Tryz.prog 134 #[.string s] w fun e0 w' => e0 = .returned (.tuple #[vv k n S, .string R, .int .i64 e]) ∧ Below w.heap.size w w')) :
    Calls Tryz.prog 102 #[.string s] w fun e0 w' => e0 = .returned (scW k n S R e) ∧ Below w.heap.size w w' := by
  by_cases he : e = 0
  · subst he
    rw [show scW k n S R 0 = .tuple #[vv k n S, .string R, .int .i64 0] from rfl]
    go_enter Tryz.func102, Tryz.ntmps102
    go_wp2_with fail
    refine (Tryz.strings_HasPrefix _ _ _).mono ?_
    rintro e0 w1 ⟨rfl, rfl⟩
    rw [show (⟨#[34]⟩ : ByteArray).data.toList = [34] from rfl, h0]
    go_wp2_with fail
    refine (Tryz.strings_HasPrefix _ _ _).mono ?_
    rintro e0 w1 ⟨rfl, rfl⟩
    rw [show (⟨#[120, 39]⟩ : ByteArray).data.toList = [120, 39] from rfl, h1]
    go_wp2_with fail
    refine (Tryz.strings_HasPrefix _ _ _).mono ?_
    rintro e0 w1 ⟨rfl, rfl⟩
    rw [show (⟨#[116, 114, 117, 101]⟩ : ByteArray).data.toList = [116, 114, 117, 101] from rfl, h2]
    go_wp2_with fail
    refine (Tryz.strings_HasPrefix _ _ _).mono ?_
    rintro e0 w1 ⟨rfl, rfl⟩
    rw [show (⟨#[102, 97, 108, 115, 101]⟩ : ByteArray).data.toList = [102, 97, 108, 115, 101] from rfl, h3]
    go_wp2_with fail
    refine (HC.out _ (h.below (wv_below w))).mono ?_
    rintro e0 w2 ⟨rfl, hb2⟩
    have HF : Hid (Fr w w2) := Fr.of hb2
    obtain ⟨⟨d0, d1, d2, f0, f1, f2⟩, -⟩ := HF.out
    clear hb2
    go_wp2
    try simp only [Exit.inBlock, Exit.then]
    exact bodyPost_ret (results_v3 rfl _ _ w.heap.size rfl ((HF.out.z.three.set _ _ _).set _ _ _)) rfl ⟨rfl, set3_below (set3_below HF.out.b _ _ _) _ _ _⟩
  · rw [show scW k n S R e = .tuple #[v0, .string ⟨#[]⟩, .int .i64 e] from if_neg he]
    have he' : (e != 0) = true := by rw [bne_iff_ne]; exact he
    clear he
    go_enter Tryz.func102, Tryz.ntmps102
    go_wp2_with fail
    refine (Tryz.strings_HasPrefix _ _ _).mono ?_
    rintro e0 w1 ⟨rfl, rfl⟩
    rw [show (⟨#[34]⟩ : ByteArray).data.toList = [34] from rfl, h0]
    go_wp2_with fail
    refine (Tryz.strings_HasPrefix _ _ _).mono ?_
    rintro e0 w1 ⟨rfl, rfl⟩
    rw [show (⟨#[120, 39]⟩ : ByteArray).data.toList = [120, 39] from rfl, h1]
    go_wp2_with fail
    refine (Tryz.strings_HasPrefix _ _ _).mono ?_
    rintro e0 w1 ⟨rfl, rfl⟩
    rw [show (⟨#[116, 114, 117, 101]⟩ : ByteArray).data.toList = [116, 114, 117, 101] from rfl, h2]
    go_wp2_with fail
    refine (Tryz.strings_HasPrefix _ _ _).mono ?_
    rintro e0 w1 ⟨rfl, rfl⟩
    rw [show (⟨#[102, 97, 108, 115, 101]⟩ : ByteArray).data.toList = [102, 97, 108, 115, 101] from rfl, h3]
    go_wp2_with fail
    refine (HC.out _ (h.below (wv_below w))).mono ?_
    rintro e0 w2 ⟨rfl, hb2⟩
    have HF : Hid (Fr w w2) := Fr.of hb2
    obtain ⟨⟨d0, d1, d2, f0, f1, f2⟩, -⟩ := HF.out
    clear hb2
    go_wp2
    try simp only [Exit.inBlock, Exit.then]
    exact bodyPost_ret (results_v3 rfl _ _ w.heap.size rfl ((HF.out.z.three.set _ _ _).set _ _ _)) rfl ⟨rfl, set3_below (set3_below HF.out.b _ _ _) _ _ _⟩
theorem scan_any (s : ByteArray) (w : World) (hs : s.size ≤ 1000000) (h : VE w) :
    Calls Tryz.prog 102 #[.string s] w fun e w' => e = .returned (scV (scn s.data.toList)) ∧ Below w.heap.size w w' := by
  have hx : ∀ m, m ≤ s.size → (s.extract m s.size).size ≤ 1000000 := fun m hm => by rw [ByteArray.size_extract]; omega
  have fin : ∀ (x : Sc), scn s.data.toList = x → (Calls Tryz.prog 102 #[.string s] w fun e0 w' => e0 = .returned (scW x.k x.n (str x.s) (str x.r) x.e) ∧ Below w.heap.size w w') → Calls Tryz.prog 102 #[.string s] w fun e w' => e = .returned (scV (scn s.data.toList)) ∧ Below w.heap.size w w' := fun x hx hc => by
    subst hx
    rw [scW_is (bad_or _)] at hc
    exact hc
  by_cases h0 : Lib.hasPrefix s.data.toList [34] = true
  · have hz := pre_len h0
    rw [← Lib.size_eq] at hz
    refine fin (scT (s.data.toList.drop 1)) (by unfold scn; rw [if_pos h0]) (scan_qw s w h h0 hz _ _ _ _ _ fun w hw => ?_)
    rw [← sub_list]
    exact scanText_any _ w (hx 1 hz) hw.u hw.t hw.e
  have h0' : Lib.hasPrefix s.data.toList [34] = false := by simpa using h0
  by_cases h1 : Lib.hasPrefix s.data.toList [120, 39] = true
  · have hz := pre_len h1
    rw [← Lib.size_eq] at hz
    refine fin (scX (s.data.toList.drop 2)) (by unfold scn; rw [if_neg h0, if_pos h1]) (scan_xw s w h h0' h1 hz _ _ _ _ _ fun w hw => ?_)
    rw [← sub_list]
    exact scanBytes_any _ w (hx 2 hz) hw.m
  have h1' : Lib.hasPrefix s.data.toList [120, 39] = false := by simpa using h1
  by_cases h2 : Lib.hasPrefix s.data.toList [116, 114, 117, 101] = true
  · have hz := pre_len h2
    rw [← Lib.size_eq] at hz
    refine fin (scB 1 (s.data.toList.drop 4)) (by unfold scn; rw [if_neg h0, if_neg h1, if_pos h2]) (scan_tw s w h h0' h1' h2 hz _ _ _ _ _ fun w hw => ?_)
    rw [← sub_list]
    exact scanBool_any 1 _ w hw.u
  have h2' : Lib.hasPrefix s.data.toList [116, 114, 117, 101] = false := by simpa using h2
  by_cases h3 : Lib.hasPrefix s.data.toList [102, 97, 108, 115, 101] = true
  · have hz := pre_len h3
    rw [← Lib.size_eq] at hz
    refine fin (scB 0 (s.data.toList.drop 5)) (by unfold scn; rw [if_neg h0, if_neg h1, if_neg h2, if_pos h3]) (scan_fw s w h h0' h1' h2' h3 hz _ _ _ _ _ fun w hw => ?_)
    rw [← sub_list]
    exact scanBool_any 0 _ w hw.u
  have h3' : Lib.hasPrefix s.data.toList [102, 97, 108, 115, 101] = false := by simpa using h3
  refine fin (scI (Lib.hasPrefix s.data.toList [45]) (Lib.trimPrefix s.data.toList [45])) ?_ (scan_iw s w h h0' h1' h2' h3' _ _ _ _ _ fun w hw => scanInt_any s w hs)
  unfold scn
  rw [if_neg h0, if_neg h1, if_neg h2, if_neg h3]
  unfold Lib.trimPrefix
  cases hp : Lib.hasPrefix s.data.toList [45]
  · rfl
  · rfl
end Go.Proofs.YtbekpemidpngaaaGreatDoor.V
