/- value.scanBytes where the digits are even: its walk. -/
import Derived.Test.YtdendpckihckeaaGreatDoorZb7
import Derived.Test.YtdendpckihckeaaGreatDoorZb5
import Derived.Test.YtdendpckihckeaaGreatDoorZb1
namespace Go.Proofs.YtdendpckihckeaaGreatDoor
open Go.RowKit

/-- Where a byte stands among the digits. -/
def hxI (b : Nat) : Int := Lib.indexByte HX.data.toList b.toUInt8
theorem hxI_d : ∀ n : Fin 256, hxI n.val = match hxd (UInt8.ofNat n.val) with | some x => (x : Int) | none => -1 := by decide +kernel
theorem hxI_some {b : UInt8} {x : Nat} (h : hxd b = some x) : hxI b.toNat = x := by
  have := hxI_d ⟨b.toNat, UInt8.toNat_lt b⟩
  simp only [UInt8.ofNat_toNat, h] at this
  exact this
theorem hxI_none {b : UInt8} (h : hxd b = none) : hxI b.toNat = -1 := by
  have := hxI_d ⟨b.toNat, UInt8.toNat_lt b⟩
  simp only [UInt8.ofNat_toNat, h] at this
  exact this
theorem idx_any (c : Int) (b : Nat) (w : World) (hc : c = (b : Int)) : Calls Tryz.prog 60 #[.string HX, .int .u8 c] w fun e w' => e = .returned (.int .i64 (hxI b)) ∧ w' = w := by
  subst hc
  exact Tryz.strings_IndexByte HX (b : Int) w
theorem mkN (n : Nat) (W : World) (hn : n ≤ 1000000) : (Instr.makeSlice 85 (.int .i64 (n : Int)) (.int .i64 (n : Int))).run Tryz.prog W = .ok (.slice (some ⟨W.heap.size, 0, none⟩) n n) (W.alloc (.cells (madeCells (Value.int .u8 0).cells n) 5)) := by
  obtain ⟨i0, hi, hz0, hz1, hz2⟩ := info_parts info_u8
  have := run_makeSlice (P := Tryz.prog) W 85 5 i0 _ Tryz.underlying85 hi hz0 .i64 .i64 n n (by omega) (by omega) (by rw [hz1]; omega) (by rw [hz2]; omega) (by omega)
  rw [hz1] at this
  simpa using this
theorem mkN_cell (n j : Nat) (W : World) (h : j < n) : (W.alloc (.cells (madeCells (Value.int .u8 0).cells n) 5)).cell? ⟨W.heap.size, j, none⟩ = some (.int .u8 0) := by
  have hs : (madeCells (Value.int .u8 0).cells n).size = n := size_madeCells _ _
  have : (madeCells (Value.int .u8 0).cells n)[j]? = some (.int .u8 0) := by
    rw [Array.getElem?_eq_getElem (by omega)]
    simp [madeCells, Value.cells, Nat.mod_one]
  simp [this]
theorem Three.drew {b : Nat} {W : World} {x y z : Value} (h : Three b W x y z) : Three b W.drew x y z := ⟨h.c0, h.c1, h.c2⟩
theorem orr : ∀ x y : Fin 16, bits BinOp.or IntKind.i64 ((x.val : Int) * 16) (y.val : Int) = ((16 * x.val + y.val : Nat) : Int) := by decide +kernel
/-- What holds of scanBytes' loop at every round. -/
def SbRl (D : List UInt8) (n g : Nat) (w : World) (i : Value) (wr : World) : Prop :=
  ∃ (k : Nat) (acc : List UInt8), k ≤ n ∧ i = .int .i64 k ∧ acc.length = k ∧ (∀ j, j < n → wr.cell? ⟨g, j, none⟩ = some (.int .u8 ((acc.getD j 0).toNat : Int))) ∧ (∀ j, wr.frozen? ⟨g, j, none⟩ = false) ∧ Fr w wr ∧ (hxp (D.drop (2 * k))).map (acc ++ ·) = hxp D
theorem getD_snoc (acc : List UInt8) (b : UInt8) (j : Nat) : (acc ++ [b]).getD j 0 = if j = acc.length then b else acc.getD j 0 := by
  by_cases h : j < acc.length
  · rw [if_neg (by omega), List.getD_eq_getElem?_getD, List.getElem?_append_left h, List.getD_eq_getElem?_getD]
  · by_cases e : j = acc.length
    · rw [if_pos e, List.getD_eq_getElem?_getD, List.getElem?_append_right (by omega), e]
      simp
    · rw [if_neg e, List.getD_eq_getElem?_getD, List.getElem?_append_right (by omega), List.getElem?_eq_none (by simp; omega), List.getD_eq_getElem?_getD, List.getElem?_eq_none (by omega)]
theorem Sb_put {D : List UInt8} {n g k : Nat} {w wr : World} {acc : List UInt8} {x y : Nat} (hg : w.heap.size < g) (hk : k < n) (hl : acc.length = k) (hc : ∀ j, j < n → wr.cell? ⟨g, j, none⟩ = some (.int .u8 ((acc.getD j 0).toNat : Int))) (hf : ∀ j, wr.frozen? ⟨g, j, none⟩ = false) (hF : Fr w wr) (hx : x < 16) (hy : y < 16)
    (hX : (hxp (D.drop (2 * (k + 1)))).map ((acc ++ [UInt8.ofNat (16 * x + y)]) ++ ·) = hxp D) :
    SbRl D n g w (.int .i64 ((k + 1 : Nat) : Int)) (wr.setCell ⟨g, k, none⟩ (.int .u8 ((16 * x + y : Nat) : Int))) := by
  have ht : (UInt8.ofNat (16 * x + y)).toNat = 16 * x + y := toNat_of (by omega)
  refine ⟨k + 1, acc ++ [UInt8.ofNat (16 * x + y)], by omega, rfl, by simp [hl], fun j hj => ?_, fun j => by simpa using hf j, ⟨?_, hF.b.setCell (p := ⟨g, k, none⟩) (Nat.le_of_lt hg) _⟩, hX⟩
  · rw [getD_snoc, hl]
    by_cases e : j = k
    · subst e
      rw [if_pos rfl, ht, World.cell?_setCell_same _ _ _ (hc j hj)]
    · rw [if_neg e, World.cell?_setCell_other _ _ _ _ (fun h => e (congrArg Addr.off h).symm)]
      exact hc j hj
  · obtain ⟨a, b, c, f0, f1, f2⟩ := hF.z
    have o : ∀ j, (⟨g, k, none⟩ : Addr) ≠ ⟨w.heap.size, j, none⟩ := fun j e => by have h1 : g = w.heap.size := congrArg Addr.block e; omega
    exact ⟨by rw [World.cell?_setCell_other _ _ _ _ (o 0)]; exact a, by rw [World.cell?_setCell_other _ _ _ _ (o 1)]; exact b, by rw [World.cell?_setCell_other _ _ _ _ (o 2)]; exact c, by simpa using f0, by simpa using f1, by simpa using f2⟩
theorem Sb_drew {D : List UInt8} {n g : Nat} {w wr : World} {i : Value} (h : SbRl D n g w i wr) : SbRl D n g w i wr.drew := by
  obtain ⟨k, acc, a, b, c, d, e, f, x⟩ := h
  exact ⟨k, acc, a, b, c, d, e, ⟨f.z.below (B := w.heap.size + 1) (Below.drew (Below.refl _ _)) (by omega), f.b.drew⟩, x⟩
theorem nums_str (acc : List UInt8) : strOfNums (acc.map fun b => (b.toNat : Int)) = str acc := by
  unfold strOfNums str
  rw [List.map_map]
  refine congrArg (fun l : List UInt8 => (⟨l.toArray⟩ : ByteArray)) ?_
  conv => rhs; rw [← List.map_id acc]
  apply List.map_congr_left
  intro b _
  simp
theorem conv_bytes (w : World) (g n : Nat) (acc : List UInt8) (hl : acc.length = n) (hc : ∀ j, j < n → w.cell? ⟨g, j, none⟩ = some (.int .u8 ((acc.getD j 0).toNat : Int))) : (convert 85 9 (.slice (some ⟨g, 0, none⟩) n n)).run Tryz.prog w = .ok (.string (str acc)) w := by
  have := run_convert_bytes_arg (P := Tryz.prog) w 85 5 Tryz.underlying85 Tryz.underlying5 g 0 n n (acc.map fun b => (b.toNat : Int)) (by simp [hl]) (fun i hi => by
    rw [Nat.zero_add, hc i hi, List.getD_eq_getElem?_getD, List.getD_eq_getElem?_getD, List.getElem?_map, List.getElem?_eq_getElem (by omega)]
    rfl) 9 Tryz.underlying9
  rw [this]
  rw [nums_str]
set_option maxRecDepth 100000 in
set_option maxHeartbeats 4000000 in
theorem scanBytes_even (s : ByteArray) (w : World) (D R : List UInt8) (n : Nat) (hs : s.size ≤ 1000000) (hM : ML w) (hl : s.data.toList = D ++ 39 :: R) (h : 39 ∉ D) (hn : D.length = 2 * n) :
    Calls Tryz.prog 29 #[.string s] w fun e w' => e = .returned (scV (scX s.data.toList)) ∧ Below w.heap.size w w' := by
  have HX : Hid (scX s.data.toList = match (hxp D).map fun b => (b, R) with | none => .bad 3 | some p => if 200 < p.1.length then .bad 2 else ⟨4, 0, p.1, p.2, 0⟩) := by show _ = _; unfold scX; rw [hl, hxs_app _ _ h]; cases hxp D <;> rfl
  have HC : Hid (∀ w, ML w → Calls Tryz.prog 59 #[.string s, .string ⟨#[39]⟩] w fun e w' => e = .returned (.tuple #[.string (str D), .string (str R), .bool true]) ∧ Below w.heap.size w w') := fun w hM => cutCall s _ _ _ w hs hM (by rw [hl]; exact cut_yes h)
  have hz : (str D).size = 2 * n := by rw [str_size]; exact hn
  have hn1 : n ≤ 1000000 := by have := Lib.size_eq s; rw [hl, List.length_append] at this; omega
  have HG : Hid (∀ j, j < D.length → gN (str D) j = (D.getD j 0).toNat) := fun j hj => gN_str D j hj
  have h1 : (((str D).size : Int) % 2 != 0) = false := by rw [bne_eq_false_iff_eq, hz]; omega
  have h2 : ((str D).size : Int) / 2 = n := by rw [hz]; omega
  have HN : Hid (D.length = 2 * n) := hn
  have HZ : Hid ((str D).size = 2 * n) := hz
  generalize str D = E at *
  clear h hl hz hn
  go_enter Tryz.func29, Tryz.ntmps29
  go_wp2_with fail
  refine (HC.out _ (ML_below hM (wv_below w))).mono ?_
  rintro e w1 ⟨rfl, hb1⟩
  have HF : Hid (Fr w w1) := Fr.of hb1
  have hlt : w.heap.size < w1.heap.size := by have := hb1.size; simp at this; omega
  clear hb1
  go_wp2
  rw [mkN n _ hn1]
  have HA : Hid (SbRl D n w1.heap.size w (.int .i64 ((0 : Nat) : Int)) (w1.alloc (.cells (madeCells (Value.int .u8 0).cells n) 5))) := by
    have hA := (Below.refl w1.heap.size w1).alloc (Nat.le_refl _) (.cells (madeCells (Value.int .u8 0).cells n) 5)
    refine ⟨0, [], Nat.zero_le _, rfl, rfl, fun j hj => by rw [mkN_cell n j w1 hj]; rfl, fun j => by simp, ⟨HF.out.z.below hA hlt, HF.out.b.alloc (by omega) _⟩, ?_⟩
    show (hxp (D.drop 0)).map ([] ++ ·) = hxp D
    rw [List.drop_zero]
    cases hxp D <;> rfl
  generalize w1.alloc (.cells (madeCells (Value.int .u8 0).cells n) 5) = w2 at *
  generalize w1.heap.size = g at *
  go_wp2_with fail
  go_loopw [3, 4, 32] (fun r e i wr => r = .string (str R) ∧ e = .int .i64 0 ∧ SbRl D n g w i wr) (fun _ _ i _ => n - (RowKit.intOf i).toNat)
  case atStart => exact ⟨rfl, rfl, HA.out⟩
  case round =>
    obtain ⟨rfl, rfl, k, acc, hk, rfl, hal, hc, hf, hFr, hck⟩ := hrel
    have HL : Hid (acc.length = k) := hal
    have HCK : Hid ((hxp (D.drop (2 * k))).map (acc ++ ·) = hxp D) := hck
    have HFr : Hid (Fr w wr) := hFr
    have HCC : Hid (∀ j, j < n → wr.cell? ⟨g, j, none⟩ = some (.int .u8 ((acc.getD j 0).toNat : Int))) := hc
    have HFF : Hid (∀ j, wr.frozen? ⟨g, j, none⟩ = false) := hf
    obtain ⟨⟨d0, d1, d2, f0, f1, f2⟩, -⟩ := HFr.out
    clear hal hck hFr hc hf
    by_cases hkn : k < n
    · have hki : (k : Int) < n := by omega
      have hD2 : 2 * k + 1 < D.length := by rw [HN.out]; omega
      have hdrop : D.drop (2 * k) = D.getD (2 * k) 0 :: D.getD (2 * k + 1) 0 :: D.drop (2 * (k + 1)) := by
        rw [List.drop_eq_getElem_cons (by omega), List.drop_eq_getElem_cons hD2, List.getD_eq_getElem?_getD, List.getElem?_eq_getElem (by omega), List.getD_eq_getElem?_getD, List.getElem?_eq_getElem hD2]
        rfl
      have hE2 : 2 * k + 1 < E.size := by rw [HZ.out]; omega
      have g1 := gN_of E (2 * k) (by omega)
      have g2 := gN_of E (2 * k + 1) hE2
      rw [HG.out (2 * k) (by omega)] at g1
      rw [HG.out (2 * k + 1) hD2] at g2
      have e2 : 2 * (k : Int) < E.size := by omega
      have e3 : 2 * (k : Int) + 1 < E.size := by omega
      generalize D.getD (2 * k) 0 = a at *
      generalize D.getD (2 * k + 1) 0 = b at *
      have ha := UInt8.toNat_lt a
      have hb := UInt8.toNat_lt b
      have q1 : IntKind.i64.wrap (2 * (k : Int)) = ((2 * k : Nat) : Int) := by rw [IntKind.wrap_i64]; omega
      have q2 : IntKind.i64.wrap (((2 * k : Nat) : Int) + 1) = ((2 * k + 1 : Nat) : Int) := by rw [IntKind.wrap_i64]; omega
      have q3 : IntKind.i64.wrap (2 * (k : Int) + 1) = ((2 * k + 1 : Nat) : Int) := by rw [IntKind.wrap_i64]; omega
      have HD : Hid (D.drop (2 * k) = a :: b :: D.drop (2 * (k + 1))) := hdrop
      clear hdrop hD2
      have v1 : ∀ p : (2 * (k : Int)).toNat < E.size, hxI (E[(2 * (k : Int)).toNat]'p).toNat = hxI a.toNat := fun p => by
        have e : (2 * (k : Int)).toNat = 2 * k := by omega
        have := g1
        simp only [e]
        rw [this]
      have v2 : ∀ p : (2 * (k : Int) + 1).toNat < E.size, hxI (E[(2 * (k : Int) + 1).toNat]'p).toNat = hxI b.toNat := fun p => by
        have e : (2 * (k : Int) + 1).toNat = 2 * k + 1 := by omega
        have := g2
        simp only [e]
        rw [this]
      clear g1 g2
      have fail3 : hxd a = none ∨ hxd b = none → Hid (scX s.data.toList = .bad 3) := by
        intro h
        have hn : hxp (D.drop (2 * k)) = none := by
          rw [HD.out]
          unfold hxp
          rcases h with h | h
          · rw [h]
          · rw [h]; cases hxd a <;> rfl
        have := HCK.out
        rw [hn] at this
        have h3 : hxp D = none := this.symm
        show _ = _
        rw [HX.out, h3]
        rfl
      cases hxa : hxd a with
      | none =>
        have HX3 := fail3 (.inl hxa)
        rw [hxI_none hxa] at v1
        clear fail3 hxa HD HX
        go_wp2
        go_region_held3 (fun w' => True) (trivial) (first | (go_at_call 60; refine (idx_any _ _ _ rfl).mono ?_; rintro e w' ⟨rfl, rfl⟩))
        all_goals (try simp only [v1, v2])
        all_goals go_wp2
        all_goals (try simp only [Exit.inBlock, Exit.then])
        all_goals exact bodyPost_ret (results_v3 rfl _ _ w.heap.size rfl (Three.drew (HFr.out.z.three.set _ _ _))) rfl ⟨by rw [HX3.out]; rfl, (set3_below HFr.out.b _ _ _).drew⟩
      | some x =>
        have hx16 := hxd_lt hxa
        cases hxb : hxd b with
        | none =>
          have HX3 := fail3 (.inr hxb)
          rw [hxI_some hxa] at v1
          rw [hxI_none hxb] at v2
          clear fail3 hxa hxb HD HX
          go_wp2
          go_region_held3 (fun w' => True) (trivial) (first | (go_at_call 60; refine (idx_any _ _ _ rfl).mono ?_; rintro e w' ⟨rfl, rfl⟩))
          all_goals (try simp only [v1, v2])
          all_goals go_wp2
          all_goals (try simp only [Exit.inBlock, Exit.then])
          all_goals exact bodyPost_ret (results_v3 rfl _ _ w.heap.size rfl (Three.drew (HFr.out.z.three.set _ _ _))) rfl ⟨by rw [HX3.out]; rfl, (set3_below HFr.out.b _ _ _).drew⟩
        | some y =>
          have hy16 := hxd_lt hxb
          have HX2 : Hid ((hxp (D.drop (2 * (k + 1)))).map ((acc ++ [UInt8.ofNat (16 * x + y)]) ++ ·) = hxp D) := by
            show _ = _
            rw [← HCK.out, HD.out]
            conv => rhs; unfold hxp
            rw [hxa, hxb]
            cases hxp (D.drop (2 * (k + 1))) <;> simp
          rw [hxI_some hxa] at v1
          rw [hxI_some hxb] at v2
          have cg := HCC.out k hkn
          have fg := HFF.out k
          have hor := orr ⟨x, hx16⟩ ⟨y, hy16⟩
          simp only at hor
          have HP : Hid (SbRl D n g w (.int .i64 ((k + 1 : Nat) : Int)) (wr.setCell ⟨g, k, none⟩ (.int .u8 ((16 * x + y : Nat) : Int)))) := Sb_put hlt hkn HL.out HCC.out HFF.out HFr.out hx16 hy16 HX2.out
          clear fail3 hxa hxb HD HX
          go_wp2
          go_region_held3 (fun w' => True) (trivial) (first | (go_at_call 60; refine (idx_any _ _ _ rfl).mono ?_; rintro e w' ⟨rfl, rfl⟩))
          all_goals (try simp only [v1, v2])
          all_goals go_wp2
          all_goals
            refine ⟨⟨rfl, rfl, Sb_drew ?_⟩, by simp [RowKit.intOf]; omega⟩
            have hp := HP.out
            push_cast at hp
            exact hp
    · obtain rfl : k = n := by omega
      have hfin : hxp D = some acc := by
        rw [← HCK.out, List.drop_eq_nil_of_le (by rw [HN.out]; exact Nat.le_refl _)]
        simp [hxp]
      have hE2 : scX s.data.toList = if 200 < acc.length then .bad 2 else ⟨4, 0, acc, R, 0⟩ := by
        rw [HX.out, hfin]
        rfl
      rw [HL.out] at hE2
      by_cases h200 : 200 < k
      · have HX3 : Hid (scX s.data.toList = .bad 2) := hE2.trans (if_pos h200)
        have d200 : decide ((200 : Int) < k) = true := by simp; omega
        clear hE2 hfin HX
        go_wp2
        try simp only [Exit.inBlock, Exit.then]
        exact bodyPost_ret (results_v3 rfl _ _ w.heap.size rfl (HFr.out.z.three.set _ _ _)) rfl ⟨by rw [HX3.out]; rfl, set3_below HFr.out.b _ _ _⟩
      · have HX3 : Hid (scX s.data.toList = ⟨4, 0, acc, R, 0⟩) := hE2.trans (if_neg h200)
        have d200 : decide ((200 : Int) < k) = false := by simp; omega
        have hcv := conv_bytes wr g k acc HL.out HCC.out
        clear hE2 hfin HX
        go_wp2
        try simp only [Exit.inBlock, Exit.then]
        exact bodyPost_ret (results_v3 rfl _ _ w.heap.size rfl (HFr.out.z.three.set _ _ _)) rfl ⟨by rw [HX3.out]; rfl, set3_below HFr.out.b _ _ _⟩
theorem scanBytes_any (s : ByteArray) (w : World) (hs : s.size ≤ 1000000) (hM : ML w) :
    Calls Tryz.prog 29 #[.string s] w fun e w' => e = .returned (scV (scX s.data.toList)) ∧ Below w.heap.size w w' := by
  by_cases h : 39 ∈ s.data.toList
  · obtain ⟨D, R, h1, h2⟩ := split_at _ _ h
    by_cases ho : D.length % 2 = 0
    · exact scanBytes_even s w D R (D.length / 2) hs hM h1 h2 (by omega)
    · exact scanBytes_odd s w D R hs hM h1 h2 ho
  · exact scanBytes_no s w hs hM h
end Go.Proofs.YtdendpckihckeaaGreatDoor
/- name.within, Letter, Small, begins, Hash: walks. -/
namespace Go.Proofs.YtdendpckihckeaaGreatDoor
open Go.RowKit

def inR (c lo hi : Int) : Bool := decide (lo ≤ c ∧ c ≤ hi)
theorem within_any (c lo hi : Int) (w : World) :
    Calls Tryz.prog 116 #[.int .i32 c, .int .i32 lo, .int .i32 hi] w fun e w' => e = .returned (.bool (inR c lo hi)) ∧ w' = w := by
  go_enter Tryz.func116, Tryz.ntmps116
  by_cases h1 : lo ≤ c
  · have hd : decide (lo ≤ c) = true := by simpa using h1
    go_wp2
    go_ret
    refine ⟨?_, rfl⟩
    simp [inR, h1]
  · have hd : decide (lo ≤ c) = false := by simpa using h1
    go_wp2
    go_ret
    refine ⟨?_, rfl⟩
    have : inR c lo hi = false := by simp only [inR, decide_eq_false_iff_not]; omega
    rw [this]
    rfl

def letterZ (c : Int) : Bool := decide ((65 ≤ c ∧ c ≤ 90) ∨ (97 ≤ c ∧ c ≤ 122) ∨ (192 ≤ c ∧ c ≤ 591 ∧ c ≠ 215 ∧ c ≠ 247) ∨ (913 ≤ c ∧ c ≤ 937 ∧ c ≠ 930) ∨ (945 ≤ c ∧ c ≤ 969) ∨ (1040 ≤ c ∧ c ≤ 1103) ∨ (19968 ≤ c ∧ c ≤ 40959))
def bigZ (c : Int) : Bool := decide ((65 ≤ c ∧ c ≤ 90) ∨ (192 ≤ c ∧ c ≤ 222 ∧ c ≠ 215) ∨ (913 ≤ c ∧ c ≤ 937 ∧ c ≠ 930) ∨ (1040 ≤ c ∧ c ≤ 1071))
def smallZ (c : Int) : Int := if bigZ c then c + 32 else c

set_option maxHeartbeats 1000000 in
theorem letter_any (c : Int) (w : World) :
    Calls Tryz.prog 92 #[.int .i32 c] w fun e w' => e = .returned (.bool (letterZ c)) ∧ w' = w := by
  go_enter Tryz.func92, Tryz.ntmps92
  go_wp2_with (go_at_call 116; refine (within_any _ _ _ _).mono ?_; rintro e w' ⟨rfl, rfl⟩)
  all_goals go_ret
  all_goals refine ⟨?_, rfl⟩
  all_goals refine congrArg (fun b => Ending.returned (Value.bool b)) ?_
  all_goals (rw [Bool.eq_iff_iff]; try simp only [inR, decide_eq_true_eq, decide_eq_false_iff_not, beq_iff_eq, beq_eq_false_iff_ne, ne_eq] at *)
  all_goals (simp only [letterZ, Bool.false_eq_true, decide_eq_true_eq, true_iff, false_iff]; omega)

set_option maxHeartbeats 1000000 in
theorem small_any (c : Int) (w : World) (h1 : -2147483648 ≤ c) (h2 : c ≤ 2147483647) :
    Calls Tryz.prog 140 #[.int .i32 c] w fun e w' => e = .returned (.int .i32 (smallZ c)) ∧ w' = w := by
  by_cases hb : bigZ c = true
  · have hs : smallZ c = c + 32 := if_pos hb
    have hc1 : (65 : Int) ≤ c := by simp only [bigZ, decide_eq_true_eq] at hb; omega
    have hc2 : c ≤ (1071 : Int) := by simp only [bigZ, decide_eq_true_eq] at hb; omega
    have HB : Hid (bigZ c = true) := hb
    clear hb
    rw [hs]
    go_enter Tryz.func140, Tryz.ntmps140
    go_wp2_with (go_at_call 116; refine (within_any _ _ _ _).mono ?_; rintro e w' ⟨rfl, rfl⟩)
    all_goals go_ret
    all_goals refine ⟨?_, rfl⟩
    all_goals first
      | rfl
      | (exfalso; have hb := HB.out; simp only [bigZ, inR, decide_eq_true_eq, decide_eq_false_iff_not, beq_iff_eq, beq_eq_false_iff_ne, ne_eq] at *; omega)
  · have hs : smallZ c = c := if_neg hb
    have HB : Hid (¬ bigZ c = true) := hb
    clear hb
    rw [hs]
    go_enter Tryz.func140, Tryz.ntmps140
    go_wp2_with (go_at_call 116; refine (within_any _ _ _ _).mono ?_; rintro e w' ⟨rfl, rfl⟩)
    all_goals go_ret
    all_goals refine ⟨?_, rfl⟩
    all_goals first
      | rfl
      | (exfalso; have hb := HB.out; simp only [bigZ, inR, decide_eq_true_eq, decide_eq_false_iff_not, beq_eq_false_iff_ne, ne_eq] at *; omega)

def beginsZ (c : Int) : Bool := c == 95 || letterZ c
theorem letterZ_nat (c : Nat) : letterZ (c : Int) = letterN c := by
  rw [Bool.eq_iff_iff]; simp only [letterZ, letterN, decide_eq_true_eq]; omega
theorem bigZ_nat (c : Nat) : bigZ (c : Int) = bigN c := by
  rw [Bool.eq_iff_iff]; simp only [bigZ, bigN, decide_eq_true_eq]; omega
theorem smallZ_nat (c : Nat) : smallZ (c : Int) = (smallN c : Nat) := by
  unfold smallZ smallN
  rw [bigZ_nat]
  split <;> simp
theorem beginsZ_nat (c : Nat) : beginsZ (c : Int) = beginsN c := by
  unfold beginsZ beginsN
  rw [letterZ_nat]
  congr 1
  rw [Bool.eq_iff_iff]; simp only [beq_iff_eq]; omega
end Go.Proofs.YtdendpckihckeaaGreatDoor
