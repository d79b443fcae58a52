/- value.scanInt at any text: its walk. -/
import Derived.Test.YtbekpemidpngaaaGreatDoorZk18
import Derived.Test.YtbekpemidpngaaaGreatDoorZk7
import Derived.Test.YtbekpemidpngaaaGreatDoorZk10
import Derived.Test.YtbekpemidpngaaaGreatDoorZk19
import Derived.Lib.IndexBytes
namespace Go.Proofs.YtbekpemidpngaaaGreatDoor.V
open Go.RowKit

/-- What scanning a literal hands back. -/
def scV (x : Sc) : Value := .tuple #[vv x.k x.n (str x.s), .string (str x.r), .int .i64 x.e]
theorem trim_digs (l : List UInt8) : Lib.trimLeftS l (⟨#[48, 49, 50, 51, 52, 53, 54, 55, 56, 57]⟩ : ByteArray).data.toList = l.dropWhile isD := by
  unfold Lib.trimLeftS
  congr 1
  funext b
  exact (isD_mem b).symm
theorem ext_str (s : ByteArray) (m : Nat) : s.extract 0 m = str (s.data.toList.take m) := ba_eq (by rw [str_data, Lib.extract_data]; simp)
theorem ext_from (s : ByteArray) (m : Nat) : s.extract m s.size = str (s.data.toList.drop m) := ba_eq (by
  rw [str_data, Lib.extract_data]
  apply List.take_of_length_le
  rw [List.length_drop, Array.length_toList]
  exact Nat.le_refl _)
theorem digs_len (l : List UInt8) : l.length = (digs l).length + (l.dropWhile isD).length := by
  conv => lhs; rw [← digs_app l]
  rw [List.length_append]
theorem digs_take (l : List UInt8) : l.take (digs l).length = digs l := by
  conv => lhs; rw [← digs_app l]
  rw [List.take_left' (by rw [digs_app])]
theorem gN_str (l : List UInt8) (i : Nat) (h : i < l.length) : gN (str l) i = (l.getD i 0).toNat := by
  have hs : i < (str l).size := by rw [str_size]; exact h
  rw [← gN_of (str l) i hs]
  show ((l.toArray)[i]'_).toNat = _
  rw [List.getD_eq_getElem?_getD, List.getElem?_eq_getElem h]
  rfl
theorem head_getD {l : List UInt8} (h : l ≠ []) : l.head? = some (l.getD 0 0) := by
  cases l with
  | nil => exact absurd rfl h
  | cons b t => rfl
/-- The frame of a scanner behind its calls: the result's cells, and what was there before. -/
structure Fr (w w2 : World) : Prop where
  z : Zero w.heap.size w2
  b : Below w.heap.size w w2
theorem Fr.of {w w2 : World} (hb : Below (wv w).heap.size (wv w) w2) : Fr w w2 := ⟨(Zero.new w).below hb (by simp), (wv_below w).trans (hb.mono (by simp))⟩
set_option maxRecDepth 100000 in
set_option maxHeartbeats 4000000 in
theorem scanInt_any (s : ByteArray) (w : World) (hs : s.size ≤ 1000000) :
    Calls Tryz.prog 134 #[.string s] w fun e w' => e = .returned (scV (scI (Lib.hasPrefix s.data.toList [45]) (Lib.trimPrefix s.data.toList [45]))) ∧ Below w.heap.size w w' := by
  have hTl : (Lib.trimPrefix s.data.toList [45]).length ≤ 1000000 := by
    unfold Lib.trimPrefix
    split
    · rw [List.length_drop, ← Lib.size_eq]; omega
    · rw [← Lib.size_eq]; exact hs
  have HCP : Hid (∀ w : World, Calls Tryz.prog 159 #[.string s, .string ⟨#[45]⟩] w fun e w' => e = .returned (.tuple #[.string ⟨(Lib.trimPrefix s.data.toList [45]).toArray⟩, .bool (Lib.hasPrefix s.data.toList [45])]) ∧ w' = w) := fun w => Tryz.strings_CutPrefix s ⟨#[45]⟩ w
  generalize Lib.hasPrefix s.data.toList [45] = neg at *
  generalize Lib.trimPrefix s.data.toList [45] = l at *
  have HTL : Hid (∀ w : World, Calls Tryz.prog 160 #[.string ⟨l.toArray⟩, .string ⟨#[48, 49, 50, 51, 52, 53, 54, 55, 56, 57]⟩] w fun e w' => e = .returned (.string (str (l.dropWhile isD))) ∧ Below w.heap.size w w') := fun w => by
    have := Tryz.strings_TrimLeft ⟨l.toArray⟩ ⟨#[48, 49, 50, 51, 52, 53, 54, 55, 56, 57]⟩ w (by decide) ascii10
    rw [trim_digs] at this
    exact this
  have hdl := digs_len l
  have hDz : (str (digs l)).size = (digs l).length := str_size _
  have hx : (⟨l.toArray⟩ : ByteArray).extract 0 (str (digs l)).size = str (digs l) := by
    rw [ext_str, str_size]
    exact congrArg str (digs_take l)
  have hR : (str (l.dropWhile isD)).size = (l.dropWhile isD).length := str_size _
  have h1 : wrap64 ((l.length : Int) - ((str (l.dropWhile isD)).size : Int)) = ((str (digs l)).size : Int) := by
    rw [hR, hDz, hdl]; unfold wrap64; omega
  have h2 : ((str (digs l)).size : Int) ≤ l.length := by rw [hDz]; omega
  have HRS : Hid (str (l.dropWhile isD) = str (l.drop (digs l).length)) := by show _ = _; rw [digs_drop]
  have hall := digs_all l
  have HX : Hid (scI neg l = if digs l = [] ∨ ((digs l).head? = some 48 ∧ (neg = true ∨ 1 < (digs l).length)) then .bad 3 else if 16 < (digs l).length ∨ 9007199254740991 < numOf (digs l) then .bad 2
      else ⟨1, if neg = true then -(numOf (digs l) : Int) else numOf (digs l), [], l.drop (digs l).length, 0⟩) := rfl
  generalize hDD : str (digs l) = D at *
  have hD0 : D.size ≠ 0 → gN D 0 = ((digs l).getD 0 0).toNat := fun h => by
    rw [← hDD, gN_str _ _ (by rw [← hDz]; omega)]
  have HDD : Hid (str (digs l) = D) := hDD
  have HDz : Hid (D.size = (digs l).length) := hDz
  clear hDD hDz hdl
  generalize str (l.dropWhile isD) = R at *
  clear hR
  by_cases c0 : D.size = 0
  · have he := empty_is D c0
    have HE : Hid (scI neg l = .bad 3) := by
      show _ = _
      rw [HX.out, if_pos (.inl (List.eq_nil_of_length_eq_zero (by have := HDz.out; omega)))]
    clear HX hall hD0 HDD HRS HDz c0
    go_enter Tryz.func134, Tryz.ntmps134
    go_wp2_with fail
    refine (HCP.out _).mono ?_
    rintro e w1 ⟨rfl, rfl⟩
    go_wp2_with fail
    refine (HTL.out _).mono ?_
    rintro e w2 ⟨rfl, hb2⟩
    have HF : Hid (Fr w w2) := Fr.of hb2
    obtain ⟨⟨d0, d1, d2, f0, f1, f2⟩, -⟩ := HF.out
    clear hb2
    go_wp2
    try simp only [Exit.inBlock, Exit.then]
    exact bodyPost_ret (results_v3 rfl _ _ w.heap.size rfl (HF.out.z.three.set _ _ _)) rfl ⟨by rw [HE.out]; rfl, set3_below HF.out.b _ _ _⟩
  have he := empty_not D c0
  have hpos : 0 < D.size := by omega
  have hpos' : (0 : Int) < D.size := by omega
  have hg := gN_of D 0 hpos
  have hg0 := hD0 c0
  have hne : digs l ≠ [] := fun e => c0 (by rw [HDz.out, e]; rfl)
  have hhd := head_getD hne
  have hb0 := hall ((digs l).getD 0 0) (by
    cases e : digs l with
    | nil => exact absurd e hne
    | cons b t => simp)
  have hg48 : (digs l).head? = some 48 ↔ gN D 0 = 48 := by
    rw [hhd, hg0]
    constructor
    · intro h; rw [Option.some.inj h]; rfl
    · intro h; exact congrArg some (UInt8.toNat_inj.1 h)
  have hlt0 := gN_lt D 0
  generalize gN D 0 = g at *
  have HG : Hid ((digs l).head? = some 48 ↔ g = 48) := hg48
  clear hg48 hg0 hD0 hhd hb0
  by_cases cz : g = 48 ∧ (neg = true ∨ 1 < D.size)
  · have HE : Hid (scI neg l = .bad 3) := by
      show _ = _
      rw [HX.out, if_pos (.inr ⟨HG.out.2 cz.1, by rw [← HDz.out]; exact cz.2⟩)]
    obtain ⟨rfl, cz⟩ := cz
    have cc : neg = true ∨ (neg = false ∧ decide ((1 : Int) < D.size) = true) := by
      cases neg
      · exact .inr ⟨rfl, by simp at cz ⊢; omega⟩
      · exact .inl rfl
    clear HX hall HDD HRS HDz c0 HG cz hne
    rcases cc with rfl | ⟨rfl, cc⟩
    all_goals
      go_enter Tryz.func134, Tryz.ntmps134
      go_wp2_with fail
      refine (HCP.out _).mono ?_
      rintro e w1 ⟨rfl, rfl⟩
      go_wp2_with fail
      refine (HTL.out _).mono ?_
      rintro e w2 ⟨rfl, hb2⟩
      have HF : Hid (Fr w w2) := Fr.of hb2
      obtain ⟨⟨d0, d1, d2, f0, f1, f2⟩, -⟩ := HF.out
      clear hb2
      go_wp2
      try simp only [Exit.inBlock, Exit.then]
      exact bodyPost_ret (results_v3 rfl _ _ w.heap.size rfl (HF.out.z.three.set _ _ _)) rfl ⟨by rw [HE.out]; rfl, set3_below HF.out.b _ _ _⟩
  have HNF : Hid (¬ (digs l = [] ∨ ((digs l).head? = some 48 ∧ (neg = true ∨ 1 < (digs l).length)))) := by
    rintro (e | ⟨e, f⟩)
    · exact hne e
    · exact cz ⟨HG.out.1 e, by rw [HDz.out]; exact f⟩
  have cc : ((g : Int) == 48) = false ∨ (g = 48 ∧ neg = false ∧ decide ((1 : Int) < D.size) = false) := by
    by_cases e : g = 48
    · refine .inr ⟨e, ?_, ?_⟩
      · cases hn : neg
        · rfl
        · exact absurd ⟨e, .inl hn⟩ cz
      · simp only [decide_eq_false_iff_not]
        intro h
        exact cz ⟨e, .inr (by omega)⟩
    · exact .inl (by rw [beq_eq_false_iff_ne]; omega)
  have Hcc : Hid (digs l ≠ []) := hne
  clear cz HG hne
  by_cases c16 : 16 < D.size
  · have d16 : decide ((16 : Int) < D.size) = true := by simp; omega
    have HE : Hid (scI neg l = .bad 2) := by
      show _ = _
      rw [HX.out, if_neg HNF.out, if_pos (.inl (by rw [← HDz.out]; exact c16))]
    clear HX hall HDD HRS HDz c0 HNF Hcc
    rcases cc with cc | ⟨rfl, rfl, cc⟩
    all_goals
      go_enter Tryz.func134, Tryz.ntmps134
      go_wp2_with fail
      refine (HCP.out _).mono ?_
      rintro e w1 ⟨rfl, rfl⟩
      go_wp2_with fail
      refine (HTL.out _).mono ?_
      rintro e w2 ⟨rfl, hb2⟩
      have HF : Hid (Fr w w2) := Fr.of hb2
      obtain ⟨⟨d0, d1, d2, f0, f1, f2⟩, -⟩ := HF.out
      clear hb2
      go_wp2
      try simp only [Exit.inBlock, Exit.then]
      exact bodyPost_ret (results_v3 rfl _ _ w.heap.size rfl (HF.out.z.three.set _ _ _)) rfl ⟨by rw [HE.out]; rfl, set3_below HF.out.b _ _ _⟩
  have d16 : decide ((16 : Int) < D.size) = false := by simp; omega
  have HAT : Hid (∀ k, k < D.size → gN D k = ((digs l).getD k 0).toNat ∧ isD ((digs l).getD k 0) = true ∧ numOf ((digs l).take (k + 1)) = 10 * numOf ((digs l).take k) + (((digs l).getD k 0).toNat - 48)) := fun k hk => by
    have hk' : k < (digs l).length := by rw [← HDz.out]; exact hk
    have hgd : (digs l).getD k 0 = (digs l)[k]'hk' := by rw [List.getD_eq_getElem?_getD, List.getElem?_eq_getElem hk']; rfl
    refine ⟨by rw [← HDD.out, gN_str _ _ hk'], ?_, ?_⟩
    · rw [hgd]; exact hall _ (List.getElem_mem hk')
    · rw [← List.take_append_getElem hk', numOf_snoc, hgd]
  have HNT : Hid (∀ k, k ≤ D.size → numOf ((digs l).take k) < 10 ^ 16) := fun k hk => by
    have h3 := numOf_lt ((digs l).take k).length ((digs l).take k) rfl (fun b hb => hall b (List.mem_of_mem_take hb))
    refine Nat.lt_of_lt_of_le h3 (Nat.pow_le_pow_right (by decide) ?_)
    rw [List.length_take]
    omega
  have HLast : Hid (numOf ((digs l).take D.size) = numOf (digs l)) := by
    show _ = _
    rw [HDz.out, List.take_length]
  have HE : Hid (scI neg l = if 9007199254740991 < numOf (digs l) then .bad 2 else ⟨1, if neg = true then -(numOf (digs l) : Int) else numOf (digs l), [], l.drop (digs l).length, 0⟩) := by
    show _ = _
    rw [HX.out, if_neg HNF.out]
    by_cases hM : 9007199254740991 < numOf (digs l)
    · rw [if_pos (.inr hM), if_pos hM]
    · rw [if_neg (fun h => h.elim (fun h => c16 (by rw [HDz.out]; exact h)) hM), if_neg hM]
  clear HX hall HNF Hcc c16 c0
  rcases cc with cc | ⟨rfl, rfl, cc⟩
  all_goals
    go_enter Tryz.func134, Tryz.ntmps134
    go_wp2_with fail
    refine (HCP.out _).mono ?_
    rintro e w1 ⟨rfl, rfl⟩
    go_wp2_with fail
    refine (HTL.out _).mono ?_
    rintro e w2 ⟨rfl, hb2⟩
    have HF : Hid (Fr w w2) := Fr.of hb2
    obtain ⟨⟨d0, d1, d2, f0, f1, f2⟩, -⟩ := HF.out
    clear hb2
    go_wp2_with fail
    go_loop [7, 45] (fun n i => ∃ (k : Nat) (a : Int), k ≤ D.size ∧ i = .int .i64 k ∧ n = .int .i64 a ∧ Hid (a = (numOf ((digs l).take k) : Nat))) (fun _ i => D.size - (intOf i).toNat)
    case atStart => exact ⟨0, 0, Nat.zero_le _, rfl, rfl, rfl⟩
    case round =>
      obtain ⟨k, a, hk, rfl, rfl, HA⟩ := hrel
      have hA := HA.out
      have hN := HNT.out k hk
      have a0 : 0 ≤ a := by omega
      have a1 : a < 10000000000000000 := by omega
      clear hA hN
      by_cases hkn : k < D.size
      · obtain ⟨e1, e2, e3⟩ := HAT.out k hkn
        simp only [isD, decide_eq_true_eq] at e2
        have hi : (k : Int) < D.size := by omega
        have hgk := gN_of D k hkn
        have hg48 : 48 ≤ gN D k := by omega
        have hg57 : gN D k ≤ 57 := by omega
        have HS : Hid (10 * a + ((gN D k : Int) - 48) = (numOf ((digs l).take (k + 1)) : Nat)) := by
          show _ = _
          rw [e3, HA.out, e1]
          omega
        clear e1 e2 e3
        generalize gN D k = y at *
        go_wp2
        refine ⟨⟨k + 1, 10 * a + ((y : Int) - 48), by omega, (by first | rfl | (congr 1; omega)), (by first | rfl | (congr 1; omega)), HS⟩, by simp [intOf]; omega⟩
      · obtain rfl : k = D.size := by omega
        have hAL : a = (numOf (digs l) : Nat) := by rw [HA.out, HLast.out]
        by_cases hM : 9007199254740991 < numOf (digs l)
        · have dM : decide ((9007199254740991 : Int) < a) = true := by simp; omega
          have HE2 : Hid (scI _ l = .bad 2) := HE.out.trans (if_pos hM)
          clear hAL hM HA HE
          go_wp2
          try simp only [Exit.inBlock, Exit.then]
          exact bodyPost_ret (results_v3 rfl _ _ w.heap.size rfl (HF.out.z.three.set _ _ _)) rfl ⟨by rw [HE2.out]; rfl, set3_below HF.out.b _ _ _⟩
        · have dM : decide ((9007199254740991 : Int) < a) = false := by simp; omega
          have hE2 := HE.out.trans (if_neg hM)
          rw [← hAL] at hE2
          have HE2 : Hid (scI _ l = ⟨1, if _ = true then -a else a, [], l.drop (digs l).length, 0⟩) := hE2
          have HV : Hid (R = str (l.drop (digs l).length)) := HRS.out
          have a2 : a ≤ 9007199254740991 := by omega
          clear hAL hM HA HE hE2
          first
            | (cases neg
               all_goals
                 go_wp2
                 try simp only [Exit.inBlock, Exit.then]
                 exact bodyPost_ret (results_v3 rfl _ _ w.heap.size rfl (HF.out.z.three.set _ _ _)) rfl ⟨by rw [HE2.out, HV.out]; rfl, set3_below HF.out.b _ _ _⟩)
            | (go_wp2
               try simp only [Exit.inBlock, Exit.then]
               exact bodyPost_ret (results_v3 rfl _ _ w.heap.size rfl (HF.out.z.three.set _ _ _)) rfl ⟨by rw [HE2.out, HV.out]; rfl, set3_below HF.out.b _ _ _⟩)
end Go.Proofs.YtbekpemidpngaaaGreatDoor.V
/- value.scanRune and scanText at any text: walks. -/
namespace Go.Proofs.YtbekpemidpngaaaGreatDoor.V
open Go.RowKit

theorem dec_same (s : ByteArray) (h : s.size ≠ 0) : Lib.decodeGo s = Lib.decodeL s.data.toList := by
  unfold Lib.decodeGo Lib.decodeL
  rw [if_neg h]
theorem sh_ctl : ∀ c : Fin 128, (c.val < 32 ∨ c.val = 127) → (shR c.val).head? = some 92 := by decide +kernel
theorem sh_err : (shR 65533).length = 3 := by decide +kernel
theorem rune_dec {s : ByteArray} (hq : s.data.toList.head? ≠ some 34) (h92 : s.data.toList.head? ≠ some 92) : runeL s.data.toList = if str (shR (Lib.decodeGo s).1) = s.extract 0 (Lib.decodeGo s).2 then some (Lib.decodeGo s) else none := by
  by_cases hz : s.size = 0
  · have e : s.data.toList = [] := List.eq_nil_of_length_eq_zero (by rw [← Lib.size_eq]; exact hz)
    have ed : Lib.decodeGo s = (65533, 0) := by unfold Lib.decodeGo; rw [if_pos hz]
    rw [ed, if_neg]
    · unfold runeL
      rw [e]
      simp
    · intro h
      have := congrArg ByteArray.size h
      rw [str_size, sh_err, ext5, str_size] at this
      simp at this
  · have hne : s.data.toList ≠ [] := fun e => hz (by rw [Lib.size_eq, e]; rfl)
    rw [dec_same s hz, ext5]
    by_cases hc : s.data.toList = [] ∨ ((Lib.decodeL s.data.toList).1 = 65533 ∧ (Lib.decodeL s.data.toList).2 = 1) ∨ (Lib.decodeL s.data.toList).1 < 32 ∨ (Lib.decodeL s.data.toList).1 = 127
    · rw [if_neg]
      · unfold runeL
        rw [if_neg h92, if_pos hc]
      · intro h
        have h := str_inj h
        rcases hc with hc | ⟨h1, h2⟩ | hc
        · exact hne hc
        · rw [h1, h2] at h
          have := congrArg List.length h
          rw [sh_err, List.length_take] at this
          omega
        · have hlt : (Lib.decodeL s.data.toList).1 < 128 := by omega
          obtain ⟨b, t, hbt, hb⟩ := dec_small hne rfl hlt
          have hh := sh_ctl ⟨_, hlt⟩ hc
          simp only at hh
          have hw := Lib.decodeL_width s.data.toList
          rw [h, hbt] at hh
          have : (List.take (Lib.decodeL (b :: t)).2 (b :: t)).head? = some b := by
            rw [← hbt]
            obtain ⟨k, hk⟩ : ∃ k, (Lib.decodeL s.data.toList).2 = k + 1 := ⟨(Lib.decodeL s.data.toList).2 - 1, by omega⟩
            rw [hk, hbt]
            rfl
          rw [this] at hh
          exact h92 (by rw [hbt]; exact hh)
    · have hr : runeL s.data.toList = some (Lib.decodeL s.data.toList) := by
        unfold runeL
        rw [if_neg h92, if_neg hc]
      obtain ⟨h1, -⟩ := runeL_spec (c := (Lib.decodeL s.data.toList).1) (d := (Lib.decodeL s.data.toList).2) hr hq
      rw [hr, if_pos (by rw [h1])]
theorem decGo_ok (s : ByteArray) : scal (Lib.decodeGo s).1 ∧ (Lib.decodeGo s).2 ≤ s.size := by
  by_cases hz : s.size = 0
  · have ed : Lib.decodeGo s = (65533, 0) := by unfold Lib.decodeGo; rw [if_pos hz]
    rw [ed]
    exact ⟨.inr ⟨by decide, by decide⟩, Nat.zero_le _⟩
  · rw [dec_same s hz]
    exact ⟨decodeL_scal _, by rw [Lib.size_eq]; exact Lib.decodeL_le _ (fun e => hz (by rw [Lib.size_eq, e]; rfl))⟩
theorem pre_head (l : List UInt8) (b : UInt8) : Lib.hasPrefix l [b] = decide (l.head? = some b) := by
  cases l with
  | nil => rfl
  | cons a t =>
    simp only [Lib.hasPrefix, List.isPrefixOf, Bool.and_true, List.head?_cons, Option.some.injEq]
    rw [Bool.eq_iff_iff, beq_iff_eq, decide_eq_true_eq]
    exact eq_comm
set_option maxRecDepth 100000 in
set_option maxHeartbeats 2000000 in
theorem scanRune_any (s : ByteArray) (w : World) (hs : s.size ≤ 140737488355328) (hq : s.data.toList.head? ≠ some 34) (hU : UT w) (hT : T16 w) (hE : ES w) :
    Calls Tryz.prog 154 #[.string s] w fun e w' => e = .returned (srV (runeL s.data.toList)) ∧ Below w.heap.size w w' := by
  by_cases h92 : s.data.toList.head? = some 92
  · have HR : Hid (runeL s.data.toList = (escL s.data.toList).map fun c => (c, (shR c).length)) := by
      show _ = _
      unfold runeL
      rw [if_pos h92]
    have hp : Lib.hasPrefix s.data.toList [92] = true := by rw [pre_head, decide_eq_true h92]
    rw [HR.out]
    have HN2 := scanEscape_any s w hs h92 hT hE
    cases hX : escL s.data.toList with
    | none =>
      rw [hX] at HN2
      have HN3 : Hid (Calls Tryz.prog 170 #[.string s] w fun e w' => e = .returned (.tuple #[.int .i32 0, .int .i64 0]) ∧ Below w.heap.size w w') := HN2
      clear HN2 hX HR
      go_enter Tryz.func154, Tryz.ntmps154
      go_wp2_with fail
      refine (Tryz.strings_HasPrefix _ _ _).mono ?_
      rintro e w1 ⟨rfl, rfl⟩
      rw [show (⟨#[92]⟩ : ByteArray).data.toList = [92] from rfl, hp]
      go_wp2_with fail
      refine (Calls.mono HN3.out) ?_
      rintro e w1 ⟨rfl, hb1⟩
      go_wp2
      go_ret2
      exact ⟨rfl, hb1⟩
    | some c =>
      rw [hX] at HN2
      have HN3 : Hid (Calls Tryz.prog 170 #[.string s] w fun e w' => e = .returned (.tuple #[.int .i32 (c : Int), .int .i64 ((shR c).length : Int)]) ∧ Below w.heap.size w w') := HN2
      clear HN2 hX HR
      go_enter Tryz.func154, Tryz.ntmps154
      go_wp2_with fail
      refine (Tryz.strings_HasPrefix _ _ _).mono ?_
      rintro e w1 ⟨rfl, rfl⟩
      rw [show (⟨#[92]⟩ : ByteArray).data.toList = [92] from rfl, hp]
      go_wp2_with fail
      refine (Calls.mono HN3.out) ?_
      rintro e w1 ⟨rfl, hb1⟩
      go_wp2
      go_ret2
      exact ⟨rfl, hb1⟩
  · have hp : Lib.hasPrefix s.data.toList [92] = false := by rw [pre_head, decide_eq_false h92]
    rw [rune_dec hq h92]
    obtain ⟨hsc, hle⟩ := decGo_ok s
    have HD : Hid (∀ w, UT w → Calls Tryz.prog 97 #[.string s] w fun e w' => e = .returned (.tuple #[.int .i32 (Lib.decodeGo s).1, .int .i64 (Lib.decodeGo s).2]) ∧ Below w.heap.size w w') := fun w h => Tryz.utf8_DecodeRuneInString s w h
    generalize Lib.decodeGo s = p at *
    obtain ⟨c, d⟩ := p
    simp only at hsc hle HD ⊢
    have hcl : c ≤ 1114111 := by unfold scal at hsc; omega
    have hd' : (d : Int) ≤ s.size := by omega
    have HS : Hid (∀ w, T16 w → Calls Tryz.prog 143 #[.int .i32 (c : Int)] w fun e w' => e = .returned (.string (str (shR c))) ∧ Below w.heap.size w w') := fun w h => showRune_all c w hsc h
    generalize str (shR c) = Y at *
    clear hsc
    by_cases hc : Y = s.extract 0 d
    · rw [if_pos hc]
      subst hc
      go_enter Tryz.func154, Tryz.ntmps154
      go_wp2_with fail
      refine (Tryz.strings_HasPrefix _ _ _).mono ?_
      rintro e w1 ⟨rfl, rfl⟩
      rw [show (⟨#[92]⟩ : ByteArray).data.toList = [92] from rfl, hp]
      go_wp2_with fail
      refine (HD.out _ hU).mono ?_
      rintro e w2 ⟨rfl, hb2⟩
      have hT2 : T16 w2 ∧ Below w1.heap.size w1 w2 := ⟨T16_below hT hb2, hb2⟩
      clear hb2
      go_wp2
      go_region_held3 (fun w' => T16 w' ∧ Below w1.heap.size w1 w') (first | assumption | exact SN_call (by assumption) (by assumption) | exact SN_drew (by assumption)) (first | (go_at_call 143; refine (HS.out _ ?_).mono ?_; exact (show T16 _ ∧ _ by assumption).1; rintro e w' ⟨rfl, hb⟩))
      all_goals go_wp2
      all_goals go_ret2
      all_goals exact ⟨rfl, (show T16 _ ∧ _ by assumption).2⟩
    · rw [if_neg hc]
      have hq2 := bneq_str hc
      clear hc
      go_enter Tryz.func154, Tryz.ntmps154
      go_wp2_with fail
      refine (Tryz.strings_HasPrefix _ _ _).mono ?_
      rintro e w1 ⟨rfl, rfl⟩
      rw [show (⟨#[92]⟩ : ByteArray).data.toList = [92] from rfl, hp]
      go_wp2_with fail
      refine (HD.out _ hU).mono ?_
      rintro e w2 ⟨rfl, hb2⟩
      have hT2 : T16 w2 ∧ Below w1.heap.size w1 w2 := ⟨T16_below hT hb2, hb2⟩
      clear hb2
      go_wp2
      go_region_held3 (fun w' => T16 w' ∧ Below w1.heap.size w1 w') (first | assumption | exact SN_call (by assumption) (by assumption) | exact SN_drew (by assumption)) (first | (go_at_call 143; refine (HS.out _ ?_).mono ?_; exact (show T16 _ ∧ _ by assumption).1; rintro e w' ⟨rfl, hb⟩))
      all_goals go_wp2
      all_goals go_ret2
      all_goals exact ⟨rfl, (show T16 _ ∧ _ by assumption).2⟩
theorem builderLen_any (B b : Nat) (bs : List Value) (w : World) (h : IsB B b bs w) :
    Calls Tryz.prog 156 #[.pointer (some ⟨b, 0, none⟩)] w fun e w' => e = .returned (.int .i64 bs.length) ∧ w' = w := by
  have key : ∀ p, Lib.BuilderAtF 126 5 B b p bs w → ∃ ao cap, w.cell? ⟨b, 1, none⟩ = some (.slice ao bs.length cap) := by
    rintro p ⟨hB, v, hbk, hown, hne⟩
    have c1 : w.cell? ⟨b, 1, none⟩ = some v := by rw [Lib.cell_of_heap hbk]; rfl
    rcases hown.2 with ⟨hv, h0⟩ | ⟨g, cap, cur, fz, hv, _⟩
    · exact ⟨none, 0, by rw [c1, h0, hv]⟩
    · exact ⟨_, cap, by rw [c1, hv]⟩
  obtain ⟨ao, cap, c1⟩ := h.elim (key _) (key _)
  clear key h
  go_enter Tryz.func156, Tryz.ntmps156
  go_wp2
  go_ret
  exact ⟨rfl, rfl⟩
/-- The builder, the result's cells, what was there before. -/
def SB (w : World) (acc : List UInt8) (wr : World) : Prop := IsB (w.heap.size + 1) (w.heap.size + 1) (Lib.byteCells acc) wr ∧ Fr w wr ∧ w.heap.size + 1 < wr.heap.size
theorem SB_drew {w wr : World} {acc : List UInt8} (h : SB w acc wr) : SB w acc wr.drew := by
  obtain ⟨hI, hF, hz⟩ := h
  have hb : Below wr.heap.size wr wr.drew := Below.drew (Below.refl _ _)
  exact ⟨IsB_below hI hb, ⟨hF.z.below hb (by omega), hF.b.drew⟩, hz⟩
theorem SB_three {w wr : World} {acc : List UInt8} (h : Hid (SB w acc wr)) : Three w.heap.size wr (.int .i64 0) (.int .i64 0) (.string ⟨#[]⟩) := h.out.2.1.z.three
theorem SB_below {w wr : World} {acc : List UInt8} (h : Hid (SB w acc wr)) : Below w.heap.size w wr := h.out.2.1.b
theorem SB_str {w wr : World} {acc : List UInt8} (h : SB w acc wr) : Calls Tryz.prog 80 #[.pointer (some ⟨w.heap.size + 1, 0, none⟩)] wr fun e w' => e = .returned (.string (str acc)) ∧ SB w acc w' := by
  obtain ⟨hI, hF, hz⟩ := h
  refine (Tryz.Builder_String_any_k (w.heap.size + 1) (w.heap.size + 1) acc wr hI (by omega)).mono ?_
  rintro e w' ⟨rfl, hI2, hb, -⟩
  exact ⟨rfl, hI2, ⟨hF.z.below hb (by omega), hF.b.trans (hb.mono (by omega))⟩, by have := hb.size; omega⟩
/-- What holds of scanText's loop at every round. -/
def TxRl (s : ByteArray) (w : World) (t : Value) (wr : World) : Prop :=
  ∃ (S : ByteArray) (acc : List UInt8), t = .string S ∧ IsB (w.heap.size + 1) (w.heap.size + 1) (Lib.byteCells acc) wr ∧ Fr w wr ∧ w.heap.size + 1 < wr.heap.size ∧ txs acc S.data.toList = txs [] s.data.toList ∧ acc.length + S.size ≤ s.size
set_option maxRecDepth 100000 in
set_option maxHeartbeats 4000000 in
theorem scanText_any (s : ByteArray) (w : World) (hs : s.size ≤ 1000000) (hU : UT w) (hT : T16 w) (hE : ES w) :
    Calls Tryz.prog 131 #[.string s] w fun e w' => e = .returned (scV (scT s.data.toList)) ∧ Below w.heap.size w w' := by
  have hI := Lib.IsBuilderF.of (Lib.fresh_isBuilder 126 5 (wv w))
  rw [wv_size] at hI
  go_enter Tryz.func131, Tryz.ntmps131
  go_wp2_with fail
  go_loopw [0, 3, 4] (fun t r e wr => r = .string ⟨#[]⟩ ∧ e = .int .i64 0 ∧ TxRl s w t wr) (fun t _ _ _ => lenOf t)
  case atStart => exact ⟨rfl, rfl, s, [], rfl, hI, ⟨(Zero.new w).below ((Below.refl _ (wv w)).alloc (Nat.le_refl _) _) (by simp), (wv_below w).alloc (by simp) _⟩, by simp, rfl, by simp⟩
  case round =>
    obtain ⟨rfl, rfl, S, acc, rfl, hI, hF, hsz, hck, hal⟩ := hrel
    have HF : Hid (Fr w wr) := hF
    have HC : Hid (txs acc S.data.toList = txs [] s.data.toList) := hck
    have HB : Hid (Below w.heap.size w wr) := hF.b
    clear hck hF
    by_cases hq : S.data.toList.head? = some 34
    · have hp : Lib.hasPrefix S.data.toList [34] = true := by rw [pre_head, decide_eq_true hq]
      have h1 : 1 ≤ S.size := by
        rw [Lib.size_eq]
        cases e : S.data.toList with
        | nil => rw [e] at hq; cases hq
        | cons b t => simp
      have h1' : (1 : Int) ≤ S.size := by omega
      have hE2 : scT s.data.toList = if 200 < acc.length then .bad 2 else ⟨2, 0, acc, S.data.toList.drop 1, 0⟩ := by
        unfold scT
        rw [← HC.out, txs_end hq]
      have HR : Hid (S.extract 1 S.size = str (S.data.toList.drop 1)) := ext_from S 1
      by_cases h200 : 200 < acc.length
      · have HX : Hid (scT s.data.toList = .bad 2) := hE2.trans (if_pos h200)
        have d200 : decide ((200 : Int) < acc.length) = true := by simp; omega
        clear hE2 HC
        obtain ⟨⟨c0, c1, c2, f0, f1, f2⟩, -⟩ := HF.out
        go_wp2_with fail
        refine (Tryz.strings_HasPrefix _ _ _).mono ?_
        rintro e w1 ⟨rfl, rfl⟩
        rw [show (⟨#[34]⟩ : ByteArray).data.toList = [34] from rfl, hp]
        go_wp2_with fail
        refine (builderLen_any _ _ _ _ hI).mono ?_
        rintro e w2 ⟨rfl, rfl⟩
        rw [Lib.byteCells_length]
        go_wp2
        try simp only [Exit.inBlock, Exit.then]
        exact bodyPost_ret (results_v3 rfl _ _ w.heap.size rfl (HF.out.z.three.set _ _ _)) rfl ⟨by rw [HX.out]; rfl, set3_below HF.out.b _ _ _⟩
      · have HX : Hid (scT s.data.toList = ⟨2, 0, acc, S.data.toList.drop 1, 0⟩) := hE2.trans (if_neg h200)
        have d200 : decide ((200 : Int) < acc.length) = false := by simp; omega
        clear hE2 HC
        go_wp2_with fail
        refine (Tryz.strings_HasPrefix _ _ _).mono ?_
        rintro e w1 ⟨rfl, rfl⟩
        rw [show (⟨#[34]⟩ : ByteArray).data.toList = [34] from rfl, hp]
        go_wp2_with fail
        refine (builderLen_any _ _ _ _ hI).mono ?_
        rintro e w2 ⟨rfl, rfl⟩
        rw [Lib.byteCells_length]
        go_wp2
        have HS0 : SB w acc w2 := ⟨hI, HF.out, hsz⟩
        clear hI
        go_region_with (first | (go_at_call 80; refine (SB_str (by first | assumption | exact SB_drew (by assumption) | exact SB_drew (SB_drew (by assumption)))).mono ?_; rintro e w' ⟨rfl, hS'⟩; have HS' : Hid (SB w acc w') := hS'; have hzz := hS'.2.1.z; obtain ⟨c0, c1, c2, f0, f1, f2⟩ := hzz; clear hS'))
        all_goals go_wp2
        all_goals (try simp only [Exit.inBlock, Exit.then])
        all_goals
          exact bodyPost_ret (results_v3 rfl _ _ w.heap.size rfl ((SB_three (acc := acc) (by assumption)).set _ _ _)) rfl ⟨by rw [HX.out, scV, ← HR.out]; rfl, set3_below (SB_below (acc := acc) (by assumption)) _ _ _⟩
    · have hp : Lib.hasPrefix S.data.toList [34] = false := by rw [pre_head, decide_eq_false hq]
      have HN2 := fun w hU hT hE => scanRune_any S w (by omega) hq hU hT hE
      cases hr : runeL S.data.toList with
      | none =>
        rw [hr] at HN2
        have HN3 : Hid (∀ w, UT w → T16 w → ES w → Calls Tryz.prog 154 #[.string S] w fun e w' => e = .returned (.tuple #[.int .i32 0, .int .i64 0]) ∧ Below w.heap.size w w') := HN2
        have HX : Hid (scT s.data.toList = .bad 3) := by show _ = _; unfold scT; rw [← HC.out, txs_none hq hr]
        clear HN2 hr HC
        go_wp2_with fail
        refine (Tryz.strings_HasPrefix _ _ _).mono ?_
        rintro e w1 ⟨rfl, rfl⟩
        rw [show (⟨#[34]⟩ : ByteArray).data.toList = [34] from rfl, hp]
        go_wp2_with fail
        refine (HN3.out _ (Utf8Tabs_below hU HB.out) (T16_below hT HB.out) (ES_below hE HB.out)).mono ?_
        rintro e w2 ⟨rfl, hb2⟩
        have HF2 : Hid (Fr w w2) := ⟨HF.out.z.below hb2 (by omega), HB.out.trans (hb2.mono HB.out.size)⟩
        obtain ⟨⟨c0, c1, c2, f0, f1, f2⟩, -⟩ := HF2.out
        clear hb2
        go_wp2
        try simp only [Exit.inBlock, Exit.then]
        exact bodyPost_ret (results_v3 rfl _ _ w.heap.size rfl (HF2.out.z.three.set _ _ _)) rfl ⟨by rw [HX.out]; rfl, set3_below HF2.out.b _ _ _⟩
      | some p =>
        obtain ⟨c, d⟩ := p
        rw [hr] at HN2
        obtain ⟨-, h1, h2, hsc, hel⟩ := runeL_spec hr hq
        have HN3 : Hid (∀ w, UT w → T16 w → ES w → Calls Tryz.prog 154 #[.string S] w fun e w' => e = .returned (.tuple #[.int .i32 (c : Int), .int .i64 (d : Int)]) ∧ Below w.heap.size w w') := HN2
        have HX : Hid (txs (acc ++ enc c) (S.extract d S.size).data.toList = txs [] s.data.toList) := by
          show _ = _
          rw [← HC.out, txs_step hq hr, ext_from, str_data]
        rw [← Lib.size_eq] at h2
        have hd0 : ((d : Int) == 0) = false := by rw [beq_eq_false_iff_ne]; omega
        have hd' : (d : Int) ≤ S.size := by omega
        have hes : (S.extract d S.size).size = S.size - d := by rw [ByteArray.size_extract]; omega
        have HS : Hid (scal c) := hsc
        have hel4 := enc_len4 c
        have HAL : Hid ((acc ++ enc c).length + (S.extract d S.size).size ≤ s.size) := by show _ ≤ _; rw [List.length_append, hes]; omega
        have HM : Hid ((S.extract d S.size).size < S.size) := by show _ < _; rw [hes]; omega
        clear HN2 hr HC hsc hes
        go_wp2_with fail
        refine (Tryz.strings_HasPrefix _ _ _).mono ?_
        rintro e w1 ⟨rfl, rfl⟩
        rw [show (⟨#[34]⟩ : ByteArray).data.toList = [34] from rfl, hp]
        go_wp2_with fail
        refine (HN3.out _ (Utf8Tabs_below hU HB.out) (T16_below hT HB.out) (ES_below hE HB.out)).mono ?_
        rintro e w2 ⟨rfl, hb2⟩
        have HF2 : Hid (Fr w w2) := ⟨HF.out.z.below hb2 (by omega), HB.out.trans (hb2.mono HB.out.size)⟩
        have hI2 := IsB_below hI hb2
        have hs2 := hb2.size
        clear hb2 hI
        go_wp2_with fail
        refine (writeRune_any (w.heap.size + 1) (w.heap.size + 1) (Lib.byteCells acc) c _ HS.out hI2 (by rw [Lib.byteCells_length]; omega) (by omega)).mono ?_
        rintro e w3 ⟨rfl, hI3, hb3, -⟩
        have HI3 : Hid (IsB (w.heap.size + 1) (w.heap.size + 1) (Lib.byteCells (acc ++ enc c)) w3) := by rw [Lib.byteCells_append]; exact hI3
        have HF3 : Hid (Fr w w3) := ⟨HF2.out.z.below hb3 (by omega), HF2.out.b.trans (hb3.mono (by omega))⟩
        have hs3 := hb3.size
        clear hb3 hI3 hI2
        go_wp2
        go_roundw
        case rel => exact ⟨rfl, rfl, _, acc ++ enc c, rfl, HI3.out, HF3.out, by omega, HX.out, HAL.out⟩
        case measure => exact HM.out
end Go.Proofs.YtbekpemidpngaaaGreatDoor.V
/- value.scanBytes at any text: its walk. -/
namespace Go.Proofs.YtbekpemidpngaaaGreatDoor.V
open Go.RowKit

theorem indexByte_no : ∀ (l : List UInt8) (c : UInt8), c ∉ l → Lib.indexByte l c = -1
  | [], _, _ => rfl
  | b :: t, c, h => by
    have hb : b ≠ c := fun e => h (by simp [e])
    have ht : c ∉ t := fun e => h (by simp [e])
    unfold Lib.indexByte
    rw [indexByte_no t c ht]
    simp [hb]
theorem indexByte_app : ∀ (D R : List UInt8) (c : UInt8), c ∉ D → Lib.indexByte (D ++ c :: R) c = D.length
  | [], R, c, _ => by simp [Lib.indexByte]
  | b :: t, R, c, h => by
    have hb : b ≠ c := fun e => h (by simp [e])
    have ht : c ∉ t := fun e => h (by simp [e])
    rw [List.cons_append]
    unfold Lib.indexByte
    rw [indexByte_app t R c ht]
    have h1 : ((t.length : Int) == -1) = false := by rw [beq_eq_false_iff_ne]; omega
    simp [hb, h1]
theorem split_at : ∀ (l : List UInt8) (c : UInt8), c ∈ l → ∃ D R, l = D ++ c :: R ∧ c ∉ D
  | [], _, h => by cases h
  | b :: t, c, h => by
    by_cases e : b = c
    · exact ⟨[], t, by rw [e]; rfl, by simp⟩
    · obtain ⟨D, R, h1, h2⟩ := split_at t c (by rcases List.mem_cons.1 h with h | h; exact absurd h.symm e; exact h)
      refine ⟨b :: D, R, by rw [h1]; rfl, ?_⟩
      intro h
      rcases List.mem_cons.1 h with h | h
      · exact e h.symm
      · exact h2 h
theorem cut_no {l : List UInt8} {c : UInt8} (h : c ∉ l) : Lib.cut l [c] = (l, [], false) := by
  unfold Lib.cut
  rw [Lib.index_one, indexByte_no l c h]
  rfl
theorem cut_yes {D R : List UInt8} {c : UInt8} (h : c ∉ D) : Lib.cut (D ++ c :: R) [c] = (D, R, true) := by
  unfold Lib.cut
  rw [Lib.index_one, indexByte_app D R c h, if_pos (by omega)]
  have : (D.length : Int).toNat = D.length := rfl
  rw [this, List.take_left, ← List.drop_drop, List.drop_left]
  rfl
theorem cutCall (s : ByteArray) (D R : List UInt8) (C : Bool) (w : World) (hs : s.size ≤ 1000000) (hM : ML w) (h : Lib.cut s.data.toList [39] = (D, R, C)) :
    Calls Tryz.prog 157 #[.string s, .string ⟨#[39]⟩] w fun e w' => e = .returned (.tuple #[.string (str D), .string (str R), .bool C]) ∧ Below w.heap.size w w' := by
  obtain ⟨m, hm⟩ := hM
  refine (Tryz.strings_Cut s ⟨#[39]⟩ m w (by omega) hm).mono ?_
  rintro e w1 ⟨rfl, n, hw1⟩
  have e1 : Lib.cut s.data.toList (⟨#[39]⟩ : ByteArray).data.toList = (D, R, C) := h
  rw [e1]
  exact ⟨rfl, by rw [hw1]; exact ⟨rfl, rfl, rfl, Nat.le_refl _, fun _ _ => rfl⟩⟩
set_option maxRecDepth 100000 in
set_option maxHeartbeats 4000000 in
theorem scanBytes_no (s : ByteArray) (w : World) (hs : s.size ≤ 1000000) (hM : ML w) (h : 39 ∉ s.data.toList) :
    Calls Tryz.prog 132 #[.string s] w fun e w' => e = .returned (scV (scX s.data.toList)) ∧ Below w.heap.size w w' := by
  have HX : Hid (scX s.data.toList = .bad 3) := by show _ = _; unfold scX; rw [hxs_open _ h]
  have HC : Hid (∀ w, ML w → Calls Tryz.prog 157 #[.string s, .string ⟨#[39]⟩] w fun e w' => e = .returned (.tuple #[.string (str s.data.toList), .string (str []), .bool false]) ∧ Below w.heap.size w w') := fun w hM => cutCall s _ _ _ w hs hM (cut_no h)
  clear h
  go_enter Tryz.func132, Tryz.ntmps132
  go_wp2_with fail
  refine (HC.out _ (ML_below hM (wv_below w))).mono ?_
  rintro e w1 ⟨rfl, hb1⟩
  have HF : Hid (Fr w w1) := Fr.of hb1
  obtain ⟨⟨d0, d1, d2, f0, f1, f2⟩, -⟩ := HF.out
  clear hb1
  go_wp2
  try simp only [Exit.inBlock, Exit.then]
  exact bodyPost_ret (results_v3 rfl _ _ w.heap.size rfl (HF.out.z.three.set _ _ _)) rfl ⟨by rw [HX.out]; rfl, set3_below HF.out.b _ _ _⟩
set_option maxRecDepth 100000 in
set_option maxHeartbeats 4000000 in
theorem scanBytes_odd (s : ByteArray) (w : World) (D R : List UInt8) (hs : s.size ≤ 1000000) (hM : ML w) (hl : s.data.toList = D ++ 39 :: R) (h : 39 ∉ D) (ho : D.length % 2 ≠ 0) :
    Calls Tryz.prog 132 #[.string s] w fun e w' => e = .returned (scV (scX s.data.toList)) ∧ Below w.heap.size w w' := by
  have HX : Hid (scX s.data.toList = .bad 3) := by show _ = _; unfold scX; rw [hl, hxs_app _ _ h, hxp_odd _ ho]; rfl
  have HC : Hid (∀ w, ML w → Calls Tryz.prog 157 #[.string s, .string ⟨#[39]⟩] w fun e w' => e = .returned (.tuple #[.string (str D), .string (str R), .bool true]) ∧ Below w.heap.size w w') := fun w hM => cutCall s _ _ _ w hs hM (by rw [hl]; exact cut_yes h)
  have hz : (str D).size = D.length := str_size D
  have h1 : (((str D).size : Int) % 2 != 0) = true := by rw [bne_iff_ne, hz]; omega
  generalize str D = E at *
  clear h ho hl hz
  go_enter Tryz.func132, Tryz.ntmps132
  go_wp2_with fail
  refine (HC.out _ (ML_below hM (wv_below w))).mono ?_
  rintro e w1 ⟨rfl, hb1⟩
  have HF : Hid (Fr w w1) := Fr.of hb1
  obtain ⟨⟨d0, d1, d2, f0, f1, f2⟩, -⟩ := HF.out
  clear hb1
  go_wp2
  all_goals (try simp only [Exit.inBlock, Exit.then])
  exact bodyPost_ret (results_v3 rfl _ _ w.heap.size rfl (HF.out.z.three.set _ _ _)) rfl ⟨by rw [HX.out]; rfl, set3_below HF.out.b _ _ _⟩
end Go.Proofs.YtbekpemidpngaaaGreatDoor.V
