/- Literals: once and back, whole. Plain, of no program. -/
import Derived.Test.YtacpllmlpmllbaaGreatDoorZk24
import Derived.Test.YtacpllmlpmllbaaGreatDoorZk20
import Derived.Laws.ResultCell
import Derived.Laws.MakeOwn
import Derived.Deep.RegionHeld3
namespace Go.Proofs.YtacpllmlpmllbaaGreatDoor.V
open Go.Lib
set_option maxRecDepth 100000

/-- May a value be? (As a proposition, over lists.) -/
def okL (k n : Int) (s : List UInt8) : Prop :=
  (k = 1 ∧ s = [] ∧ -9007199254740991 ≤ n ∧ n ≤ 9007199254740991) ∨ (k = 2 ∧ n = 0 ∧ s.length ≤ 200 ∧ validD s = true) ∨ (k = 3 ∧ s = [] ∧ (n = 0 ∨ n = 1)) ∨ (k = 4 ∧ n = 0 ∧ s.length ≤ 200)
/-- A value's literal. -/
def shwL (k n : Int) (s : List UInt8) : List UInt8 :=
  if k = 1 then itoa n else if k = 3 then (if n = 1 then [116, 114, 117, 101] else [102, 97, 108, 115, 101])
  else if k = 4 then 120 :: 39 :: hexs s ++ [39] else 34 :: (rns s).flatMap shR ++ [34]

theorem scT_once {l : List UInt8} (h : (scT l).e = 0) : okL (scT l).k (scT l).n (scT l).s ∧ shwL (scT l).k (scT l).n (scT l).s ++ (scT l).r = 34 :: l := by
  unfold scT at *
  cases e : txs [] l with
  | none => rw [e] at h; simp at h
  | some p =>
    rw [e] at h
    simp only at h ⊢
    split at h
    · simp at h
    rename_i h200
    rw [if_neg h200]
    simp only
    obtain ⟨cs, a, b, d⟩ := txs_once l.length [] l p (Nat.le_refl _) e
    rw [List.nil_append] at b
    obtain ⟨r1, r2⟩ := rns_enc cs a
    refine ⟨.inr (.inl ⟨rfl, rfl, by omega, by rw [b]; exact r2⟩), ?_⟩
    unfold shwL
    rw [if_neg (by decide), if_neg (by decide), if_neg (by decide), b, r1, d]
    simp
theorem scX_once {l : List UInt8} (h : (scX l).e = 0) : okL (scX l).k (scX l).n (scX l).s ∧ shwL (scX l).k (scX l).n (scX l).s ++ (scX l).r = 120 :: 39 :: l := by
  unfold scX at *
  cases e : hxs l with
  | none => rw [e] at h; simp at h
  | some p =>
    rw [e] at h
    simp only at h ⊢
    split at h
    · simp at h
    rename_i h200
    rw [if_neg h200]
    simp only
    have d := hxs_once l p e
    refine ⟨.inr (.inr (.inr ⟨rfl, rfl, by omega⟩)), ?_⟩
    unfold shwL
    rw [if_neg (by decide), if_neg (by decide), if_pos rfl]
    conv => rhs; rw [d]
    simp
theorem scB_once {n : Int} {l : List UInt8} (hn : n = 0 ∨ n = 1) (h : (scB n l).e = 0) : okL (scB n l).k (scB n l).n (scB n l).s ∧ shwL (scB n l).k (scB n l).n (scB n l).s ++ (scB n l).r = (if n = 1 then [116, 114, 117, 101] else [102, 97, 108, 115, 101]) ++ l := by
  unfold scB at *
  split at h
  · simp at h
  rename_i hg
  rw [if_neg hg]
  exact ⟨.inr (.inr (.inl ⟨rfl, rfl, hn⟩)), rfl⟩
theorem scI_once {neg : Bool} {l : List UInt8} (h : (scI neg l).e = 0) : okL (scI neg l).k (scI neg l).n (scI neg l).s ∧ shwL (scI neg l).k (scI neg l).n (scI neg l).s ++ (scI neg l).r = if neg = true then 45 :: l else l := by
  unfold scI at *
  split at h
  · simp at h
  rename_i h1
  split at h
  · simp at h
  rename_i h2
  rw [if_neg h1, if_neg h2]
  simp only [not_or, not_and] at h1 h2
  have hd := digs_all l
  have hne := h1.1
  obtain ⟨m, hm⟩ : ∃ m, (digs l).length = m + 1 := by
    cases e : digs l with
    | nil => exact absurd e hne
    | cons b t => exact ⟨t.length, rfl⟩
  have happ : digs l ++ l.drop (digs l).length = l := by rw [digs_drop]; exact digs_app l
  cases neg with
  | true =>
    have hh : (digs l).head? ≠ some 48 := fun e => (h1.2 e).1 rfl
    have hp := numOf_pos m (digs l) hm hd hh
    have hdd := decDigits_numOf m (digs l) hm hd (.inl hh)
    refine ⟨.inl ⟨rfl, rfl, by simp only [if_true]; omega, by simp only [if_true]; omega⟩, ?_⟩
    simp only [if_true]
    unfold shwL itoa
    rw [if_pos rfl, if_pos (by omega), show (-(numOf (digs l) : Int)).natAbs = numOf (digs l) by omega, hdd, List.cons_append, happ]
  | false =>
    have hh : (digs l).head? ≠ some 48 ∨ (digs l).length = 1 := by
      by_cases e : (digs l).head? = some 48
      · right
        have := (h1.2 e).2
        omega
      · exact .inl e
    have hdd := decDigits_numOf m (digs l) hm hd hh
    refine ⟨.inl ⟨rfl, rfl, by simp only [Bool.false_eq_true, if_false]; omega, by simp only [Bool.false_eq_true, if_false]; omega⟩, ?_⟩
    simp only [Bool.false_eq_true, if_false]
    unfold shwL itoa
    rw [if_pos rfl, if_neg (by omega), show ((numOf (digs l) : Int)).toNat = numOf (digs l) by omega, hdd, happ]
theorem pre_drop {p l : List UInt8} (h : hasPrefix l p = true) : p ++ l.drop p.length = l := by
  obtain ⟨t, rfl⟩ := List.isPrefixOf_iff_prefix.1 h
  rw [List.drop_left]
/-- What is read was shown so. -/
theorem scn_once {l : List UInt8} (h : (scn l).e = 0) : okL (scn l).k (scn l).n (scn l).s ∧ shwL (scn l).k (scn l).n (scn l).s ++ (scn l).r = l := by
  unfold scn at *
  split at h
  · rename_i hp
    rw [if_pos hp]
    have := pre_drop hp
    obtain ⟨a, b⟩ := scT_once h
    exact ⟨a, by rw [b]; exact this⟩
  rename_i n1
  rw [if_neg n1]
  split at h
  · rename_i hp
    rw [if_pos hp]
    have := pre_drop hp
    obtain ⟨a, b⟩ := scX_once h
    exact ⟨a, by rw [b]; exact this⟩
  rename_i n2
  rw [if_neg n2]
  split at h
  · rename_i hp
    rw [if_pos hp]
    have := pre_drop hp
    obtain ⟨a, b⟩ := scB_once (.inr rfl) h
    exact ⟨a, by rw [b]; exact this⟩
  rename_i n3
  rw [if_neg n3]
  split at h
  · rename_i hp
    rw [if_pos hp]
    have := pre_drop hp
    obtain ⟨a, b⟩ := scB_once (.inl rfl) h
    exact ⟨a, by rw [b]; exact this⟩
  rename_i n4
  rw [if_neg n4]
  split at h
  · rename_i hp
    rw [if_pos hp]
    have := pre_drop hp
    obtain ⟨a, b⟩ := scI_once h
    exact ⟨a, by rw [b]; exact this⟩
  rename_i n5
  rw [if_neg n5]
  exact scI_once h
theorem goes_digs {t : List UInt8} (h : goesL t = false) : digs t = [] := by
  cases t with
  | nil => rfl
  | cons b t =>
    unfold digs
    rw [List.takeWhile_cons_of_neg]
    intro hd
    simp only [isD, decide_eq_true_eq] at hd
    unfold goesL at h
    rw [dec_ascii (by omega)] at h
    simp only [Bool.or_eq_false_iff, decide_eq_false_iff_not] at h
    exact h.2.1 hd
theorem dec_len' : ∀ (k n : Nat), n < 10 ^ k → 0 < k → (decDigits n).length ≤ k
  | 0, _, _, h => absurd h (by decide)
  | k + 1, n, h, _ => by
    rw [decDigits]
    by_cases hn : n < 10
    · rw [dif_pos hn]
      show 1 ≤ k + 1
      omega
    · rw [dif_neg hn, List.length_append]
      have hp : 10 ^ (k + 1) = 10 ^ k * 10 := Nat.pow_succ 10 k
      have h1 : n / 10 < 10 ^ k := by omega
      have hk : 0 < k := by
        cases k with
        | zero => simp at h; omega
        | succ k => omega
      have := dec_len' k (n / 10) h1 hk
      show _ + 1 ≤ _
      omega
theorem scI_back {neg : Bool} {m : Nat} {t : List UInt8} (hm : m ≤ 9007199254740991) (hn : neg = true → m ≠ 0) (ht : goesL t = false) : scI neg (decDigits m ++ t) = ⟨1, if neg = true then -(m : Int) else m, [], t, 0⟩ := by
  obtain ⟨a, b, c, d⟩ := decDigits_ok m
  have e : digs (decDigits m ++ t) = decDigits m := digs_of b (goes_digs ht)
  have hl := dec_len' 16 m (by omega) (by decide)
  unfold scI
  rw [e, if_neg, if_neg, c, List.drop_left]
  · rw [c]; omega
  · simp only [not_or, not_and]
    refine ⟨a, fun h48 => ?_⟩
    have m0 := d h48
    subst m0
    refine ⟨fun hh => hn hh rfl, ?_⟩
    have : (decDigits 0).length = 1 := by rw [decDigits, dif_pos (by decide)]; rfl
    omega
theorem pre_of (p l : List UInt8) : hasPrefix (p ++ l) p = true := List.isPrefixOf_iff_prefix.2 ⟨l, rfl⟩
theorem pre_not {a b : UInt8} (p l : List UInt8) (h : a ≠ b) : hasPrefix (a :: l) (b :: p) = false := by
  simp only [hasPrefix, List.isPrefixOf, Bool.and_eq_false_iff, beq_eq_false_iff_ne]
  exact .inl (Ne.symm h)
theorem scn_num (a : UInt8) (l : List UInt8) (h : a = 45 ∨ isD a = true) : scn (a :: l) = if a = 45 then scI true l else scI false (a :: l) := by
  have hx : ∀ x : UInt8, x.toNat ≠ 45 → (x.toNat < 48 ∨ 57 < x.toNat) → a ≠ x := by
    intro x h1 h2 e
    subst e
    rcases h with h | h
    · subst h; exact h1 rfl
    · simp only [isD, decide_eq_true_eq] at h; omega
  have m1 := hx 34 (by decide) (by decide)
  have m2 := hx 120 (by decide) (by decide)
  have m3 := hx 116 (by decide) (by decide)
  have m4 := hx 102 (by decide) (by decide)
  unfold scn
  rw [pre_not [] l m1, pre_not [39] l m2, pre_not [114, 117, 101] l m3, pre_not [97, 108, 115, 101] l m4]
  simp only [Bool.false_eq_true, if_false]
  by_cases e : a = 45
  · rw [if_pos e, if_pos (by subst e; exact pre_of [45] l)]
    rfl
  · rw [if_neg e, pre_not [] l e]
    rfl
/-- What is shown is read, whatever stands behind it with which no word goes on. -/
theorem scn_back {k n : Int} {s t : List UInt8} (h : okL k n s) (ht : goesL t = false) : scn (shwL k n s ++ t) = ⟨k, n, s, t, 0⟩ := by
  rcases h with ⟨rfl, rfl, h1, h2⟩ | ⟨rfl, rfl, h1, h2⟩ | ⟨rfl, rfl, h1⟩ | ⟨rfl, rfl, h1⟩
  · unfold shwL itoa
    rw [if_pos rfl]
    by_cases hn : n < 0
    · rw [if_pos hn, List.cons_append, scn_num _ _ (.inl rfl), if_pos rfl, scI_back (by omega) (fun _ => by omega) ht, if_pos rfl, show (-(n.natAbs : Int)) = n by omega]
    · rw [if_neg hn]
      obtain ⟨a, b, -, -⟩ := decDigits_ok n.toNat
      have hb := scI_back (neg := false) (m := n.toNat) (t := t) (by omega) (fun e => by cases e) ht
      cases e : decDigits n.toNat with
      | nil => exact absurd e a
      | cons x u =>
        have hx := b x (by rw [e]; simp)
        have h45 : x ≠ 45 := fun e => by subst e; revert hx; decide
        rw [List.cons_append, scn_num _ _ (.inr hx), if_neg h45, ← List.cons_append, ← e, hb, if_neg (by decide), show ((n.toNat : Int)) = n by omega]
  · unfold shwL
    rw [if_neg (by decide), if_neg (by decide), if_neg (by decide)]
    have e : (34 :: (rns s).flatMap shR ++ [34]) ++ t = [34] ++ ((rns s).flatMap shR ++ 34 :: t) := by simp
    rw [e]
    unfold scn
    rw [if_pos (pre_of _ _)]
    show scT ((rns s).flatMap shR ++ 34 :: t) = _
    unfold scT
    rw [txs_back _ [] t (rns_scal s), List.nil_append, enc_rns s.length s (Nat.le_refl _) h2]
    simp only
    rw [if_neg (by omega)]
  · unfold shwL
    rw [if_neg (by decide), if_pos rfl]
    rcases h1 with rfl | rfl
    · rw [if_neg (by decide)]
      unfold scn
      rw [show hasPrefix ([102, 97, 108, 115, 101] ++ t) [34] = false from pre_not _ _ (by decide), show hasPrefix ([102, 97, 108, 115, 101] ++ t) [120, 39] = false from pre_not _ _ (by decide), show hasPrefix ([102, 97, 108, 115, 101] ++ t) [116, 114, 117, 101] = false from pre_not _ _ (by decide), pre_of]
      simp only [Bool.false_eq_true, if_false, if_true]
      show scB 0 t = _
      unfold scB
      rw [ht]
      rfl
    · rw [if_pos rfl]
      unfold scn
      rw [show hasPrefix ([116, 114, 117, 101] ++ t) [34] = false from pre_not _ _ (by decide), show hasPrefix ([116, 114, 117, 101] ++ t) [120, 39] = false from pre_not _ _ (by decide), pre_of]
      simp only [Bool.false_eq_true, if_false, if_true]
      show scB 1 t = _
      unfold scB
      rw [ht]
      rfl
  · unfold shwL
    rw [if_neg (by decide), if_neg (by decide), if_pos rfl]
    have e : (120 :: 39 :: hexs s ++ [39]) ++ t = [120, 39] ++ (hexs s ++ 39 :: t) := by simp
    rw [e]
    unfold scn
    rw [show hasPrefix ([120, 39] ++ (hexs s ++ 39 :: t)) [34] = false from pre_not _ _ (by decide), pre_of]
    simp only [Bool.false_eq_true, if_false, if_true]
    show scX (hexs s ++ 39 :: t) = _
    unfold scX
    rw [hxs_back]
    simp only
    rw [if_neg (by omega)]
end Go.Proofs.YtacpllmlpmllbaaGreatDoor.V
/- value.scanInt at the examples: walks. -/
namespace Go.Proofs.YtacpllmlpmllbaaGreatDoor.V
open Go.RowKit

theorem results_cell3 {fn : Func} {p u v : Tmp} {ty : TypeId} (h : fn.results = #[.cell p ty, .tmp u, .tmp v]) (tmps : Array Value) (P : Program) (w : World) :
    (results fn tmps).run P w =
      ((asAddr (tmps.getD p undef)).run P w).andThen fun a w₁ => ((loadVar ty a).run P w₁).andThen fun x w₂ => .ok (.tuple #[x, tmps.getD u undef, tmps.getD v undef]) w₂ := by
  simp only [results, h]
  simp [Sem.run_bind, Result.andThen]
abbrev v0 : Value := vv 0 0 ⟨#[]⟩
theorem ascii10 : ∀ (j : Nat) b, (⟨#[48, 49, 50, 51, 52, 53, 54, 55, 56, 57]⟩ : ByteArray).data.toList[j]? = some b → b.toNat < 128 := by
  intro j b h
  have hm : b ∈ [48, 49, 50, 51, 52, 53, 54, 55, 56, 57] := List.mem_of_getElem? h
  simp at hm
  rcases hm with rfl | rfl | rfl | rfl | rfl | rfl | rfl | rfl | rfl | rfl <;> decide
set_option maxRecDepth 100000 in
set_option maxHeartbeats 1000000 in
theorem scanInt_1 (w : World) :
    Calls Tryz.prog 175 #[.string ⟨#[45, 48]⟩] w fun e w' => e = .returned (.tuple #[v0, .string ⟨#[]⟩, .int .i64 3]) ∧ Below w.heap.size w w' := by
  have hb0 : Below w.heap.size w (w.alloc (.cells #[.int .i64 0, .int .i64 0, .string ⟨#[]⟩] 76)) := (Below.refl _ _).alloc (Nat.le_refl _) _
  go_enter Tryz.func175, Tryz.ntmps175
  go_wp2_with fail
  refine (Tryz.strings_CutPrefix _ _ _).mono ?_
  rintro e w1 ⟨rfl, rfl⟩
  rw [show (Lib.trimPrefix (⟨#[45, 48]⟩ : ByteArray).data.toList (⟨#[45]⟩ : ByteArray).data.toList) = [48] from rfl, show Lib.hasPrefix (⟨#[45, 48]⟩ : ByteArray).data.toList (⟨#[45]⟩ : ByteArray).data.toList = true from rfl]
  go_wp2_with fail
  refine (Tryz.strings_TrimLeft _ _ _ (by decide) ascii10).mono ?_
  rintro e w2 ⟨rfl, hb2⟩
  rw [show (Lib.trimLeftS (⟨[48].toArray⟩ : ByteArray).data.toList (⟨#[48, 49, 50, 51, 52, 53, 54, 55, 56, 57]⟩ : ByteArray).data.toList) = [] from by decide +kernel]
  obtain ⟨cc, ff, hb3, hlt⟩ := part_cells0 hb2
  have c0 := cc 0
  have c1 := cc 1
  have c2 := cc 2
  have f0 := ff 0
  have f1 := ff 1
  have f2 := ff 2
  simp at c0 c1 c2
  have hx : (⟨#[48]⟩ : ByteArray).extract 0 1 = ⟨#[48]⟩ := by decide
  clear hb2 cc ff
  go_wp2
  try simp only [Exit.inBlock, Exit.then]
  refine bodyPost_ret (v := .tuple #[v0, .string ⟨#[]⟩, .int .i64 3]) ?_ rfl ⟨rfl, ?_⟩
  · rw [results_cell3 rfl]; go_simp
  · exact ((hb3.setCell (p := ⟨w.heap.size, 0, none⟩) (Nat.le_refl _) _).setCell (p := ⟨w.heap.size, 1, none⟩) (Nat.le_refl _) _).setCell (p := ⟨w.heap.size, 2, none⟩) (Nat.le_refl _) _
set_option maxRecDepth 100000 in
set_option maxHeartbeats 1000000 in
theorem scanInt_2 (w : World) :
    Calls Tryz.prog 175 #[.string ⟨#[48, 48, 55]⟩] w fun e w' => e = .returned (.tuple #[v0, .string ⟨#[]⟩, .int .i64 3]) ∧ Below w.heap.size w w' := by
  have hb0 : Below w.heap.size w (w.alloc (.cells #[.int .i64 0, .int .i64 0, .string ⟨#[]⟩] 76)) := (Below.refl _ _).alloc (Nat.le_refl _) _
  go_enter Tryz.func175, Tryz.ntmps175
  go_wp2_with fail
  refine (Tryz.strings_CutPrefix _ _ _).mono ?_
  rintro e w1 ⟨rfl, rfl⟩
  rw [show (Lib.trimPrefix (⟨#[48, 48, 55]⟩ : ByteArray).data.toList (⟨#[45]⟩ : ByteArray).data.toList) = [48, 48, 55] from rfl, show Lib.hasPrefix (⟨#[48, 48, 55]⟩ : ByteArray).data.toList (⟨#[45]⟩ : ByteArray).data.toList = false from rfl]
  go_wp2_with fail
  refine (Tryz.strings_TrimLeft _ _ _ (by decide) ascii10).mono ?_
  rintro e w2 ⟨rfl, hb2⟩
  rw [show (Lib.trimLeftS (⟨[48, 48, 55].toArray⟩ : ByteArray).data.toList (⟨#[48, 49, 50, 51, 52, 53, 54, 55, 56, 57]⟩ : ByteArray).data.toList) = [] from by decide +kernel]
  obtain ⟨cc, ff, hb3, hlt⟩ := part_cells0 hb2
  have c0 := cc 0
  have c1 := cc 1
  have c2 := cc 2
  have f0 := ff 0
  have f1 := ff 1
  have f2 := ff 2
  simp at c0 c1 c2
  have hx : (⟨#[48, 48, 55]⟩ : ByteArray).extract 0 3 = ⟨#[48, 48, 55]⟩ := by decide
  clear hb2 cc ff
  go_wp2
  try simp only [Exit.inBlock, Exit.then]
  refine bodyPost_ret (v := .tuple #[v0, .string ⟨#[]⟩, .int .i64 3]) ?_ rfl ⟨rfl, ?_⟩
  · rw [results_cell3 rfl]; go_simp
  · exact ((hb3.setCell (p := ⟨w.heap.size, 0, none⟩) (Nat.le_refl _) _).setCell (p := ⟨w.heap.size, 1, none⟩) (Nat.le_refl _) _).setCell (p := ⟨w.heap.size, 2, none⟩) (Nat.le_refl _) _

theorem ix0 : Lib.indexByte (⟨#[48, 49, 50, 51, 52, 53, 54, 55, 56, 57, 97, 98, 99, 100, 101, 102]⟩ : ByteArray).data.toList (Int.toNat 48).toUInt8 = 0 := by decide +kernel
theorem ix15 : Lib.indexByte (⟨#[48, 49, 50, 51, 52, 53, 54, 55, 56, 57, 97, 98, 99, 100, 101, 102]⟩ : ByteArray).data.toList (Int.toNat 102).toUInt8 = 15 := by decide +kernel
abbrev HX : ByteArray := ⟨#[48, 49, 50, 51, 52, 53, 54, 55, 56, 57, 97, 98, 99, 100, 101, 102]⟩
theorem idx0 (c : Int) (w : World) (hc : c = 48) : Calls Tryz.prog 214 #[.string HX, .int .u8 c] w fun e w' => e = .returned (.int .i64 0) ∧ w' = w := by
  subst hc
  have := Tryz.strings_IndexByte HX 48 w
  rw [ix0] at this
  exact this
theorem idx15 (c : Int) (w : World) (hc : c = 102) : Calls Tryz.prog 214 #[.string HX, .int .u8 c] w fun e w' => e = .returned (.int .i64 15) ∧ w' = w := by
  subst hc
  have := Tryz.strings_IndexByte HX 102 w
  rw [ix15] at this
  exact this
theorem cut1 : Lib.cut (⟨#[48, 48, 102, 102, 39]⟩ : ByteArray).data.toList (⟨#[39]⟩ : ByteArray).data.toList = ([48, 48, 102, 102], [], true) := by decide +kernel
def ML (w : World) : Prop := ∃ m, w.cell? ⟨2, 0, none⟩ = some (.int .i64 m)
theorem ML_below {w w' : World} (h : ML w) (hb : Below w.heap.size w w') : ML w' := by
  obtain ⟨m, hm⟩ := h
  exact ⟨m, (hb.cell (p := ⟨2, 0, none⟩) (World.block_lt_of_cell? _ _ hm)).trans hm⟩
def sbB (k : Nat) : Int := if k < 2 then 0 else 255
/-- What holds of scanBytes' loop at every round, at the example. -/
def SbRel (b g : Nat) (w0 : World) (i : Value) (wr : World) : Prop :=
  ∃ k : Nat, k ≤ 2 ∧ i = .int .i64 k ∧ wr.cell? ⟨g, 0, none⟩ = some (.int .u8 0) ∧ wr.cell? ⟨g, 1, none⟩ = some (.int .u8 (sbB k)) ∧ wr.frozen? ⟨g, 0, none⟩ = false ∧ wr.frozen? ⟨g, 1, none⟩ = false ∧ (wr.cell? ⟨b, 0, none⟩ = some (.int .i64 0) ∧ wr.cell? ⟨b, 1, none⟩ = some (.int .i64 0) ∧ wr.cell? ⟨b, 2, none⟩ = some (.string ⟨#[]⟩)) ∧ (wr.frozen? ⟨b, 0, none⟩ = false ∧ wr.frozen? ⟨b, 1, none⟩ = false ∧ wr.frozen? ⟨b, 2, none⟩ = false) ∧ Below b w0 wr
theorem mk2 (W : World) : (Instr.makeSlice 92 (.int .i64 2) (.int .i64 2)).run Tryz.prog W = .ok (.slice (some ⟨W.heap.size, 0, none⟩) 2 2) (W.alloc (.cells #[.int .u8 0, .int .u8 0] 5)) := by
  obtain ⟨i0, hi, hz0, hz1, hz2⟩ := info_parts info_u8
  have := run_makeSlice (P := Tryz.prog) W 92 5 i0 _ Tryz.underlying92 hi hz0 .i64 .i64 2 2 (by decide) (by decide) (by rw [hz1]; decide) (by rw [hz2]; decide) (by decide)
  rw [hz1] at this
  have e : madeCells (Value.int .u8 0).cells (Int.toNat 2 * 1) = #[.int .u8 0, .int .u8 0] := by
    simp [madeCells, Value.cells, Array.range]
    rfl
  rw [e] at this
  exact this
theorem Sb_step {b g : Nat} {w0 wr : World} {k : Nat} (h : SbRel b g w0 (.int .i64 (k : Int)) wr) (hbg : b < g) (hk : k < 2) (x : Int) (hx : x = if k = 0 then 0 else 255) :
    SbRel b g w0 (.int .i64 ((k + 1 : Nat) : Int)) (wr.setCell ⟨g, k, none⟩ (.int .u8 x)).drew := by
  obtain ⟨k', hk', he, d0, d1, e0, e1, ⟨c0, c1, c2⟩, ⟨f0, f1, f2⟩, hb⟩ := h
  obtain rfl : k' = k := by simp at he; omega
  have o : ∀ j i, (⟨g, i, none⟩ : Addr) ≠ ⟨b, j, none⟩ := fun j i e => by have h1 : g = b := congrArg Addr.block e; omega
  refine ⟨k' + 1, by omega, rfl, ?_, ?_, ?_, ?_, ⟨?_, ?_, ?_⟩, ⟨?_, ?_, ?_⟩, (hb.setCell (p := ⟨g, k', none⟩) (Nat.le_of_lt hbg) _).drew⟩
  · rw [World.cell?_drew]
    by_cases h0 : k' = 0
    · subst h0
      rw [World.cell?_setCell_same _ _ _ d0, hx]
      rfl
    · rw [World.cell?_setCell_other _ _ _ _ (fun e => h0 (by have h1 : k' = 0 := congrArg Addr.off e; omega))]
      exact d0
  · rw [World.cell?_drew]
    by_cases h0 : k' = 0
    · subst h0
      rw [World.cell?_setCell_other _ _ _ _ (by simp)]
      exact d1
    · obtain rfl : k' = 1 := by omega
      rw [World.cell?_setCell_same _ _ _ d1, hx]
      rfl
  · simpa using e0
  · simpa using e1
  · rw [World.cell?_drew, World.cell?_setCell_other _ _ _ _ (o 0 k')]; exact c0
  · rw [World.cell?_drew, World.cell?_setCell_other _ _ _ _ (o 1 k')]; exact c1
  · rw [World.cell?_drew, World.cell?_setCell_other _ _ _ _ (o 2 k')]; exact c2
  · simpa using f0
  · simpa using f1
  · simpa using f2
theorem conv2 (w : World) (g : Nat) (h0 : w.cell? ⟨g, 0, none⟩ = some (.int .u8 0)) (h1 : w.cell? ⟨g, 1, none⟩ = some (.int .u8 255)) : (convert 92 9 (.slice (some ⟨g, 0, none⟩) 2 2)).run Tryz.prog w = .ok (.string (strOfNums [0, 255])) w :=
  run_convert_bytes_arg (P := Tryz.prog) w 92 5 Tryz.underlying92 Tryz.underlying5 g 0 2 2 [0, 255] rfl (fun i hi => by
    match i, hi with
    | 0, _ => simpa using h0
    | 1, _ => simpa using h1) 9 Tryz.underlying9
set_option maxRecDepth 100000 in
set_option maxHeartbeats 2000000 in
theorem scanBytes_1 (w : World) (hM : ML w) :
    Calls Tryz.prog 173 #[.string ⟨#[48, 48, 102, 102, 39]⟩] w fun e w' => e = .returned (.tuple #[vv 4 0 ⟨#[0, 255]⟩, .string ⟨#[]⟩, .int .i64 0]) ∧ Below w.heap.size w w' := by
  have hb0 : Below w.heap.size w (w.alloc (.cells #[.int .i64 0, .int .i64 0, .string ⟨#[]⟩] 76)) := (Below.refl _ _).alloc (Nat.le_refl _) _
  obtain ⟨m, hm⟩ := ML_below hM hb0
  go_enter Tryz.func173, Tryz.ntmps173
  go_wp2_with fail
  refine (Tryz.strings_Cut _ _ m _ (by decide) hm).mono ?_
  rintro e w1 ⟨rfl, n, hw1⟩
  rw [cut1]
  obtain ⟨cc, ff, hb1, hlt⟩ := part_cells0 (w := w) (C := #[.int .i64 0, .int .i64 0, .string ⟨#[]⟩]) (t := 76) (w1 := w1) (by rw [hw1]; exact ⟨rfl, rfl, rfl, Nat.le_refl _, fun _ _ => rfl⟩)
  clear hw1 hm hb0
  go_wp2
  rw [mk2]
  have hA := (Below.refl w1.heap.size w1).alloc (Nat.le_refl _) (.cells #[.int .u8 0, .int .u8 0] 5)
  have hne : w.heap.size ≠ w1.heap.size := by omega
  go_wp2
  go_loopw [3, 32] (fun r i wr => r = .string ⟨#[]⟩ ∧ SbRel w.heap.size w1.heap.size w i wr) (fun _ i _ => 2 - (RowKit.intOf i).toNat)
  case atStart =>
    refine ⟨rfl, 0, by decide, rfl, by simp, by simp [sbB], by simp, by simp, ⟨?_, ?_, ?_⟩, ⟨?_, ?_, ?_⟩, hb1.alloc (by omega) _⟩
    · exact (hA.cell (p := ⟨w.heap.size, 0, none⟩) hlt).trans (cc 0)
    · exact (hA.cell (p := ⟨w.heap.size, 1, none⟩) hlt).trans (cc 1)
    · exact (hA.cell (p := ⟨w.heap.size, 2, none⟩) hlt).trans (cc 2)
    · exact (hA.frozen (p := ⟨w.heap.size, 0, none⟩) hlt).trans (ff 0)
    · exact (hA.frozen (p := ⟨w.heap.size, 1, none⟩) hlt).trans (ff 1)
    · exact (hA.frozen (p := ⟨w.heap.size, 2, none⟩) hlt).trans (ff 2)
  case round =>
    have HREL : Hid (SbRel w.heap.size w1.heap.size w u32 wr) := hrel.2
    obtain ⟨rfl, k, hk, rfl, d0, d1, e0, e1, ⟨c0, c1, c2⟩, ⟨f0, f1, f2⟩, hb⟩ := hrel
    have hk3 : k = 0 ∨ k = 1 ∨ k = 2 := by omega
    rcases hk3 with rfl | rfl | rfl
    · go_wp2
      go_region_held3 (fun w' => True) (trivial) (first | (go_at_call 214; refine (idx0 _ _ ?_).mono ?_; rfl; rintro e w' ⟨rfl, rfl⟩) | (go_at_call 214; refine (idx15 _ _ ?_).mono ?_; rfl; rintro e w' ⟨rfl, rfl⟩))
      all_goals go_wp2
      all_goals exact ⟨⟨rfl, Sb_step (k := 0) HREL.out hlt (by decide) _ (by decide +kernel)⟩, by decide⟩
    · go_wp2
      go_region_held3 (fun w' => True) (trivial) (first | (go_at_call 214; refine (idx0 _ _ ?_).mono ?_; rfl; rintro e w' ⟨rfl, rfl⟩) | (go_at_call 214; refine (idx15 _ _ ?_).mono ?_; rfl; rintro e w' ⟨rfl, rfl⟩))
      all_goals go_wp2
      all_goals exact ⟨⟨rfl, Sb_step (k := 1) HREL.out hlt (by decide) _ (by decide +kernel)⟩, by decide⟩
    · have d1' : wr.cell? ⟨w1.heap.size, 1, none⟩ = some (.int .u8 255) := d1
      have hcv := conv2 wr w1.heap.size d0 d1'
      have hst : strOfNums [0, 255] = ⟨#[0, 255]⟩ := rfl
      rw [hst] at hcv
      go_wp2
      try simp only [Exit.inBlock, Exit.then]
      refine bodyPost_ret (v := .tuple #[vv 4 0 ⟨#[0, 255]⟩, .string ⟨#[]⟩, .int .i64 0]) ?_ rfl ⟨rfl, ?_⟩
      · rw [results_cell3 rfl]; go_simp
      · exact ((hb.setCell (p := ⟨w.heap.size, 0, none⟩) (Nat.le_refl _) _).setCell (p := ⟨w.heap.size, 1, none⟩) (Nat.le_refl _) _).setCell (p := ⟨w.heap.size, 2, none⟩) (Nat.le_refl _) _
end Go.Proofs.YtacpllmlpmllbaaGreatDoor.V
/- value.scanRune and scanText at the examples, Scan, Parse; the law's awake: walks. -/
namespace Go.Proofs.YtacpllmlpmllbaaGreatDoor.V
open Go.RowKit

theorem T16_drew {w : World} (h : T16 w) : T16 w.drew := h
theorem sr97 : str (showR 97) = ⟨#[97]⟩ := by decide +kernel
theorem srFF : str (showR 65533) = ⟨#[239, 191, 189]⟩ := by decide +kernel
theorem dec97 : Lib.decodeGo ⟨#[97]⟩ = (97, 1) := by decide +kernel
theorem dec0 : Lib.decodeGo ⟨#[]⟩ = (65533, 0) := by decide +kernel
theorem showRune_97 (w : World) (hT : T16 w) : Calls Tryz.prog 146 #[.int .i32 97] w fun e w' => e = .returned (.string ⟨#[97]⟩) ∧ Below w.heap.size w w' := by
  have := showRune_any 97 w (by unfold scal; omega) (by omega) hT
  rw [sr97] at this
  exact this
theorem showRune_FF (w : World) (hT : T16 w) : Calls Tryz.prog 146 #[.int .i32 65533] w fun e w' => e = .returned (.string ⟨#[239, 191, 189]⟩) ∧ Below w.heap.size w w' := by
  have := showRune_any 65533 w (by unfold scal; omega) (by omega) hT
  rw [srFF] at this
  exact this
set_option maxRecDepth 100000 in
set_option maxHeartbeats 2000000 in
theorem scanRune_a (w : World) (hT : T16 w) (hU : UT w) :
    Calls Tryz.prog 211 #[.string ⟨#[97]⟩] w fun e w' => e = .returned (.tuple #[.int .i32 97, .int .i64 1]) ∧ Below w.heap.size w w' := by
  have hx : (⟨#[97]⟩ : ByteArray).extract 0 1 = ⟨#[97]⟩ := by decide
  go_enter Tryz.func211, Tryz.ntmps211
  go_wp2_with fail
  refine (Tryz.strings_HasPrefix _ _ _).mono ?_
  rintro e w1 ⟨rfl, rfl⟩
  rw [show Lib.hasPrefix (⟨#[97]⟩ : ByteArray).data.toList (⟨#[92]⟩ : ByteArray).data.toList = false from by decide]
  go_wp2_with fail
  refine (Tryz.utf8_DecodeRuneInString _ _ hU).mono ?_
  rintro e w2 ⟨rfl, hb2⟩
  rw [dec97]
  have hT2 := T16_below hT hb2
  go_wp2
  go_region_held3 (fun w' => True) (trivial) (first | (go_at_call 146; refine (showRune_97 _ ?_).mono ?_; exact T16_drew hT2; rintro e w' ⟨rfl, hb3⟩))
  all_goals go_wp2
  all_goals go_ret2
  all_goals exact ⟨rfl, hb2.trans ((Below.drew (Below.refl _ _)).trans (hb3.mono (by have := hb2.size; simpa using this)))⟩
set_option maxRecDepth 100000 in
set_option maxHeartbeats 2000000 in
theorem scanRune_e (w : World) (hT : T16 w) (hU : UT w) :
    Calls Tryz.prog 211 #[.string ⟨#[]⟩] w fun e w' => e = .returned (.tuple #[.int .i32 0, .int .i64 0]) ∧ Below w.heap.size w w' := by
  have hx : (⟨#[]⟩ : ByteArray).extract 0 0 = ⟨#[]⟩ := by decide
  go_enter Tryz.func211, Tryz.ntmps211
  go_wp2_with fail
  refine (Tryz.strings_HasPrefix _ _ _).mono ?_
  rintro e w1 ⟨rfl, rfl⟩
  rw [show Lib.hasPrefix (⟨#[]⟩ : ByteArray).data.toList (⟨#[92]⟩ : ByteArray).data.toList = false from by decide]
  go_wp2_with fail
  refine (Tryz.utf8_DecodeRuneInString _ _ hU).mono ?_
  rintro e w2 ⟨rfl, hb2⟩
  rw [dec0]
  have hT2 := T16_below hT hb2
  go_wp2
  go_region_held3 (fun w' => True) (trivial) (first | (go_at_call 146; refine (showRune_FF _ ?_).mono ?_; exact T16_drew hT2; rintro e w' ⟨rfl, hb3⟩))
  all_goals go_wp2
  all_goals go_ret2
  all_goals exact ⟨rfl, hb2.trans ((Below.drew (Below.refl _ _)).trans (hb3.mono (by have := hb2.size; simpa using this)))⟩
end Go.Proofs.YtacpllmlpmllbaaGreatDoor.V
/- value.scanText at the example, Scan and Parse at the four examples; the law's awake: walks. -/
namespace Go.Proofs.YtacpllmlpmllbaaGreatDoor.V
open Go.RowKit

/-- The result's cells, not yet set. -/
structure Zero (b : Nat) (w : World) : Prop where
  c0 : w.cell? ⟨b, 0, none⟩ = some (.int .i64 0)
  c1 : w.cell? ⟨b, 1, none⟩ = some (.int .i64 0)
  c2 : w.cell? ⟨b, 2, none⟩ = some (.string ⟨#[]⟩)
  f0 : w.frozen? ⟨b, 0, none⟩ = false
  f1 : w.frozen? ⟨b, 1, none⟩ = false
  f2 : w.frozen? ⟨b, 2, none⟩ = false
theorem Zero.below {b B : Nat} {w w' : World} (h : Zero b w) (hb : Below B w w') (hlt : b < B) : Zero b w' :=
  ⟨(hb.cell (p := ⟨b, 0, none⟩) hlt).trans h.c0, (hb.cell (p := ⟨b, 1, none⟩) hlt).trans h.c1, (hb.cell (p := ⟨b, 2, none⟩) hlt).trans h.c2, (hb.frozen (p := ⟨b, 0, none⟩) hlt).trans h.f0, (hb.frozen (p := ⟨b, 1, none⟩) hlt).trans h.f1, (hb.frozen (p := ⟨b, 2, none⟩) hlt).trans h.f2⟩
theorem Zero.new (w : World) : Zero w.heap.size (w.alloc (.cells #[.int .i64 0, .int .i64 0, .string ⟨#[]⟩] 76)) :=
  ⟨by simp, by simp, by simp, by simp, by simp, by simp⟩
abbrev wv (w : World) : World := w.alloc (.cells #[.int .i64 0, .int .i64 0, .string ⟨#[]⟩] 76)
theorem wv_below (w : World) : Below w.heap.size w (wv w) := (Below.refl _ _).alloc (Nat.le_refl _) _
theorem wv_size (w : World) : (wv w).heap.size = w.heap.size + 1 := by simp
theorem load_vv (W : World) (b : Nat) (k n : Int) (s : ByteArray) (c0 : W.cell? ⟨b, 0, none⟩ = some (.int .i64 k)) (c1 : W.cell? ⟨b, 1, none⟩ = some (.int .i64 n)) (c2 : W.cell? ⟨b, 2, none⟩ = some (.string s)) : (loadVar 76 ⟨b, 0, none⟩).run Tryz.prog W = .ok (vv k n s) W := by
  go_simp
abbrev set3 (W : World) (b : Nat) (x y z : Value) : World := ((W.setCell ⟨b, 0, none⟩ x).setCell ⟨b, 1, none⟩ y).setCell ⟨b, 2, none⟩ z
structure Three (b : Nat) (W : World) (x y z : Value) : Prop where
  c0 : W.cell? ⟨b, 0, none⟩ = some x
  c1 : W.cell? ⟨b, 1, none⟩ = some y
  c2 : W.cell? ⟨b, 2, none⟩ = some z
theorem Three.set {b : Nat} {W : World} {x y z : Value} (h : Three b W x y z) (x' y' z' : Value) : Three b (set3 W b x' y' z') x' y' z' := by
  have a1 : (W.setCell ⟨b, 0, none⟩ x').cell? ⟨b, 1, none⟩ = some y := (World.cell?_setCell_other _ _ _ _ (by simp)).trans h.c1
  have a2 : ((W.setCell ⟨b, 0, none⟩ x').setCell ⟨b, 1, none⟩ y').cell? ⟨b, 2, none⟩ = some z := (World.cell?_setCell_other _ _ _ _ (by simp)).trans ((World.cell?_setCell_other _ _ _ _ (by simp)).trans h.c2)
  refine ⟨?_, ?_, ?_⟩
  · rw [World.cell?_setCell_other _ _ _ _ (by simp), World.cell?_setCell_other _ _ _ _ (by simp), World.cell?_setCell_same _ _ _ h.c0]
  · rw [World.cell?_setCell_other _ _ _ _ (by simp), World.cell?_setCell_same _ _ _ a1]
  · rw [World.cell?_setCell_same _ _ _ a2]
theorem Three.alloc {b : Nat} {W : World} {x y z : Value} (h : Three b W x y z) (o : Obj) : Three b (W.alloc o) x y z := by
  have hA := (Below.refl W.heap.size W).alloc (Nat.le_refl _) o
  have hlt : b < W.heap.size := World.block_lt_of_cell? _ _ h.c0
  exact ⟨(hA.cell (p := ⟨b, 0, none⟩) hlt).trans h.c0, (hA.cell (p := ⟨b, 1, none⟩) hlt).trans h.c1, (hA.cell (p := ⟨b, 2, none⟩) hlt).trans h.c2⟩
theorem Zero.three {b : Nat} {w : World} (h : Zero b w) : Three b w (.int .i64 0) (.int .i64 0) (.string ⟨#[]⟩) := ⟨h.c0, h.c1, h.c2⟩
theorem results_v3 {fn : Func} {p u v : Tmp} (h : fn.results = #[.cell p 76, .tmp u, .tmp v]) (tmps : Array Value) (W : World) (b : Nat) (hp : tmps.getD p undef = .pointer (some ⟨b, 0, none⟩)) {k n : Int} {s : ByteArray} (h3 : Three b W (.int .i64 k) (.int .i64 n) (.string s)) :
    (results fn tmps).run Tryz.prog W = .ok (.tuple #[vv k n s, tmps.getD u undef, tmps.getD v undef]) W := by
  rw [results_cell3 h, hp]
  have e : (asAddr (.pointer (some ⟨b, 0, none⟩))).run Tryz.prog W = .ok ⟨b, 0, none⟩ W := rfl
  rw [e]
  simp only [Result.andThen]
  rw [load_vv W b k n s h3.c0 h3.c1 h3.c2]
theorem results_v2 {fn : Func} {p u : Tmp} (h : fn.results = #[.cell p 76, .tmp u]) (tmps : Array Value) (W : World) (b : Nat) (hp : tmps.getD p undef = .pointer (some ⟨b, 0, none⟩)) {k n : Int} {s : ByteArray} (h3 : Three b W (.int .i64 k) (.int .i64 n) (.string s)) :
    (results fn tmps).run Tryz.prog W = .ok (.tuple #[vv k n s, tmps.getD u undef]) W := by
  rw [results_cell_tmp h, hp]
  have e : (asAddr (.pointer (some ⟨b, 0, none⟩))).run Tryz.prog W = .ok ⟨b, 0, none⟩ W := rfl
  rw [e]
  simp only [Result.andThen]
  rw [load_vv W b k n s h3.c0 h3.c1 h3.c2]
/-- The result's three cells set. -/
theorem set3_below {w0 w : World} {b : Nat} (h : Below b w0 w) (x y z : Value) : Below b w0 (((w.setCell ⟨b, 0, none⟩ x).setCell ⟨b, 1, none⟩ y).setCell ⟨b, 2, none⟩ z) :=
  ((h.setCell (p := ⟨b, 0, none⟩) (Nat.le_refl _) _).setCell (p := ⟨b, 1, none⟩) (Nat.le_refl _) _).setCell (p := ⟨b, 2, none⟩) (Nat.le_refl _) _

def lenOf : Value → Nat
  | .string s => s.size
  | _ => 0
/-- What holds of scanText's loop at every round, at the example. -/
def TxRel (w : World) (t : Value) (wr : World) : Prop :=
  (t = .string ⟨#[97]⟩ ∧ IsB (w.heap.size + 1) (w.heap.size + 1) [] wr ∨ t = .string ⟨#[]⟩) ∧ Zero w.heap.size wr ∧ Below w.heap.size w wr ∧ w.heap.size + 1 < wr.heap.size
set_option maxRecDepth 100000 in
set_option maxHeartbeats 2000000 in
theorem scanText_1 (w : World) (hT : T16 w) (hU : UT w) :
    Calls Tryz.prog 172 #[.string ⟨#[97]⟩] w fun e w' => e = .returned (.tuple #[v0, .string ⟨#[]⟩, .int .i64 3]) ∧ Below w.heap.size w w' := by
  have hI := Lib.IsBuilderF.of (Lib.fresh_isBuilder 94 5 (wv w))
  rw [wv_size] at hI
  have hp97 : Lib.hasPrefix (⟨#[97]⟩ : ByteArray).data.toList (⟨#[34]⟩ : ByteArray).data.toList = false := by decide
  have hp0 : Lib.hasPrefix (⟨#[]⟩ : ByteArray).data.toList (⟨#[34]⟩ : ByteArray).data.toList = false := by decide
  have hx : (⟨#[97]⟩ : ByteArray).extract 1 1 = ⟨#[]⟩ := by decide
  go_enter Tryz.func172, Tryz.ntmps172
  go_wp2_with fail
  go_loopw [0] (fun t wr => TxRel w t wr) (fun t _ => lenOf t)
  case atStart => exact ⟨.inl ⟨rfl, hI⟩, (Zero.new w).below ((Below.refl _ (wv w)).alloc (Nat.le_refl _) _) (by simp), (wv_below w).alloc (by simp) _, by simp⟩
  case round =>
    obtain ⟨hs, hz, hb, hsz⟩ := hrel
    rcases hs with ⟨rfl, hI⟩ | rfl
    · go_wp2_with fail
      refine (Tryz.strings_HasPrefix _ _ _).mono ?_
      rintro e w1 ⟨rfl, rfl⟩
      rw [hp97]
      go_wp2_with fail
      refine (scanRune_a _ (T16_below hT hb) (Utf8Tabs_below hU hb)).mono ?_
      rintro e w2 ⟨rfl, hb2⟩
      have hI2 := IsB_below hI hb2
      have hz2 := hz.below hb2 (by omega)
      have hB2 := hb.trans (hb2.mono (by omega))
      have hs2 := hb2.size
      clear hb2 hI hz hb
      go_wp2_with fail
      refine (writeRune_ascii (w.heap.size + 1) (w.heap.size + 1) [] 97 _ (by decide) hI2 (by decide) (by omega)).mono ?_
      rintro e w3 ⟨rfl, hI3, hb3, ok3⟩
      have hz3 := hz2.below hb3 (by omega)
      have hB3 := hB2.trans (hb3.mono (by omega))
      have hs3 := hb3.size
      clear hb3 hI2 hz2 hB2 hI3 ok3
      go_wp2
      go_roundw
      case rel => exact ⟨.inr rfl, hz3, hB3, by omega⟩
      case measure => decide
    · go_wp2_with fail
      refine (Tryz.strings_HasPrefix _ _ _).mono ?_
      rintro e w1 ⟨rfl, rfl⟩
      rw [hp0]
      go_wp2_with fail
      refine (scanRune_e _ (T16_below hT hb) (Utf8Tabs_below hU hb)).mono ?_
      rintro e w2 ⟨rfl, hb2⟩
      obtain ⟨c0, c1, c2, f0, f1, f2⟩ := hz.below hb2 (by omega)
      have hB2 := hb.trans (hb2.mono (by omega))
      clear hb2 hz hb
      go_wp2
      try simp only [Exit.inBlock, Exit.then]
      refine bodyPost_ret (v := .tuple #[v0, .string ⟨#[]⟩, .int .i64 3]) ?_ rfl ⟨rfl, set3_below hB2 _ _ _⟩
      rw [results_cell3 rfl]; go_simp

theorem scan_x (w : World) (hM : ML w) :
    Calls Tryz.prog 117 #[.string ⟨#[120, 39, 48, 48, 102, 102, 39]⟩] w fun e w' => e = .returned (.tuple #[vv 4 0 ⟨#[0, 255]⟩, .string ⟨#[]⟩, .int .i64 0]) ∧ Below w.heap.size w w' := by
  have hp1 : Lib.hasPrefix (⟨#[120, 39, 48, 48, 102, 102, 39]⟩ : ByteArray).data.toList (⟨#[34]⟩ : ByteArray).data.toList = false := by decide
  have hp2 : Lib.hasPrefix (⟨#[120, 39, 48, 48, 102, 102, 39]⟩ : ByteArray).data.toList (⟨#[120, 39]⟩ : ByteArray).data.toList = true := by decide
  have hx : (⟨#[120, 39, 48, 48, 102, 102, 39]⟩ : ByteArray).extract 2 7 = ⟨#[48, 48, 102, 102, 39]⟩ := by decide
  go_enter Tryz.func117, Tryz.ntmps117
  go_wp2_with fail
  refine (Tryz.strings_HasPrefix _ _ _).mono ?_
  rintro e w1 ⟨rfl, rfl⟩
  rw [hp1]
  go_wp2_with fail
  refine (Tryz.strings_HasPrefix _ _ _).mono ?_
  rintro e w1 ⟨rfl, rfl⟩
  rw [hp2]
  go_wp2_with fail
  refine (scanBytes_1 _ (ML_below hM (wv_below w))).mono ?_
  rintro e w2 ⟨rfl, hb2⟩
  have HZ : Hid (Three w.heap.size w2 (.int .i64 0) (.int .i64 0) (.string ⟨#[]⟩)) := ((Zero.new w).below hb2 (by simp)).three
  obtain ⟨c0, c1, c2, f0, f1, f2⟩ := (Zero.new w).below hb2 (by simp)
  have hB2 := (wv_below w).trans (hb2.mono (by simp))
  clear hb2
  go_wp2
  try simp only [Exit.inBlock, Exit.then]
  exact bodyPost_ret (results_v3 rfl _ _ w.heap.size rfl ((HZ.out.set _ _ _).set _ _ _)) rfl ⟨rfl, set3_below (set3_below hB2 _ _ _) _ _ _⟩
set_option maxHeartbeats 1000000 in
theorem scan_q (w : World) (hT : T16 w) (hU : UT w) :
    Calls Tryz.prog 117 #[.string ⟨#[34, 97]⟩] w fun e w' => e = .returned (.tuple #[v0, .string ⟨#[]⟩, .int .i64 3]) ∧ Below w.heap.size w w' := by
  have hp1 : Lib.hasPrefix (⟨#[34, 97]⟩ : ByteArray).data.toList (⟨#[34]⟩ : ByteArray).data.toList = true := by decide
  have hx : (⟨#[34, 97]⟩ : ByteArray).extract 1 2 = ⟨#[97]⟩ := by decide
  go_enter Tryz.func117, Tryz.ntmps117
  go_wp2_with fail
  refine (Tryz.strings_HasPrefix _ _ _).mono ?_
  rintro e w1 ⟨rfl, rfl⟩
  rw [hp1]
  go_wp2_with fail
  refine (scanText_1 _ (T16_below hT (wv_below w)) (Utf8Tabs_below hU (wv_below w))).mono ?_
  rintro e w2 ⟨rfl, hb2⟩
  have HZ : Hid (Three w.heap.size w2 (.int .i64 0) (.int .i64 0) (.string ⟨#[]⟩)) := ((Zero.new w).below hb2 (by simp)).three
  obtain ⟨c0, c1, c2, f0, f1, f2⟩ := (Zero.new w).below hb2 (by simp)
  have hB2 := (wv_below w).trans (hb2.mono (by simp))
  clear hb2
  go_wp2
  try simp only [Exit.inBlock, Exit.then]
  exact bodyPost_ret (results_v3 rfl _ _ w.heap.size rfl ((HZ.out.set _ _ _).set _ _ _)) rfl ⟨rfl, set3_below (set3_below hB2 _ _ _) _ _ _⟩
set_option maxHeartbeats 1000000 in
theorem scan_d (s : ByteArray) (w : World) (h1 : Lib.hasPrefix s.data.toList (⟨#[34]⟩ : ByteArray).data.toList = false) (h2 : Lib.hasPrefix s.data.toList (⟨#[120, 39]⟩ : ByteArray).data.toList = false) (h3 : Lib.hasPrefix s.data.toList (⟨#[116, 114, 117, 101]⟩ : ByteArray).data.toList = false) (h4 : Lib.hasPrefix s.data.toList (⟨#[102, 97, 108, 115, 101]⟩ : ByteArray).data.toList = false)
    (hc : ∀ w, Calls Tryz.prog 175 #[.string s] w fun e w' => e = .returned (.tuple #[v0, .string ⟨#[]⟩, .int .i64 3]) ∧ Below w.heap.size w w') :
    Calls Tryz.prog 117 #[.string s] w fun e w' => e = .returned (.tuple #[v0, .string ⟨#[]⟩, .int .i64 3]) ∧ Below w.heap.size w w' := by
  have HC : Hid (∀ w, Calls Tryz.prog 175 #[.string s] w fun e w' => e = .returned (.tuple #[v0, .string ⟨#[]⟩, .int .i64 3]) ∧ Below w.heap.size w w') := hc
  clear hc
  go_enter Tryz.func117, Tryz.ntmps117
  go_wp2_with fail
  refine (Tryz.strings_HasPrefix _ _ _).mono ?_
  rintro e w1 ⟨rfl, rfl⟩
  rw [h1]
  go_wp2_with fail
  refine (Tryz.strings_HasPrefix _ _ _).mono ?_
  rintro e w1 ⟨rfl, rfl⟩
  rw [h2]
  go_wp2_with fail
  refine (Tryz.strings_HasPrefix _ _ _).mono ?_
  rintro e w1 ⟨rfl, rfl⟩
  rw [h3]
  go_wp2_with fail
  refine (Tryz.strings_HasPrefix _ _ _).mono ?_
  rintro e w1 ⟨rfl, rfl⟩
  rw [h4]
  go_wp2_with fail
  refine (HC.out _).mono ?_
  rintro e w2 ⟨rfl, hb2⟩
  have HZ : Hid (Three w.heap.size w2 (.int .i64 0) (.int .i64 0) (.string ⟨#[]⟩)) := ((Zero.new w).below hb2 (by simp)).three
  obtain ⟨c0, c1, c2, f0, f1, f2⟩ := (Zero.new w).below hb2 (by simp)
  have hB2 := (wv_below w).trans (hb2.mono (by simp))
  clear hb2
  go_wp2
  try simp only [Exit.inBlock, Exit.then]
  exact bodyPost_ret (results_v3 rfl _ _ w.heap.size rfl ((HZ.out.set _ _ _).set _ _ _)) rfl ⟨rfl, set3_below (set3_below hB2 _ _ _) _ _ _⟩

/-- What the walks ask of the world. -/
structure VT (w : World) : Prop where
  u : UT w
  t : T16 w
  m : ML w
theorem VT.below {w w' : World} (h : VT w) (hb : Below w.heap.size w w') : VT w' := ⟨Utf8Tabs_below h.u hb, T16_below h.t hb, ML_below h.m hb⟩
abbrev exT : ByteArray := ⟨#[97, 34, 195, 169, 10, 1]⟩
theorem exT_chk : chkV 2 0 exT = true := by decide +kernel
theorem exT_rns : rns exT.data.toList = [97, 34, 233, 10, 1] := by decide +kernel
theorem exT_show : str (34 :: shows (rns exT.data.toList) ++ [34]) = ⟨#[34, 97, 92, 34, 195, 169, 92, 110, 92, 117, 123, 49, 125, 34]⟩ := by rw [exT_rns]; decide +kernel
theorem exT_ok : ∀ c ∈ rns exT.data.toList, okR c := by
  rw [exT_rns]
  intro c hc
  simp at hc
  unfold okR
  omega
theorem show_ex (w : World) (h : VT w) : Calls Tryz.prog 53 #[vv 2 0 exT] w fun e w' => e = .returned (.string ⟨#[34, 97, 92, 34, 195, 169, 92, 110, 92, 117, 123, 49, 125, 34]⟩) ∧ Below w.heap.size w w' := by
  have := show_text exT w exT_chk h.t h.u exT_ok
  rw [exT_show] at this
  exact this

end Go.Proofs.YtacpllmlpmllbaaGreatDoor.V
