/- name.smalls, Fold, Key, Compare, Same, Runes: walks. -/
import Derived.Test.YtlndgepoekllkaaGreatDoorZk0
import Derived.Lib.SplitLaws
import Derived.Lib.Strings
import Derived.Lib.Bytealg
namespace Go.Proofs.YtlndgepoekllkaaGreatDoor
open Go.RowKit

abbrev UT (w : World) : Prop := Lib.Utf8Tabs 0 1 w

/-- An append of one element onto a row that the call owns; every other block stays. -/
theorem wpl_apps {P : Program} (wr : World) {ops : Array Oper} {rest : List Oper} {o : Oper} {a : Act} {Q : Exit → Act → World → Prop} (hgd : o.guard = none) (s x : Operand) (t e : TypeId)
    (ho : o.op = .call { callee := .builtin .append, args := #[s, x], argTypes := #[t, t] })
    (i : TypeInfo) (z : Value) (bytes : Nat) (ht : P.underlying t = some (.slice e)) (hi : P.info? e = some i) (hz : i.zero = some z)
    (hsize : i.size = 1) (hby : i.bytes = bytes) (hzs : z.cells.size = 1)
    (base : Nat) (v : Value) (n : Nat) (xs : List Value) (hs : a.eval s = v) (hown : wr.ownsRow base e 1 v n xs)
    (el : Value) (N : Nat) (hN : N = wr.heap.size) (hx : a.eval x = .slice (some ⟨N, 0, none⟩) 1 1) (h1 : el.oneCell' = true)
    (hbytes : (n + 1) * bytes ≤ 140737488355328) (h63 : n + 1 ≤ maxLen) (hbase : base ≤ wr.heap.size)
    (h : ∀ v' w', w'.ownsRow base e 1 v' (n + 1) (xs ++ [el]) → Below base wr w' → (∀ b, b < wr.heap.size → v.ownBlock ≠ some b → w'.heap[b]? = wr.heap[b]?) → wpList P ops Q rest (a.put o.dst v') w') :
    wpList P ops Q (o :: rest) a (wr.alloc (.cells #[el] e)) := by
  subst hN
  refine wpList_append_own _ hgd s x t ho base e i z 1 bytes ht hi hz hsize hby hzs (by omega) v n xs hs (hown.alloc _) ⟨wr.heap.size, 0, none⟩ 1 1 [el] hx rfl ?_ ?_ h63 hbytes ?_ ?_
  · intro j u hj
    match j, hj with
    | 0, hj => simp at hj; subst hj; simp [Addr.add]
  · intro u hu; simp at hu; subst hu; exact h1
  · simp; omega
  · intro v' w' h2 h3 h4
    refine h v' w' h2 ?_ ?_
    · exact ((Below.refl _ _).alloc hbase _).grown h3 (by simp; omega) (fun k hk => (hown.lt k hk).1)
    · intro b hb hne
      rw [h3.block b (by simp; omega) (fun e => hne e.symm)]
      exact Below.heap_alloc _ _ _ hb

theorem own_ne_iter {w : World} {base : Nat} {e : TypeId} {sz : Nat} {v : Value} {n : Nat} {xs : List Value} (h : w.ownsRow base e sz v n xs) {k : Nat} {s : ByteArray} {p : Nat} (hk : w.heap[k]? = some (.stringIter s p)) : v.ownBlock ≠ some k := by
  obtain ⟨_, h2⟩ := h
  rcases h2 with ⟨rfl, _⟩ | ⟨g, cap, cur, rfl, _, hg, _⟩
  · simp [Value.ownBlock]
  · intro e1
    simp [Value.ownBlock] at e1
    subst e1
    rw [hk] at hg
    cases hg
theorem own_iter {w : World} {base : Nat} {e : TypeId} {sz : Nat} {v : Value} {n : Nat} {xs : List Value} (h : w.ownsRow base e sz v n xs) {k : Nat} {s : ByteArray} {p : Nat} (hk : w.heap[k]? = some (.stringIter s p)) (p' : Nat) : (w.iterAt k s p').ownsRow base e sz v n xs :=
  h.kept (row := some k) ⟨rfl, rfl, rfl, by rw [Lib.iterAt_size]; exact Nat.le_refl _, fun j _ hj => Lib.iterAt_other w k j s p' (fun e => hj (by rw [e]))⟩ (.inr (own_ne_iter h hk))

def rcells (l : List Nat) : List Value := l.map fun (c : Nat) => Value.int .i32 (c : Int)
theorem info_rune : (Tryz.prog.info? 21).map (fun i => (i.zero, i.size, i.bytes)) = some (some (.int .i32 0), 1, 4) := by kernel_rfl

/-- What smalls leaves. -/
def SmPost (l : List Nat) (w : World) (e : Ending) (w' : World) : Prop :=
  ∃ v, e = .returned v ∧ IsRow w' 1 v l.length (rcells l) ∧ Below w.heap.size w w'
def SmRel (s : ByteArray) (w w1 : World) (t : Value) (wr : World) : Prop :=
  ∃ (pos : Nat) (acc : List Nat), wr.ownsRow w.heap.size 21 1 t acc.length (rcells acc) ∧ wr.heap[w1.heap.size]? = some (.stringIter s pos) ∧ Below w.heap.size w wr ∧ acc ++ (rns (s.data.toList.drop pos)).map smallN = (rns s.data.toList).map smallN ∧ acc.length ≤ pos

set_option maxRecDepth 100000 in
set_option maxHeartbeats 2000000 in
theorem smalls_any (s : ByteArray) (w : World) (hs : s.size ≤ 1000000) :
    Calls Tryz.prog 84 #[.string s] w fun e w' => SmPost ((rns s.data.toList).map smallN) w e w' := by
  obtain ⟨i0, hi0, hz0, hz1, hz2⟩ := info_parts info_rune
  obtain ⟨w1, hmk, hown, hgr⟩ := run_make_own (P := Tryz.prog) w w.heap.size 130 21 i0 _ 1 Tryz.underlying130 hi0 hz0 hz1 .i64 .i64 s.size (by rw [hz2]; omega) (by unfold maxLen; omega) (Nat.le_refl _)
  have hb1 : Below w.heap.size w w1 := (Below.refl w.heap.size w).grown hgr (Nat.le_refl _) (fun k hk => by cases hk)
  have hs1 := hb1.size
  clear hgr
  go_enter Tryz.func84, Tryz.ntmps84
  go_wp2
  go_loopw [3] (fun t wr => SmRel s w w1 t wr) (fun _ wr => s.size - wr.iterPos w1.heap.size)
  case atStart =>
    exact ⟨0, [], hown.alloc (.stringIter s 0), World.iter_heap w1 s 0, hb1.alloc (by omega) (.stringIter s 0), rfl, Nat.le_refl _⟩
  case round =>
    obtain ⟨pos, acc, hown, hit, hbw, hck, hal⟩ := hrel
    have HC : Hid (acc ++ (rns (s.data.toList.drop pos)).map smallN = (rns s.data.toList).map smallN) := hck
    clear hck
    have hsz : w1.heap.size < wr.heap.size := (Array.getElem?_eq_some_iff.1 hit).1
    by_cases hp : pos < s.size
    · have hnx : ∀ ty, (Instr.next (.pointer (some ⟨w1.heap.size, 0, none⟩)) true ty).run Tryz.prog wr = _ := fun ty => Lib.run_next_any_at wr w1.heap.size s pos ty hit hp
      have hwd := Lib.decode_width_pos s pos hp
      have hit2 := Lib.iterAt_heap wr w1.heap.size s pos (pos + (Utf8.decode s pos).2) hit
      have hbw2 := Lib.below_iterAt hbw (k := w1.heap.size) hs1 s (pos + (Utf8.decode s pos).2)
      have hown2 := own_iter hown hit (pos + (Utf8.decode s pos).2)
      have hrl := Lib.rune_le s pos
      have hrn : Hid (rns (s.data.toList.drop pos) = (Utf8.decode s pos).1 :: rns (s.data.toList.drop (pos + (Utf8.decode s pos).2))) := rns_at s pos hp
      have hmeas : Hid (s.size - (pos + (Utf8.decode s pos).2) < s.size - wr.iterPos w1.heap.size) := by
        show _ < _
        rw [iterPos_of hit]; omega
      generalize (Utf8.decode s pos).1 = c at *
      generalize (Utf8.decode s pos).2 = d at *
      generalize hW : wr.iterAt w1.heap.size s (pos + d) = W at *
      have hszW : w1.heap.size < W.heap.size := (Array.getElem?_eq_some_iff.1 hit2).1
      have hne := own_ne_iter hown2 hit2
      have HC2 : Hid ((acc ++ [smallN c]) ++ (rns (s.data.toList.drop (pos + d))).map smallN = (rns s.data.toList).map smallN) := by
        show _ = _; rw [← HC.out, hrn.out]; simp
      have HX : Hid (rcells acc ++ [Value.int .i32 (smallN c : Nat)] = rcells (acc ++ [smallN c])) := by show _ = _; simp [rcells]
      clear HC hrn hW hown
      go_wp2_with (first | (go_at_call 102; refine (small_any _ _ (by omega) (by omega)).mono ?_; rintro e w' ⟨rfl, rfl⟩; rw [smallZ_nat]) | (at_builtin; refine wpl_apps _ rfl (.tmp 14) (.tmp 17) 130 21 rfl i0 _ 4 Tryz.underlying130 hi0 hz0 hz1 hz2 rfl _ _ _ _ rfl hown2 (.int .i32 (smallN c : Nat)) _ rfl rfl rfl (by omega) (by unfold maxLen; omega) (by omega) ?_; intro v3 w3 hown3 hb3 hst3))
      have hit3 : Hid (w3.heap[w1.heap.size]? = some (.stringIter s (pos + d))) := (hst3 _ hszW hne).trans hit2
      have hmW : Hid (w3.iterPos w1.heap.size = pos + d) := iterPos_of hit3.out
      have HO : Hid (w3.ownsRow w.heap.size 21 1 v3 (acc ++ [smallN c]).length (rcells (acc ++ [smallN c]))) := by
        show World.ownsRow _ _ _ _ _ _ _
        rw [← HX.out, List.length_append]
        exact hown3
      have HB : Hid (Below w.heap.size w w3) := hbw2.trans hb3
      clear hst3 hown3 hb3 hown2 hit2 hbw2
      go_wp2
      go_roundw
      case rel => exact ⟨pos + d, acc ++ [smallN c], HO.out, hit3.out, HB.out, HC2.out, by simp; omega⟩
      case measure => rw [hmW.out]; exact hmeas.out
    · have hnx : ∀ ty, (Instr.next (.pointer (some ⟨w1.heap.size, 0, none⟩)) true ty).run Tryz.prog wr = _ := fun ty => Lib.run_next_end_at wr w1.heap.size s pos ty hit hp
      have HC2 : Hid (acc = (rns s.data.toList).map smallN) := by show _ = _; rw [← HC.out, rns_end s pos hp]; simp
      have HO : Hid (IsRow wr 1 u3 acc.length (rcells acc)) := IsRow.own hown
      clear HC hown
      go_wp2
      go_ret
      refine ⟨_, rfl, ?_, hbw⟩
      rw [← HC2.out]
      exact HO.out
end Go.Proofs.YtlndgepoekllkaaGreatDoor
/- name.Fold, Key, Compare, Same, Runes; the law's awake: walks. -/
namespace Go.Proofs.YtlndgepoekllkaaGreatDoor
open Go.RowKit

theorem ba_eq {a b : ByteArray} (h : a.data.toList = b.data.toList) : a = b := by
  cases a; cases b
  simp only [Array.toList_inj] at h
  rw [h]
theorem ba_append (a b : ByteArray) : (a ++ b).data.toList = a.data.toList ++ b.data.toList := by
  rw [ByteArray.data_append, Array.toList_append]
set_option maxRecDepth 100000 in
theorem runesBytes_enc : ∀ (l : List Nat) (s : ByteArray), ((l.map fun (c : Nat) => (c : Int)).foldl (fun r n => r ++ Utf8.encode n) s).data.toList = s.data.toList ++ l.flatMap enc
  | [], s => by simp
  | c :: l, s => by
    rw [List.map_cons, List.foldl_cons, runesBytes_enc l, ba_append, List.flatMap_cons, List.append_assoc]
    rfl
/-- Bytes as a text. -/
def str (l : List UInt8) : ByteArray := ⟨l.toArray⟩
theorem str_data (l : List UInt8) : (str l).data.toList = l := by simp [str]
theorem str_of (s : ByteArray) : str s.data.toList = s := by cases s; simp [str]
theorem str_size (l : List UInt8) : (str l).size = l.length := by simp [str, ByteArray.size]
theorem conv_runes {w : World} {v : Value} {l : List Nat} (h : IsRow w 1 v l.length (rcells l)) :
    (convert 130 9 v).run Tryz.prog w = .ok (.string (str (l.flatMap enc))) w := by
  have e : runesBytes (l.map fun (c : Nat) => (c : Int)) = str (l.flatMap enc) := ba_eq (by
    rw [str_data]
    unfold runesBytes
    rw [runesBytes_enc]
    rfl)
  rw [← e]
  rcases h.2 with ⟨h0, a, cap, rfl⟩ | ⟨b, off, cap, rfl, hb, hc, hm, hcell⟩
  · have hl : l = [] := List.eq_nil_of_length_eq_zero h0
    subst hl
    cases a with
    | none => exact run_convert_runes_nil w _ _ 21 _ _ Tryz.underlying130 Tryz.underlying21 Tryz.underlying9
    | some a => exact run_convert_runes w _ _ 21 a 0 cap [] (by simp) Tryz.underlying130 Tryz.underlying21 Tryz.underlying9 (by intro j hj; simp at hj)
  · have := run_convert_runes (P := Tryz.prog) w 130 9 21 ⟨b, off, none⟩ l.length cap (l.map fun (c : Nat) => (c : Int)) (by simp) Tryz.underlying130 Tryz.underlying21 Tryz.underlying9 (by
      intro j hj
      have hj' : j < l.length := by simpa using hj
      have e1 : (⟨b, off, none⟩ : Addr).add j = ⟨b, off + j, none⟩ := by unfold Addr.add; split <;> simp_all
      rw [e1, hcell j (.int .i32 (l[j] : Nat)) (by simp [rcells, hj'])]
      simp [List.getD, hj'])
    rw [this]
    have e2 : (l.map fun (c : Nat) => (c : Int)).take l.length = l.map fun (c : Nat) => (c : Int) := List.take_of_length_le (by simp)
    rw [e2]

set_option maxHeartbeats 1000000 in
theorem fold_any (s : ByteArray) (w : World) (hs : s.size ≤ 1000000) (hT : UT w) :
    Calls Tryz.prog 56 #[.string s] w fun e w' => e = .returned (.string (str (foldL s.data.toList))) ∧ Below w.heap.size w w' := by
  by_cases hv : Lib.validD s.data.toList = true
  · have HF : Hid (str (((rns s.data.toList).map smallN).flatMap enc) = str (foldL s.data.toList)) := by show _ = _; rw [foldL, if_pos hv]
    go_enter Tryz.func56, Tryz.ntmps56
    go_wp2_with fail
    refine (Tryz.utf8_ValidString s _ (by omega) hT).mono ?_
    rintro e w1 ⟨rfl, hb1⟩
    rw [hv]
    go_wp2_with fail
    refine (smalls_any s _ hs).mono ?_
    rintro e w2 ⟨v2, rfl, hv2, hb2⟩
    have hcv := conv_runes hv2
    rw [HF.out] at hcv
    have hb : Hid (Below w.heap.size w w2) := hb1.trans (hb2.mono hb1.size)
    clear hb1 hb2 hv2
    go_wp2
    go_ret
    exact ⟨rfl, hb.out⟩
  · have hv' : Lib.validD s.data.toList = false := by simpa using hv
    have HF : Hid (s = str (foldL s.data.toList)) := by show _ = _; rw [foldL, if_neg hv, str_of]
    go_enter Tryz.func56, Tryz.ntmps56
    go_wp2_with fail
    refine (Tryz.utf8_ValidString s _ (by omega) hT).mono ?_
    rintro e w1 ⟨rfl, hb1⟩
    rw [hv']
    go_wp2
    go_ret
    exact ⟨by rw [← HF.out]; rfl, hb1⟩

theorem fold_size (s : ByteArray) : (str (foldL s.data.toList)).size ≤ 4 * s.size := by
  rw [str_size]
  have := foldL_len s.data.toList
  have e : s.data.toList.length = s.size := Array.length_toList
  omega
def cmpL (a b : List UInt8) : Int := Lib.compareBytes (foldL a) (foldL b)
def sameL (a b : List UInt8) : Bool := decide (foldL a = foldL b)
end Go.Proofs.YtlndgepoekllkaaGreatDoor
/- Bytes and runes cut at points; what a name's parts are: plain, of no program. -/
namespace Go.Proofs.YtlndgepoekllkaaGreatDoor
open Go.Lib
set_option maxRecDepth 100000

/-- Put a sign ahead of the first piece. -/
def onto {α : Type} (b : α) : List (List α) → List (List α)
  | [] => [[b]]
  | p :: ps => (b :: p) :: ps
def cutB : List UInt8 → List (List UInt8)
  | [] => [[]]
  | b :: l => if b = 46 then [] :: cutB l else onto b (cutB l)
def cutR : List Nat → List (List Nat)
  | [] => [[]]
  | c :: l => if c = 46 then [] :: cutR l else onto c (cutR l)
theorem cutR_ne : ∀ l, cutR l ≠ []
  | [] => by simp [cutR]
  | b :: l => by
    unfold cutR
    split
    · simp
    · cases cutR l <;> simp [onto]

theorem split_cut : ∀ l : List UInt8, splitK [46] 0 (count l [46]) l = cutB l
  | [] => by rw [count_one]; rfl
  | b :: l => by
    have ih := split_cut l
    by_cases h : b = 46
    · subst h
      rw [count_cons_eq, Nat.add_comm, splitK, show index (46 :: l) [46] = 0 by rw [index]; simp [List.isPrefixOf]]
      simp [cutB, ih]
    · rw [count_cons_ne b 46 l h]
      have hp : ([46] : List UInt8).isPrefixOf (b :: l) = false := by simp [List.isPrefixOf, Ne.symm h]
      have hix : index (b :: l) [46] = if index l [46] == -1 then -1 else index l [46] + 1 := by rw [index, hp]; simp
      rw [show cutB (b :: l) = onto b (cutB l) by rw [cutB, if_neg h], ← ih]
      generalize count l [46] = k
      cases k with
      | zero => rfl
      | succ k =>
        unfold splitK
        by_cases hm : index l [46] = -1
        · rw [hix, if_pos (beq_iff_eq.2 hm)]
          simp [hm, onto]
        · have hge := index_ge l [46]
          obtain ⟨j, hj⟩ : ∃ j : Nat, index l [46] = j := ⟨(index l [46]).toNat, by omega⟩
          have hne : ¬ (index l [46] == -1) = true := fun e => hm (beq_iff_eq.1 e)
          have hne2 : ¬ (((j : Int) + 1) == -1) = true := fun e => by have := beq_iff_eq.1 e; omega
          have hne3 : ¬ ((j : Int) == -1) = true := fun e => by have := beq_iff_eq.1 e; omega
          rw [hix, if_neg hne, hj, if_neg hne2, if_neg hne3]
          have e1 : ((j : Int) + 1).toNat = j + 1 := by omega
          rw [e1]
          simp [onto]

theorem ofNat_ne {n : Nat} (h : n < 256) (h2 : n ≠ 46) : (46 : UInt8) ≠ UInt8.ofNat n := by
  intro e
  have := congrArg UInt8.toNat e
  rw [toNat_of h] at this
  exact h2 this.symm
theorem enc_no {c : Nat} (hs : scal c) (h : c ≠ 46) : (46 : UInt8) ∉ enc c := by
  by_cases h1 : c < 128
  · rw [enc1 h1]
    simp only [List.mem_cons, List.not_mem_nil, or_false]
    exact ofNat_ne (by omega) h
  by_cases h2 : c < 2048
  · rw [enc2 (by omega) h2]
    simp only [List.mem_cons, List.not_mem_nil, or_false, not_or]
    exact ⟨ofNat_ne (by omega) (by omega), ofNat_ne (by omega) (by omega)⟩
  by_cases h3 : c < 65536
  · rw [enc3 (by omega) h3 hs]
    simp only [List.mem_cons, List.not_mem_nil, or_false, not_or]
    exact ⟨ofNat_ne (by omega) (by omega), ofNat_ne (by omega) (by omega), ofNat_ne (by omega) (by omega)⟩
  · rw [enc4 (by omega) hs]
    unfold scal at hs
    simp only [List.mem_cons, List.not_mem_nil, or_false, not_or]
    exact ⟨ofNat_ne (by omega) (by omega), ofNat_ne (by omega) (by omega), ofNat_ne (by omega) (by omega), ofNat_ne (by omega) (by omega)⟩
theorem enc46 : enc 46 = [46] := by decide +kernel
theorem cutB_app : ∀ (x l : List UInt8), (46 : UInt8) ∉ x → ∀ h t, cutB l = h :: t → cutB (x ++ l) = (x ++ h) :: t
  | [], l, _, h, t, e => by simpa using e
  | b :: x, l, hn, h, t, e => by
    have hb : b ≠ 46 := fun e => hn (by simp [e])
    have ih := cutB_app x l (fun m => hn (by simp [m])) h t e
    rw [List.cons_append, cutB, if_neg hb, ih]
    rfl
theorem cut_enc : ∀ cs : List Nat, (∀ c ∈ cs, scal c) → cutB (cs.flatMap enc) = (cutR cs).map (·.flatMap enc)
  | [], _ => rfl
  | c :: cs, hs => by
    have ih := cut_enc cs (fun x hx => hs x (List.mem_cons_of_mem _ hx))
    rw [List.flatMap_cons]
    by_cases h : c = 46
    · subst h
      rw [enc46]
      show cutB (46 :: cs.flatMap enc) = _
      rw [cutB, if_pos rfl, ih, cutR, if_pos rfl]
      rfl
    · rw [cutR, if_neg h]
      cases hc : cutR cs with
      | nil => exact absurd hc (cutR_ne cs)
      | cons q qs =>
        rw [hc] at ih
        rw [cutB_app (enc c) _ (enc_no (hs c (by simp)) h) (q.flatMap enc) (qs.map (·.flatMap enc)) ih]
        simp [onto]

/-! ### parts -/
def okp : Bool → List Nat → Bool
  | f, [] => !f
  | f, c :: q => if beginsN c then okp false q else if f then false else if c ≠ 45 ∧ ¬ (48 ≤ c ∧ c ≤ 57) then false else okp f q
def allok (f : Bool) : List (List Nat) → Bool
  | [] => false
  | q :: qs => okp f q && qs.all (okp true)
theorem begins46 : beginsN 46 = false := by decide
theorem chk_cut : ∀ (cs : List Nat) (p r : Nat) (f : Bool), chk p r f cs = if allok f (cutR cs) = true then (if 5 < p + (cutR cs).length - 1 ∨ 40 < r + cs.length then 2 else 0) else 3
  | [], p, r, f => by
    cases f
    · simp [chk, cutR, allok, okp]
    · simp [chk, cutR, allok, okp]
  | c :: cs, p, r, f => by
    have hl : 0 < (cutR cs).length := List.length_pos_iff.2 (cutR_ne cs)
    by_cases h : c = 46
    · subst h
      rw [cutR, if_pos rfl]
      simp only [chk, begins46, if_true, Bool.false_eq_true, if_false]
      cases f
      · have e : allok false ([] :: cutR cs) = allok true (cutR cs) := by
          cases hc : cutR cs with
          | nil => exact absurd hc (cutR_ne cs)
          | cons q qs => simp [allok, okp]
        rw [chk_cut cs (p + 1) (r + 1) true, e]
        have e2 : p + 1 + (cutR cs).length - 1 = p + ([] :: cutR cs).length - 1 := by simp only [List.length_cons]; omega
        have e3 : r + 1 + cs.length = r + (46 :: cs).length := by simp only [List.length_cons]; omega
        rw [e2, e3]
        simp
      · simp [allok, okp]
    · rw [cutR, if_neg h]
      cases hc : cutR cs with
      | nil => exact absurd hc (cutR_ne cs)
      | cons q qs =>
        have ih1 := fun f => chk_cut cs p (r + 1) f
        rw [hc] at ih1
        have e3 : r + 1 + cs.length = r + (c :: cs).length := by simp only [List.length_cons]; omega
        have e4 : (onto c (q :: qs)).length = (q :: qs).length := rfl
        rw [e4, ← e3]
        have go : ∀ g, allok f (onto c (q :: qs)) = allok g (q :: qs) → chk p r f (c :: cs) = chk p (r + 1) g cs → chk p r f (c :: cs) = if allok f (onto c (q :: qs)) = true then (if 5 < p + (q :: qs).length - 1 ∨ 40 < r + 1 + cs.length then 2 else 0) else 3 := by
          intro g h1 h2
          rw [h2, ih1 g, h1]
        have no : allok f (onto c (q :: qs)) = false → chk p r f (c :: cs) = 3 → chk p r f (c :: cs) = if allok f (onto c (q :: qs)) = true then (if 5 < p + (q :: qs).length - 1 ∨ 40 < r + 1 + cs.length then 2 else 0) else 3 := by
          intro h1 h2
          rw [h2, h1]
          simp
        by_cases hb : beginsN c = true
        · exact go false (by simp [allok, onto, okp, hb]) (by simp [chk, hb])
        · cases f
          · by_cases hg : c ≠ 45 ∧ ¬ (48 ≤ c ∧ c ≤ 57)
            · refine no ?_ ?_
              · simp only [allok, onto, okp, hb, if_pos hg]; simp
              · simp only [chk, hb, h, if_pos hg]; simp
            · refine go false ?_ ?_
              · simp only [allok, onto, okp, hb, if_neg hg]; simp
              · simp only [chk, hb, h, if_neg hg]; simp
          · exact no (by simp [allok, onto, okp, hb]) (by simp [chk, hb])
end Go.Proofs.YtlndgepoekllkaaGreatDoor
/- A name's parts and beginnings: plain, of no program. -/
namespace Go.Proofs.YtlndgepoekllkaaGreatDoor
open Go.Lib
set_option maxRecDepth 100000

theorem chk_no : ∀ (cs : List Nat) (p r : Nat) (f : Bool), chk p r f cs = 0 → 65533 ∉ cs
  | [], _, _, _ => by simp
  | c :: cs, p, r, f => by
    intro h hm
    rcases List.mem_cons.1 hm with rfl | hm
    · have hb : beginsN 65533 = false := by decide
      simp only [chk, hb] at h
      cases f <;> simp at h
    · simp only [chk] at h
      split at h
      · exact chk_no cs _ _ _ h hm
      split at h
      · cases h
      split at h
      · exact chk_no cs _ _ _ h hm
      split at h
      · cases h
      · exact chk_no cs _ _ _ h hm
theorem valid_of_no : ∀ (n : Nat) (l : List UInt8), l.length ≤ n → 65533 ∉ rns l → validD l = true
  | 0, l, hn, _ => by
    have : l = [] := List.eq_nil_of_length_eq_zero (by omega)
    subst this
    rfl
  | n + 1, l, hn, h => by
    by_cases hne : l = []
    · subst hne; rfl
    have hl : 0 < l.length := List.length_pos_iff.2 hne
    have hw := decodeL_width l
    rw [rns_step l hne] at h
    rw [validD_step l hne, if_neg (fun e => h (by rw [e.1]; simp))]
    exact valid_of_no n _ (by rw [List.length_drop]; omega) (fun m => h (List.mem_cons_of_mem _ m))
theorem valid_of_name {l : List UInt8} (h : checkL l = 0) : validD l = true := valid_of_no l.length l (Nat.le_refl _) (chk_no _ _ _ _ h)

def joinR : List (List Nat) → List Nat
  | [] => []
  | [q] => q
  | q :: r :: qs => q ++ 46 :: joinR (r :: qs)
theorem joinR_cons (q : List Nat) {qs : List (List Nat)} (h : qs ≠ []) : joinR (q :: qs) = q ++ 46 :: joinR qs := by
  cases qs with
  | nil => exact absurd rfl h
  | cons r qs => rfl
theorem joinR_onto (c : Nat) {qs : List (List Nat)} (h : qs ≠ []) : joinR (onto c qs) = c :: joinR qs := by
  match qs, h with
  | [q], _ => rfl
  | q :: r :: qs, _ => rfl
theorem join_cut : ∀ cs, joinR (cutR cs) = cs
  | [] => rfl
  | c :: cs => by
    rw [cutR]
    split
    · rename_i h
      rw [joinR_cons [] (cutR_ne cs), join_cut cs, h]; rfl
    · rw [joinR_onto c (cutR_ne cs), join_cut cs]
theorem cut_no : ∀ cs, ∀ q ∈ cutR cs, 46 ∉ q
  | [] => by simp [cutR]
  | c :: cs => by
    have ih := cut_no cs
    rw [cutR]
    split
    · intro q hq
      rcases List.mem_cons.1 hq with rfl | hq
      · simp
      · exact ih q hq
    · rename_i h
      cases hc : cutR cs with
      | nil => exact absurd hc (cutR_ne cs)
      | cons p ps =>
        rw [hc] at ih
        intro q hq
        rcases List.mem_cons.1 hq with rfl | hq
        · intro m
          rcases List.mem_cons.1 m with e | m
          · exact h e.symm
          · exact ih p (by simp) m
        · exact ih q (by simp [hq])
theorem cut_app : ∀ (x cs : List Nat), 46 ∉ x → ∀ h t, cutR cs = h :: t → cutR (x ++ cs) = (x ++ h) :: t
  | [], cs, _, h, t, e => by simpa using e
  | b :: x, cs, hn, h, t, e => by
    have hb : b ≠ 46 := fun e => hn (by simp [e])
    have ih := cut_app x cs (fun m => hn (by simp [m])) h t e
    rw [List.cons_append, cutR, if_neg hb, ih]
    rfl
theorem allok_all {qs : List (List Nat)} (h : qs ≠ []) : allok true qs = qs.all (okp true) := by
  cases qs with
  | nil => exact absurd rfl h
  | cons q qs => rfl

/-- The bytes of parts with points between. -/
def bytesOf (qs : List (List Nat)) : List UInt8 := (joinR qs).flatMap enc
/-- What a name's parts are. -/
structure Parts (l : List UInt8) (qs : List (List Nat)) : Prop where
  ne : qs ≠ []
  cut : cutB l = qs.map (·.flatMap enc)
  bytes : bytesOf qs = l
  no : ∀ q ∈ qs, 46 ∉ q
  ok : ∀ q ∈ qs, okp true q = true
  few : qs.length ≤ 5
  short : (joinR qs).length ≤ 40
  scals : ∀ c ∈ joinR qs, scal c
theorem parts_of {l : List UInt8} (h : checkL l = 0) : Parts l (cutR (rns l)) := by
  have hv := valid_of_name h
  have hs := rns_scal l
  have he : (rns l).flatMap enc = l := enc_rns l.length l (Nat.le_refl _) hv
  have hc := chk_cut (rns l) 1 0 true
  have h' : chk 1 0 true (rns l) = 0 := h
  rw [h'] at hc
  have hok : allok true (cutR (rns l)) = true := by
    by_cases g : allok true (cutR (rns l)) = true
    · exact g
    · rw [if_neg g] at hc; cases hc
  rw [if_pos hok] at hc
  have hlen : ¬ (5 < 1 + (cutR (rns l)).length - 1 ∨ 40 < 0 + (rns l).length) := by
    intro g
    rw [if_pos g] at hc
    cases hc
  refine ⟨cutR_ne _, ?_, ?_, cut_no _, ?_, by omega, ?_, ?_⟩
  · have := cut_enc (rns l) hs
    rw [he] at this
    exact this
  · unfold bytesOf
    rw [join_cut, he]
  · rw [allok_all (cutR_ne _)] at hok
    exact fun q hq => List.all_eq_true.1 hok q hq
  · rw [join_cut]; omega
  · rw [join_cut]; exact hs
theorem joinR_mem : ∀ (qs : List (List Nat)) (q : List Nat), q ∈ qs → ∀ c ∈ q, c ∈ joinR qs
  | [], _, h => by simp at h
  | [r], q, h => by
    have : q = r := by simpa using h
    subst this
    exact fun c hc => hc
  | r :: t :: qs, q, h => by
    intro c hc
    rw [joinR_cons r (by simp)]
    rcases List.mem_cons.1 h with rfl | h
    · exact List.mem_append_left _ hc
    · exact List.mem_append_right _ (List.mem_cons_of_mem _ (joinR_mem (t :: qs) q h c hc))
theorem joinR_len : ∀ (qs : List (List Nat)) (q : List Nat), q ∈ qs → q.length ≤ (joinR qs).length
  | [], _, h => by simp at h
  | [r], q, h => by
    have : q = r := by simpa using h
    subst this
    exact Nat.le_refl _
  | r :: t :: qs, q, h => by
    rw [joinR_cons r (by simp), List.length_append, List.length_cons]
    rcases List.mem_cons.1 h with rfl | h
    · omega
    · have := joinR_len (t :: qs) q h
      omega
end Go.Proofs.YtlndgepoekllkaaGreatDoor
/- name.Parts and name.Under: walks. -/
namespace Go.Proofs.YtlndgepoekllkaaGreatDoor
open Go.RowKit

/-- The library's own variable holds some number. -/
def ML (w : World) : Prop := ∃ m, w.cell? ⟨2, 0, none⟩ = some (.int .i64 m)
theorem ML_below {w w' : World} (h : ML w) (hb : Below w.heap.size w w') : ML w' := by
  obtain ⟨m, hm⟩ := h
  exact ⟨m, (hb.cell (p := ⟨2, 0, none⟩) (World.block_lt_of_cell? _ _ hm)).trans hm⟩
def svals (l : List (List UInt8)) : List Value := l.map fun p => Value.string (str p)
theorem split_eq (s : ByteArray) : Lib.splitB ⟨#[46]⟩ 0 (Lib.countB s ⟨#[46]⟩) s = (cutB s.data.toList).map str := by
  have h := Lib.splitB_data ⟨#[46]⟩ 0 (Lib.countB s ⟨#[46]⟩) s
  have h2 : Lib.splitK (⟨#[46]⟩ : ByteArray).data.toList 0 (Lib.countB s ⟨#[46]⟩) s.data.toList = cutB s.data.toList := split_cut s.data.toList
  rw [h2] at h
  rw [← h, List.map_map]
  have e : (str ∘ fun (x : ByteArray) => x.data.toList) = id := funext str_of
  rw [e, List.map_id]
theorem split_len (s : ByteArray) : Lib.countB s ⟨#[46]⟩ + 1 = (cutB s.data.toList).length := by
  have h := Lib.splitB_all ⟨#[46]⟩ (by decide) 0 _ s rfl
  rw [split_eq, List.length_map] at h
  exact h.symm

/-- What Parts leaves. -/
def PaPost (l : List (List UInt8)) (w : World) (e : Ending) (w' : World) : Prop :=
  ∃ v, e = .returned v ∧ IsRow w' 1 v l.length (svals l) ∧ Below w.heap.size w w'
set_option maxHeartbeats 1000000 in
theorem parts_ok (s : ByteArray) (w : World) (hs : s.size ≤ 1000000) (hM : ML w) (hc : checkL s.data.toList = 0) :
    Calls Tryz.prog 106 #[.string s] w fun e w' => PaPost (cutB s.data.toList) w e w' := by
  go_enter Tryz.func106, Tryz.ntmps106
  go_wp2_with fail
  refine (check_any s _ (by omega)).mono ?_
  rintro e w1 ⟨rfl, hb1⟩
  rw [hc]
  obtain ⟨m, hm⟩ := ML_below hM hb1
  have hs1 := hb1.size
  go_wp2_with fail
  refine (Tryz.strings_Split s _ m _ (by omega) hm (by decide)).mono ?_
  rintro e w2 ⟨rfl, rfl⟩
  rw [split_eq, split_len]
  go_wp2
  go_ret
  refine ⟨_, rfl, ⟨by simp [svals], .inr ⟨w1.heap.size, 0, (cutB s.data.toList).length, rfl, by simp, Nat.le_refl _, ?_, ?_⟩⟩, hb1.alloc hs1 _⟩
  · have h1 := split_len s
    have h2 := Lib.countB_le ⟨#[46]⟩ (by decide) s.size s (Nat.le_refl _)
    unfold maxLen
    omega
  · intro j u hu
    simpa [svals, Function.comp] using hu
set_option maxHeartbeats 1000000 in
theorem parts_no (s : ByteArray) (w : World) (hs : s.size ≤ 1000000) (hc : checkL s.data.toList ≠ 0) :
    Calls Tryz.prog 106 #[.string s] w fun e w' => e = .returned (.slice none 0 0) ∧ Below w.heap.size w w' := by
  have hc' : (checkL s.data.toList != 0) = true := by rw [bne_iff_ne]; exact hc
  go_enter Tryz.func106, Tryz.ntmps106
  go_wp2_with fail
  refine (check_any s _ (by omega)).mono ?_
  rintro e w1 ⟨rfl, hb1⟩
  go_wp2
  go_ret
  exact ⟨rfl, hb1⟩

end Go.Proofs.YtlndgepoekllkaaGreatDoor
/- The bytes of UTF-8 stand as the runes do: plain, of no program. -/
namespace Go.Proofs.YtlndgepoekllkaaGreatDoor
open Go.Lib
set_option maxRecDepth 100000

/-- How rows of runes stand. -/
def cmpR : List Nat → List Nat → Int
  | [], [] => 0
  | [], _ :: _ => -1
  | _ :: _, [] => 1
  | a :: k, b :: l => if a < b then -1 else if b < a then 1 else cmpR k l
theorem cb_lt {m n : Nat} (hn : n < 256) (h : m < n) (x y : List UInt8) : compareBytes (UInt8.ofNat m :: x) (UInt8.ofNat n :: y) = -1 := by
  have e : UInt8.ofNat m < UInt8.ofNat n := by
    rw [UInt8.lt_iff_toNat_lt, toNat_of (by omega), toNat_of hn]
    exact h
  simp [compareBytes, e]
theorem cb_eq (b : UInt8) (x y : List UInt8) : compareBytes (b :: x) (b :: y) = compareBytes x y := by
  simp [compareBytes]
theorem cb_pre : ∀ (p x y : List UInt8), compareBytes (p ++ x) (p ++ y) = compareBytes x y
  | [], _, _ => rfl
  | b :: p, x, y => by rw [List.cons_append, List.cons_append, cb_eq, cb_pre p x y]
/-- Of two first bytes, and what stands behind them. -/
theorem cb_step {m n : Nat} (hn : n < 256) (x y : List UInt8) (h : m < n ∨ (m = n ∧ compareBytes x y = -1)) : compareBytes (UInt8.ofNat m :: x) (UInt8.ofNat n :: y) = -1 := by
  rcases h with h | ⟨rfl, h⟩
  · exact cb_lt hn h x y
  · rw [cb_eq]; exact h
theorem enc_lt {c d : Nat} (hc : scal c) (hd : scal d) (h : c < d) (x y : List UInt8) : compareBytes (enc c ++ x) (enc d ++ y) = -1 := by
  have hd' := hd
  unfold scal at hd'
  by_cases d1 : d < 128
  · rw [enc1 d1, enc1 (by omega)]
    exact cb_lt (by omega) h _ _
  by_cases d2 : d < 2048
  · rw [enc2 (by omega) d2]
    by_cases c1 : c < 128
    · rw [enc1 c1]
      exact cb_lt (by omega) (by omega) _ _
    · rw [enc2 (by omega) (by omega)]
      refine cb_step (by omega) _ _ ?_
      by_cases e : c / 64 = d / 64
      · exact .inr ⟨by omega, cb_step (by omega) _ _ (.inl (by omega))⟩
      · exact .inl (by omega)
  by_cases d3 : d < 65536
  · rw [enc3 (by omega) d3 hd]
    by_cases c1 : c < 128
    · rw [enc1 c1]
      exact cb_lt (by omega) (by omega) _ _
    by_cases c2 : c < 2048
    · rw [enc2 (by omega) (by omega)]
      exact cb_lt (by omega) (by omega) _ _
    · rw [enc3 (by omega) (by omega) hc]
      refine cb_step (by omega) _ _ ?_
      by_cases e : c / 4096 = d / 4096
      · refine .inr ⟨by omega, cb_step (by omega) _ _ ?_⟩
        by_cases e2 : c / 64 % 64 = d / 64 % 64
        · exact .inr ⟨by omega, cb_step (by omega) _ _ (.inl (by omega))⟩
        · exact .inl (by omega)
      · exact .inl (by omega)
  · rw [enc4 (by omega) hd]
    by_cases c1 : c < 128
    · rw [enc1 c1]
      exact cb_lt (by omega) (by omega) _ _
    by_cases c2 : c < 2048
    · rw [enc2 (by omega) (by omega)]
      exact cb_lt (by omega) (by omega) _ _
    by_cases c3 : c < 65536
    · rw [enc3 (by omega) (by omega) hc]
      exact cb_lt (by omega) (by omega) _ _
    · rw [enc4 (by omega) hc]
      refine cb_step (by omega) _ _ ?_
      by_cases e : c / 262144 = d / 262144
      · refine .inr ⟨by omega, cb_step (by omega) _ _ ?_⟩
        by_cases e2 : c / 4096 % 64 = d / 4096 % 64
        · refine .inr ⟨by omega, cb_step (by omega) _ _ ?_⟩
          by_cases e3 : c / 64 % 64 = d / 64 % 64
          · exact .inr ⟨by omega, cb_step (by omega) _ _ (.inl (by omega))⟩
          · exact .inl (by omega)
        · exact .inl (by omega)
      · exact .inl (by omega)
theorem cb_anti : ∀ (a b : List UInt8), compareBytes a b = - compareBytes b a
  | [], [] => rfl
  | [], b :: l => by simp [compareBytes]
  | a :: k, [] => by simp [compareBytes]
  | a :: k, b :: l => by
    simp only [compareBytes]
    by_cases h1 : a < b
    · have h2 : ¬ b < a := UInt8.lt_asymm h1
      simp [h1, h2]
    · by_cases h2 : b < a
      · simp [h1, h2]
      · simp [h1, h2, cb_anti k l]
theorem enc_cons (c : Nat) : ∃ b t, enc c = b :: t := by
  have := enc_len c
  cases h : enc c with
  | nil => rw [h] at this; simp at this
  | cons b t => exact ⟨b, t, rfl⟩
/-- The bytes of runes stand as the runes. -/
theorem cmp_enc : ∀ (a b : List Nat), (∀ c ∈ a, scal c) → (∀ c ∈ b, scal c) → compareBytes (a.flatMap enc) (b.flatMap enc) = cmpR a b
  | [], [], _, _ => rfl
  | [], b :: l, _, _ => by
    obtain ⟨x, t, e⟩ := enc_cons b
    rw [List.flatMap_cons, e]
    rfl
  | a :: k, [], _, _ => by
    obtain ⟨x, t, e⟩ := enc_cons a
    rw [List.flatMap_cons, e]
    rfl
  | a :: k, b :: l, ha, hb => by
    have ih := cmp_enc k l (fun x hx => ha x (List.mem_cons_of_mem _ hx)) (fun x hx => hb x (List.mem_cons_of_mem _ hx))
    rw [List.flatMap_cons, List.flatMap_cons, cmpR]
    by_cases h1 : a < b
    · rw [if_pos h1]
      exact enc_lt (ha a (by simp)) (hb b (by simp)) h1 _ _
    · by_cases h2 : b < a
      · rw [if_neg h1, if_pos h2, cb_anti, enc_lt (hb b (by simp)) (ha a (by simp)) h2]
        rfl
      · have e : a = b := by omega
        subst e
        rw [if_neg h1, if_neg h2, cb_pre, ih]
end Go.Proofs.YtlndgepoekllkaaGreatDoor
