/- Types and forests: plain mathematics. -/
import Derived.Test.YthdbnlpbidkojaaGreatDoorZk7
import Derived.Test.YthdbnlpbidkojaaGreatDoorZk5
import Derived.Test.YthdbnlpbidkojaaGreatDoorZk4
namespace Go.Proofs.YthdbnlpbidkojaaGreatDoor
open Go.RowKit

/-! ### what two schemas make together -/
def insF (x : Fd) : List Fd → List Fd
  | [] => [x]
  | y :: l => if cmpL x.n.data.toList y.n.data.toList < 0 then x :: y :: l else y :: insF x l
def srtF : List Fd → List Fd
  | [] => []
  | x :: l => insF x (srtF l)
theorem insF_perm (x : Fd) : ∀ l, (insF x l).Perm (x :: l)
  | [] => List.Perm.refl _
  | y :: l => by
    rw [insF]
    split
    · exact List.Perm.refl _
    · exact ((insF_perm x l).cons y).trans (List.Perm.swap x y l)
theorem srtF_perm : ∀ l, (srtF l).Perm l
  | [] => List.Perm.refl _
  | x :: l => (insF_perm x _).trans ((srtF_perm l).cons x)
theorem insF_sorted (x : Fd) : ∀ l : List Fd, l.Pairwise ltF → (∀ y ∈ l, neF x y) → (insF x l).Pairwise ltF
  | [], _, _ => by simp [insF]
  | y :: l, h, hne => by
    rw [insF]
    obtain ⟨h1, h2⟩ := List.pairwise_cons.1 h
    split
    · rename_i hc
      have hxy : ltF x y := cmpL_lt.1 hc
      refine List.pairwise_cons.2 ⟨fun z hz => ?_, h⟩
      rcases List.mem_cons.1 hz with rfl | hz
      · exact hxy
      · exact ltF_trans hxy (h1 z hz)
    · rename_i hc
      have hyx : ltF y x := ltF_of hc (neF_symm (hne y (by simp)))
      refine List.pairwise_cons.2 ⟨fun z hz => ?_, insF_sorted x l h2 (fun z hz => hne z (by simp [hz]))⟩
      rcases List.mem_cons.1 ((insF_perm x l).mem_iff.1 hz) with rfl | hz
      · exact hyx
      · exact h1 z hz
theorem srtF_sorted : ∀ l : List Fd, l.Pairwise neF → (srtF l).Pairwise ltF
  | [], _ => List.Pairwise.nil
  | x :: l, h => by
    obtain ⟨h1, h2⟩ := List.pairwise_cons.1 h
    exact insF_sorted x _ (srtF_sorted l h2) fun y hy => h1 y ((srtF_perm l).mem_iff.1 hy)
/-- What two schemas make together, or the error. -/
def mgL (a b : List Fd) : List Fd × Int := if mergeE a b = 0 then (if 24 < a.length + b.length then ([], 2) else (srtF (a ++ b), 0)) else ([], mergeE a b)
theorem mrg_srtF {a b : List Fd} (h : mergeE a b = 0) : MrgD a b (srtF (a ++ b)) := ⟨srtF_perm _, srtF_sorted _ (app_ne h)⟩
theorem mrg_is {a b D : List Fd} (h : mergeE a b = 0) (hm : MrgD a b D) : D = srtF (a ++ b) := by
  have h1 := mrg_srtF h
  refine List.Perm.eq_of_pairwise (le := ltF) (fun x y _ _ h1 h2 => ?_) hm.2 h1.2 (hm.1.trans h1.1.symm)
  exact absurd (ltF_trans h1 h2) (ltF_irr x)
theorem mgL_ok {a b : List Fd} (h : (mgL a b).2 = 0) : mergeE a b = 0 ∧ a.length + b.length ≤ 24 ∧ (mgL a b).1 = srtF (a ++ b) := by
  unfold mgL at *
  by_cases h1 : mergeE a b = 0
  · rw [if_pos h1] at *
    by_cases h2 : 24 < a.length + b.length
    · rw [if_pos h2] at h; cases h
    · rw [if_neg h2] at *
      exact ⟨h1, by omega, rfl⟩
  · rw [if_neg h1] at h
    exact absurd h h1
theorem mgL_len (a b : List Fd) : (mgL a b).1.length ≤ 24 := by
  unfold mgL
  split
  · split
    · simp
    · rw [(srtF_perm _).length_eq, List.length_append]; omega
  · simp
theorem mgL_mem {a b : List Fd} {x : Fd} (h : x ∈ (mgL a b).1) : x ∈ a ∨ x ∈ b := by
  unfold mgL at h
  split at h
  · split at h
    · cases h
    · exact List.mem_append.1 ((srtF_perm _).mem_iff.1 h)
  · cases h
theorem mgL_chk {a b : List Fd} (h : (mgL a b).2 = 0) : chkF (mgL a b).1 = true := by
  obtain ⟨h1, h2, h3⟩ := mgL_ok h
  rw [h3]
  exact mrg_chk h1 (mrg_srtF h1) h2
theorem mgL_within {a b : List Fd} (h : (mgL a b).2 = 0) : withinL a (mgL a b).1 = true ∧ withinL b (mgL a b).1 = true := by
  obtain ⟨h1, h2, h3⟩ := mgL_ok h
  rw [h3]
  exact mrg_within (mrg_srtF h1)

/-! ### names -/
theorem cmpL_zero {a b : List UInt8} : cmpL a b = 0 ↔ foldL a = foldL b := by
  unfold cmpL
  constructor
  · exact cmp_zero _ _
  · intro h; rw [h, cmp_self]
theorem sameL_iff {a b : List UInt8} : sameL a b = true ↔ cmpL a b = 0 := by
  unfold sameL
  rw [decide_eq_true_eq, cmpL_zero]
theorem cmpL_tr {a b c : List UInt8} (h1 : cmpL a b < 0) (h2 : cmpL b c < 0) : cmpL a c < 0 := by
  rw [cmpL_lt] at *
  exact cmp_trans _ _ _ h1 h2
theorem cmpL_congr {a b c : List UInt8} (h : foldL a = foldL b) : cmpL a c = cmpL b c := by unfold cmpL; rw [h]
theorem cmpL_congr' {a b c : List UInt8} (h : foldL a = foldL b) : cmpL c a = cmpL c b := by unfold cmpL; rw [h]
theorem cmpL_anti (a b : List UInt8) : cmpL a b = - cmpL b a := cmp_anti _ _
theorem cmpL_irr (a : List UInt8) : cmpL a a = 0 := cmp_self _

/-! ### places -/
def nmC (t : Ty) (s : ByteArray) : Int := cmpL t.n.data.toList s.data.toList
/-- Types that rise. -/
def Rise (l : List Ty) : Prop := l.Pairwise fun t u => nmC t u.n < 0
/-- The type of a name. -/
def parN (l : List Ty) (s : ByteArray) : Option Ty := l.find? fun u => sameL u.n.data.toList s.data.toList
/-- Where a name stands, or would stand. -/
def plcN (l : List Ty) (s : ByteArray) : Nat := (l.takeWhile fun u => decide (nmC u s < 0)).length
theorem rise_mono {l : List Ty} (h : Rise l) {s : ByteArray} {a b : Nat} (hab : a ≤ b) (hb : b < l.length) (hc : nmC l[b] s < 0) : nmC (l[a]'(by omega)) s < 0 := by
  by_cases e : a = b
  · subst e; exact hc
  · exact cmpL_tr ((List.pairwise_iff_getElem.1 h) a b (by omega) hb (by omega)) hc
theorem plcN_le (l : List Ty) (s : ByteArray) : plcN l s ≤ l.length := (List.takeWhile_prefix _).length_le
/-- The boundary is the place. -/
theorem plc_at : ∀ (l : List Ty) (s : ByteArray) (k : Nat), k ≤ l.length → (∀ (t : Nat) (h : t < l.length), t < k → nmC l[t] s < 0) → (∀ (h : k < l.length), ¬ nmC l[k] s < 0) → plcN l s = k
  | [], s, k, hk, _, _ => by
    have : k = 0 := by simpa using hk
    subst this
    rfl
  | u :: l, s, 0, _, _, h2 => by
    have := h2 (by simp)
    unfold plcN
    rw [List.takeWhile_cons_of_neg (by simpa using this)]
    rfl
  | u :: l, s, k + 1, hk, h1, h2 => by
    have h0 : nmC u s < 0 := h1 0 (by simp) (by omega)
    have ih := plc_at l s k (by simpa using hk) (fun t h ht => h1 (t + 1) (by simpa using h) (by omega)) (fun h => h2 (by simpa using h))
    unfold plcN at *
    rw [List.takeWhile_cons_of_pos (by simpa using h0), List.length_cons, ih]
theorem plc_lt {l : List Ty} {s : ByteArray} {t : Nat} (h : t < l.length) (ht : t < plcN l s) : nmC l[t] s < 0 := by
  have hp : (l.takeWhile fun u => decide (nmC u s < 0)) <+: l := List.takeWhile_prefix _
  have e : l[t] = (l.takeWhile fun u => decide (nmC u s < 0))[t]'ht := (hp.getElem ht).symm
  rw [e]
  have hm := List.getElem_mem ht
  have := List.all_takeWhile (p := fun u => decide (nmC u s < 0)) (l := l)
  rw [List.all_eq_true] at this
  simpa using this _ hm
theorem plc_ge : ∀ (l : List Ty) (s : ByteArray) (h : plcN l s < l.length), ¬ nmC (l[plcN l s]'h) s < 0
  | [], s, h => absurd h (by simp [plcN])
  | u :: l, s, h => by
    by_cases hu : nmC u s < 0
    · have e : plcN (u :: l) s = plcN l s + 1 := by
        unfold plcN
        rw [List.takeWhile_cons_of_pos (by simpa using hu), List.length_cons]
      have hl : plcN l s < l.length := by rw [e] at h; simpa using h
      have ih := plc_ge l s hl
      have : (u :: l)[plcN (u :: l) s]'h = l[plcN l s] := by
        simp only [e, List.getElem_cons_succ]
      rw [this]
      exact ih
    · have e : plcN (u :: l) s = 0 := by
        unfold plcN
        rw [List.takeWhile_cons_of_neg (by simpa using hu)]
        rfl
      have : (u :: l)[plcN (u :: l) s]'h = u := by simp only [e, List.getElem_cons_zero]
      rw [this]
      exact hu
/-- Of types that rise the one of a name stands at its place. -/
theorem par_at {l : List Ty} (hr : Rise l) {s : ByteArray} {k : Nat} (hk : k < l.length) (h : nmC l[k] s = 0) : plcN l s = k ∧ parN l s = some l[k] := by
  have hlt : ∀ (t : Nat) (h : t < l.length), t < k → nmC l[t] s < 0 := fun t ht htk => by
    have h1 : nmC l[t] l[k].n < 0 := (List.pairwise_iff_getElem.1 hr) t k ht hk htk
    unfold nmC at *
    rw [cmpL_congr' (cmpL_zero.1 h)] at h1
    exact h1
  refine ⟨plc_at l s k (Nat.le_of_lt hk) hlt (fun _ => by omega), ?_⟩
  unfold parN
  rw [List.find?_eq_some_iff_getElem]
  refine ⟨sameL_iff.2 h, k, hk, rfl, fun j hj => ?_⟩
  have := hlt j (by omega) hj
  cases e : sameL l[j].n.data.toList s.data.toList
  · rfl
  · have := sameL_iff.1 e
    unfold nmC at *
    omega
theorem par_none {l : List Ty} {s : ByteArray} (h : ∀ (k : Nat) (hk : k < l.length), nmC l[k] s ≠ 0) : parN l s = none := by
  unfold parN
  rw [List.find?_eq_none]
  intro x hx
  obtain ⟨k, hk, rfl⟩ := List.mem_iff_getElem.1 hx
  intro e
  exact h k hk (sameL_iff.1 e)
/-- What is at the place tells whether there is one of that name. -/
theorem par_plc {l : List Ty} (hr : Rise l) (s : ByteArray) : parN l s = (if h : plcN l s < l.length then (if nmC l[plcN l s] s = 0 then some l[plcN l s] else none) else none) := by
  by_cases h : plcN l s < l.length
  · rw [dif_pos h]
    by_cases h0 : nmC l[plcN l s] s = 0
    · rw [if_pos h0]; exact (par_at hr h h0).2
    · rw [if_neg h0]
      refine par_none fun k hk e => ?_
      have := (par_at hr hk e).1
      subst this
      exact h0 e
  · rw [dif_neg h]
    refine par_none fun k hk e => ?_
    have := (par_at hr hk e).1
    omega

/-! ### forests -/
def sameS (a b : List ByteArray) : Bool := decide (a = b)
/-- Does a type stand right below another one? -/
def belB (t o : Ty) : Bool := decide ((mgL o.all t.own).2 = 0) && (sameR (mgL o.all t.own).1 t.all && sameS o.ch t.ch.tail)
def parB (l : List Ty) (t : Ty) : Bool := decide (t.p.size = 0) || (match parN l t.p with | none => false | some o => belB t o)
def riseB (l : List Ty) : Bool := decide (∀ (k : Nat) (h : k < l.length - 1), nmC (l[k]'(by omega)) (l[k + 1]'(by omega)).n < 0)
theorem riseB_iff (l : List Ty) : riseB l = true ↔ Rise l := by
  unfold riseB Rise
  rw [decide_eq_true_eq, List.pairwise_iff_getElem]
  constructor
  · intro h
    have key : ∀ (j i : Nat) (hi : i < j) (hj : j < l.length), nmC (l[i]'(by omega)) l[j].n < 0 := by
      intro j
      induction j with
      | zero => intro i hi; omega
      | succ j ih =>
        intro i hi hj
        by_cases e : i = j
        · subst e; exact h i (by omega)
        · exact cmpL_tr (ih i (by omega) (by omega)) (h j (by omega))
    exact fun i j hi hj hij => key j i hij hj
  · intro h k hk
    exact h k (k + 1) (by omega) (by omega) (by omega)
/-- Are types a forest? -/
def isB (l : List Ty) : Bool := decide (l.length ≤ 200) && (l.all chkT && (riseB l && l.all (parB l)))
/-- Is a type of another one? -/
def ofB (t : Ty) (s : ByteArray) : Bool := t.ch.any fun u => sameL u.data.toList s.data.toList
def zT : Ty := ⟨⟨#[]⟩, ⟨#[]⟩, [], [], [], 0, 0, 0⟩
/-- A type that is below no other one, or the error. -/
def rootR (s : ByteArray) (own : List Fd) (a b c : Int) : Ty × Int := if checkL s.data.toList = 0 then (if (chkF own && idB a b c) = true then (⟨s, ⟨#[]⟩, own, own, [s], a, b, c⟩, 0) else (zT, 1)) else (zT, checkL s.data.toList)
/-- A type right below another one, or the error. -/
def belR (o : Ty) (s : ByteArray) (own : List Fd) (a b c : Int) : Ty × Int :=
  if checkL s.data.toList = 0 then
    (if (chkT o && (chkF own && idB a b c)) = true then
      (if ofB o s = true then (zT, 5) else if o.ch.length = 8 then (zT, 2) else
        (if (mgL o.all own).2 = 0 then (⟨s, o.n, own, (mgL o.all own).1, s :: o.ch, a, b, c⟩, 0) else (zT, (mgL o.all own).2)))
    else (zT, 1))
  else (zT, checkL s.data.toList)
/-- A type that can be added to a forest, or the error. -/
def mkR (l : List Ty) (s p : ByteArray) (own : List Fd) (a b c : Int) : Ty × Int :=
  if isB l = true then
    (if checkL s.data.toList = 0 then
      (if (parN l s).isSome = true then (zT, 5) else if p.size = 0 then rootR s own a b c else
        (match parN l p with | none => (zT, 4) | some o => belR o s own a b c))
    else (zT, checkL s.data.toList))
  else (zT, 1)
def insT (l : List Ty) (k : Nat) (t : Ty) : List Ty := l.take k ++ t :: l.drop k
/-- A forest with one type more, or the error. -/
def addR (l : List Ty) (t : Ty) : List Ty × Int :=
  if (isB l && chkT t) = true then
    (if (parN l t.n).isSome = true then ([], 5) else if l.length = 200 then ([], 6) else
      (if t.p.size = 0 then (insT l (plcN l t.n) t, 0) else
        (match parN l t.p with | none => ([], 4) | some o => if belB t o = true then (insT l (plcN l t.n) t, 0) else ([], 3))))
  else ([], 1)
end Go.Proofs.YthdbnlpbidkojaaGreatDoor
/- slices.Clone at names; a type in memory: walks. -/
namespace Go.Proofs.YthdbnlpbidkojaaGreatDoor
open Go.RowKit Go.ChangeMaps

theorem sVals_len (l : List ByteArray) : (sVals l).length = l.length * 1 := by simp [sVals]
theorem oneS_cell (l : List ByteArray) : ∀ u ∈ sVals l, u.oneCell' = true := by
  intro u hu
  obtain ⟨x, -, rfl⟩ := List.mem_map.1 hu
  rfl
theorem sVals_app (a b : List ByteArray) : sVals (a ++ b) = sVals a ++ sVals b := by simp [sVals]
/-- A row of names is appended to one that is owned. -/
theorem wpl_sts (w : World) {ops : Array Oper} {rest : List Oper} {o : Oper} {a : Act} {Q : Exit → Act → World → Prop} (hgd : o.guard = none) (s x : Operand)
    (ho : o.op = .call { callee := .builtin .append, args := #[s, x], argTypes := #[31, 31] })
    (base : Nat) (v xv : Value) (l news : List ByteArray) (hs : a.eval s = v) (hx : a.eval x = xv) (h : w.ownsRow base 9 1 v l.length (sVals l)) (hr : IsRow w 1 xv news.length (sVals news)) (hl : l.length + news.length ≤ 1000000) (hbase : base ≤ w.heap.size)
    (hk : ∀ v' w', w'.ownsRow base 9 1 v' (l ++ news).length (sVals (l ++ news)) → Below base w w' → wpList Tryz.prog ops Q rest (a.put o.dst v') w') : wpList Tryz.prog ops Q (o :: rest) a w := by
  obtain ⟨i0, hi0, hz0, hz1, hz2⟩ := info_parts info_st
  rcases hr.2 with ⟨h0, xa, xc, rfl⟩ | ⟨b, off, cap, rfl, hb, hc, hm, hcell⟩
  · refine wpList_plain hgd fun K hK => ?_
    have hn : news = [] := List.eq_nil_of_length_eq_zero h0
    subst hn
    have hv : ∃ va vc, v = .slice va l.length vc ∧ l.length ≤ vc := by
      rcases h.2 with ⟨rfl, h1⟩ | ⟨g, cap, cur, rfl, _, _, hlc, _⟩
      · rw [h1]; exact ⟨none, 0, rfl, Nat.le_refl _⟩
      · exact ⟨_, cap, rfl, hlc⟩
    obtain ⟨va, vc, rfl, hvc⟩ := hv
    have hrun := run_app0S (P := Tryz.prog) w 31 o.type 9 i0 Tryz.underlying31 hi0 va l.length vc hvc xa xc
    unfold Oper.wp execOp
    simp only [ho, resolve, invoke, builtin, Sem.run_bind, Sem.run_pure, Result.andThen_ok, List.map_toArray, List.map_cons, List.map_nil, hs, hx, hrun]
    exact hK _ _ (hk _ w (by rw [List.append_nil]; exact h) (Below.refl _ _))
  · refine wpList_append_own_at w hgd s x 31 ho base 9 i0 _ 1 16 Tryz.underlying31 hi0 hz0 hz1 hz2 rfl (by decide) v l.length (sVals l) hs h ⟨b, off, none⟩ news.length cap (sVals news) hx (sVals_len _) (fun j u hu => ?_) (oneS_cell _) (by unfold maxLen; omega) (by omega) hbase fun v' w' h1 h2 _ h4 => hk v' w' ?_ ?_
    · have hadd : (⟨b, off, none⟩ : Addr).add j = ⟨b, off + j, none⟩ := by unfold Addr.add; split <;> simp_all
      rw [hadd]; exact hcell j u hu
    · rw [List.length_append, sVals_app]; exact h1
    · exact (Below.refl _ _).grown h2 hbase (fun k hk => (h.lt k hk).1)
def ClS (l : List ByteArray) (w : World) (e : Ending) (w' : World) : Prop := ∃ v, e = .returned v ∧ w'.ownsRow w.heap.size 9 1 v l.length (sVals l) ∧ Below w.heap.size w w'
set_option maxRecDepth 100000 in
set_option maxHeartbeats 1000000 in
theorem cloneS_any (v : Value) (l : List ByteArray) (w : World) (hr : IsRow w 1 v l.length (sVals l)) (hl : l.length ≤ 1000) :
    Calls Tryz.prog 67 #[v] w fun e w' => ClS l w e w' := by
  obtain ⟨a0, cap0, rfl⟩ := hr.form
  cases a0 with
  | none =>
    have hn : l.length = 0 := by
      rcases hr.2 with ⟨h, -⟩ | ⟨b, off, cap, hv, -⟩
      · exact h
      · cases hv
    obtain rfl : l = [] := List.eq_nil_of_length_eq_zero hn
    have heq : ∀ w, (binOp BinOp.eql 31 (.slice none 0 cap0) (.slice none 0 0)).run Tryz.prog w = .ok (.bool true) w := fun w => by kernel_rfl
    clear hr hn
    go_enter Tryz.func67, Tryz.ntmps67
    go_wp2
    go_ret
    exact ⟨_, rfl, ⟨rfl, .inl ⟨rfl, rfl⟩⟩, Below.refl _ _⟩
  | some a =>
    have HW : Hid ((w.alloc (.cells #[] 9)).ownsRow w.heap.size 9 1 (.slice (some ⟨w.heap.size, 0, none⟩) 0 0) ([] : List ByteArray).length (sVals [])) := ⟨rfl, .inr ⟨w.heap.size, 0, #[], rfl, Nat.le_refl _, new_at w _, Nat.le_refl _, Nat.zero_le _, rfl, rfl⟩⟩
    have HB : Hid (Below w.heap.size w (w.alloc (.cells #[] 9))) := al_b w _
    have HR : Hid (IsRow (w.alloc (.cells #[] 9)) 1 (.slice (some a) l.length cap0) l.length (sVals l)) := hr.below (al_b w _)
    have heq : ∀ w, (binOp BinOp.eql 31 (.slice (some a) l.length cap0) (.slice none 0 0)).run Tryz.prog w = .ok (.bool false) w := fun w => by kernel_rfl
    clear hr
    go_enter Tryz.func67, Tryz.ntmps67
    go_wp2_with (at_builtin; go_loud (refine wpl_sts (w.alloc (.cells #[] 9)) rfl (.tmp 5) (.tmp 6) rfl w.heap.size (.slice (some ⟨w.heap.size, 0, none⟩) 0 0) (.slice (some a) l.length cap0) [] l rfl rfl HW.out HR.out (by simp; omega) (by simp) ?_; intro v4 w4 hown4 hb4))
    rw [List.nil_append] at hown4
    have HO : Hid (w4.ownsRow w.heap.size 9 1 v4 l.length (sVals l)) := hown4
    have HB4 : Hid (Below w.heap.size w w4) := HB.out.trans hb4
    clear hown4 hb4 HW HR
    go_wp2
    go_ret
    exact ⟨_, rfl, HO.out, HB4.out⟩
/-- A type whose rows are owned. -/
def OwnTy (base : Nat) (w : World) (t : Ty) (vo va vc : Value) : Prop := w.ownsRow base 95 3 vo t.own.length (fCells t.own) ∧ w.ownsRow base 95 3 va t.all.length (fCells t.all) ∧ w.ownsRow base 9 1 vc t.ch.length (sVals t.ch)
theorem OwnTy.is {base : Nat} {w : World} {t : Ty} {vo va vc : Value} (h : OwnTy base w t vo va vc) : IsTy w t vo va vc := ⟨IsRow.own h.1, IsRow.own h.2.1, IsRow.own h.2.2⟩
def CpT (t : Ty) (w : World) (e : Ending) (w' : World) : Prop := ∃ vo va vc, e = .returned (tyV t vo va vc) ∧ OwnTy w.heap.size w' t vo va vc ∧ Below w.heap.size w w'
theorem own_leT {w : World} {base base' : Nat} {e : TypeId} {sz : Nat} {v : Value} {n : Nat} {xs : List Value} (h : w.ownsRow base e sz v n xs) (hb : base' ≤ base) : w.ownsRow base' e sz v n xs :=
  ⟨h.1, h.2.imp id fun ⟨g, cap, cur, a, b, c⟩ => ⟨g, cap, cur, a, Nat.le_trans hb b, c⟩⟩
theorem below_udT {w w2 : World} (h : Below w.drew.heap.size w.drew w2) : Below w.heap.size w w2 := ⟨h.os, h.tape, h.output, h.size, h.block⟩
abbrev zTyA : Array Value := #[.string ⟨#[]⟩, .string ⟨#[]⟩, .slice none 0 0, .slice none 0 0, .slice none 0 0, .int .i64 0, .int .i64 0, .int .i64 0]
/-- The box of a type, cell by cell. -/
def BxT (g : Nat) (t : Ty) (vo va vc : Value) (w : World) : Prop := (w.cell? ⟨g, 0, none⟩ = some (.string t.n) ∧ w.cell? ⟨g, 1, none⟩ = some (.string t.p) ∧ w.cell? ⟨g, 2, none⟩ = some vo ∧ w.cell? ⟨g, 3, none⟩ = some va) ∧ w.cell? ⟨g, 4, none⟩ = some vc ∧ w.cell? ⟨g, 5, none⟩ = some (.int .i64 t.nd) ∧ w.cell? ⟨g, 6, none⟩ = some (.int .i64 t.lf) ∧ w.cell? ⟨g, 7, none⟩ = some (.int .i64 t.sq)
theorem BxT.of {g : Nat} {t : Ty} {vo va vc : Value} {w : World} (h : w.heap[g]? = some (.cells (tyA t vo va vc) 35 (0, 0))) : BxT g t vo va vc w := by
  have c : ∀ j, w.cell? ⟨g, j, none⟩ = (tyA t vo va vc)[j]? := fun j => by rw [Lib.cell_of_heap h]
  exact ⟨⟨c 0, c 1, c 2, c 3⟩, c 4, c 5, c 6, c 7⟩
theorem BxT.set {g : Nat} {t : Ty} {vo va vc : Value} {w : World} (h : BxT g t vo va vc w) (v1 v2 v3 : Value) : BxT g t v1 v2 v3 (((w.setCell ⟨g, 2, none⟩ v1).setCell ⟨g, 3, none⟩ v2).setCell ⟨g, 4, none⟩ v3) := by
  have o : ∀ (w : World) (i j : Nat) (v : Value), i ≠ j → (w.setCell ⟨g, i, none⟩ v).cell? ⟨g, j, none⟩ = w.cell? ⟨g, j, none⟩ := fun w i j v hij => World.cell?_setCell_other _ _ _ _ (by simp only [ne_eq, Addr.mk.injEq, not_and]; intro _ e; omega)
  obtain ⟨⟨c0, c1, c2, c3⟩, c4, c5, c6, c7⟩ := h
  refine ⟨⟨?_, ?_, ?_, ?_⟩, ?_, ?_, ?_, ?_⟩
  · rw [o _ _ _ _ (by decide), o _ _ _ _ (by decide), o _ _ _ _ (by decide)]; exact c0
  · rw [o _ _ _ _ (by decide), o _ _ _ _ (by decide), o _ _ _ _ (by decide)]; exact c1
  · rw [o _ _ _ _ (by decide), o _ _ _ _ (by decide)]; exact World.cell?_setCell_same _ _ _ c2
  · rw [o _ _ _ _ (by decide)]; exact World.cell?_setCell_same _ _ _ ((o _ _ _ _ (by decide)).trans c3)
  · exact World.cell?_setCell_same _ _ _ ((o _ _ _ _ (by decide)).trans ((o _ _ _ _ (by decide)).trans c4))
  · rw [o _ _ _ _ (by decide), o _ _ _ _ (by decide), o _ _ _ _ (by decide)]; exact c5
  · rw [o _ _ _ _ (by decide), o _ _ _ _ (by decide), o _ _ _ _ (by decide)]; exact c6
  · rw [o _ _ _ _ (by decide), o _ _ _ _ (by decide), o _ _ _ _ (by decide)]; exact c7
theorem BxT.far {g g' : Nat} {t : Ty} {vo va vc : Value} {w : World} (h : BxT g t vo va vc w) (hg : g' ≠ g) (j : Nat) (v : Value) : BxT g t vo va vc (w.setCell ⟨g', j, none⟩ v) := by
  have o : ∀ k, (w.setCell ⟨g', j, none⟩ v).cell? ⟨g, k, none⟩ = w.cell? ⟨g, k, none⟩ := fun k => World.cell?_setCell_other _ _ _ _ (by simp only [ne_eq, Addr.mk.injEq, not_and]; intro e; omega)
  obtain ⟨⟨c0, c1, c2, c3⟩, c4, c5, c6, c7⟩ := h
  exact ⟨⟨(o 0).trans c0, (o 1).trans c1, (o 2).trans c2, (o 3).trans c3⟩, (o 4).trans c4, (o 5).trans c5, (o 6).trans c6, (o 7).trans c7⟩
theorem OwnTy.set {base : Nat} {w : World} {t : Ty} {vo va vc : Value} (h : OwnTy base w t vo va vc) {g : Nat} (hg : g < base) (j : Nat) (v : Value) : OwnTy base (w.setCell ⟨g, j, none⟩ v) t vo va vc :=
  ⟨ownsRow_setCell_below h.1 hg v, ownsRow_setCell_below h.2.1 hg v, ownsRow_setCell_below h.2.2 hg v⟩
theorem OwnTy.le {base base' : Nat} {w : World} {t : Ty} {vo va vc : Value} (h : OwnTy base w t vo va vc) (hb : base' ≤ base) : OwnTy base' w t vo va vc := ⟨own_leT h.1 hb, own_leT h.2.1 hb, own_leT h.2.2 hb⟩
end Go.Proofs.YthdbnlpbidkojaaGreatDoor
/- Rows of types; slices.BinarySearchFunc at them, place, parentOf: walks. -/
namespace Go.Proofs.YthdbnlpbidkojaaGreatDoor
open Go.RowKit Go.ChangeMaps

/-- A type that lies somewhere: where its rows are. -/
structure LT where
  t : Ty
  ao : Option Addr
  co : Nat
  aa : Option Addr
  ca : Nat
  ac : Option Addr
  cc : Nat
abbrev LT.vo (x : LT) : Value := .slice x.ao x.t.own.length x.co
abbrev LT.va (x : LT) : Value := .slice x.aa x.t.all.length x.ca
abbrev LT.vc (x : LT) : Value := .slice x.ac x.t.ch.length x.cc
def enT (x : LT) : List Value := [.string x.t.n, .string x.t.p, x.vo, x.va, x.vc, .int .i64 x.t.nd, .int .i64 x.t.lf, .int .i64 x.t.sq]
abbrev ltV (x : LT) : Value := tyV x.t x.vo x.va x.vc
def tCells (L : List LT) : List Value := L.flatMap enT
def tys (L : List LT) : List Ty := L.map LT.t
theorem tys_len (L : List LT) : (tys L).length = L.length := by simp [tys]
theorem tys_at (L : List LT) (k : Nat) (h : k < L.length) : (tys L)[k]'(by rw [tys_len]; exact h) = L[k].t := by simp [tys]
/-- Types in memory. -/
def IsTys (w : World) (v : Value) (L : List LT) : Prop := IsRow w 8 v L.length (tCells L) ∧ ∀ x ∈ L, IsTy w x.t x.vo x.va x.vc
theorem IsTys.below {w w' : World} {v : Value} {L : List LT} (h : IsTys w v L) (hb : Below w.heap.size w w') : IsTys w' v L := ⟨h.1.below hb, fun x hx => (h.2 x hx).below hb⟩
theorem tCells_len (L : List LT) : (tCells L).length = L.length * 8 := by
  induction L with
  | nil => rfl
  | cons d D ih => unfold tCells at *; rw [List.flatMap_cons, List.length_append, ih, List.length_cons]; show 8 + _ = _; omega
theorem tCells_app (a b : List LT) : tCells (a ++ b) = tCells a ++ tCells b := by simp [tCells]
theorem tCells_get : ∀ (L : List LT) (k : Nat) (hk : k < L.length) (j : Nat), j < 8 → (tCells L)[k * 8 + j]? = (enT L[k])[j]?
  | [], k, hk, _, _ => absurd hk (by simp)
  | d :: L, 0, _, j, hj => by
    unfold tCells
    rw [List.flatMap_cons, Nat.zero_mul, Nat.zero_add, List.getElem?_append_left (by exact hj)]
    rfl
  | d :: L, k + 1, hk, j, hj => by
    have ih := tCells_get L k (by simpa using hk) j hj
    unfold tCells at *
    rw [List.flatMap_cons, show (k + 1) * 8 + j = 8 + (k * 8 + j) by omega, List.getElem?_append_right (by show 8 ≤ _; omega), show 8 + (k * 8 + j) - (enT d).length = k * 8 + j by show 8 + (k * 8 + j) - 8 = _; omega, ih]
    simp
/-- A row of types, the k-th one's cells as the walk asks for them. -/
theorem t_at {w : World} {a : Option Addr} {n cap : Nat} {L : List LT} (h : IsRow w 8 (.slice a n cap) L.length (tCells L)) (h0 : 0 < L.length) :
    ∃ b off, a = some ⟨b, off, none⟩ ∧ b < w.heap.size ∧ n = L.length ∧ L.length ≤ cap ∧ ∀ (k : Nat) (hk : k < L.length), (w.cell? ⟨b, off + k * 8, none⟩ = some (.string L[k].t.n) ∧ w.cell? ⟨b, off + k * 8 + 1, none⟩ = some (.string L[k].t.p) ∧ w.cell? ⟨b, off + k * 8 + 2, none⟩ = some L[k].vo ∧ w.cell? ⟨b, off + k * 8 + 3, none⟩ = some L[k].va) ∧ w.cell? ⟨b, off + k * 8 + 4, none⟩ = some L[k].vc ∧ w.cell? ⟨b, off + k * 8 + 5, none⟩ = some (.int .i64 L[k].t.nd) ∧ w.cell? ⟨b, off + k * 8 + 6, none⟩ = some (.int .i64 L[k].t.lf) ∧ w.cell? ⟨b, off + k * 8 + 7, none⟩ = some (.int .i64 L[k].t.sq) := by
  obtain ⟨b, off, cap', hv, hlt, q1, q2, hc⟩ := h.open (by omega)
  simp only [Value.slice.injEq] at hv
  have key : ∀ (k : Nat) (hk : k < L.length) (j : Nat) (u : Value), j < 8 → (enT L[k])[j]? = some u → w.cell? ⟨b, off + k * 8 + j, none⟩ = some u := fun k hk j u hj hu => by
    have := hc (k * 8 + j) u (by rw [tCells_get L k hk j hj]; exact hu)
    rwa [← Nat.add_assoc] at this
  refine ⟨b, off, hv.1, hlt, hv.2.1, by omega, fun k hk => ⟨⟨?_, ?_, ?_, ?_⟩, ?_, ?_, ?_, ?_⟩⟩
  · have := key k hk 0 _ (by omega) rfl
    simpa using this
  · exact key k hk 1 _ (by omega) rfl
  · exact key k hk 2 _ (by omega) rfl
  · exact key k hk 3 _ (by omega) rfl
  · exact key k hk 4 _ (by omega) rfl
  · exact key k hk 5 _ (by omega) rfl
  · exact key k hk 6 _ (by omega) rfl
  · exact key k hk 7 _ (by omega) rfl
/-- Types are not too great to be looked at. -/
def NmL (L : List LT) : Prop := ∀ x ∈ L, NmT x.t
def PlP (L : List LT) (s : ByteArray) (w : World) (e : Ending) (w' : World) : Prop := e = .returned (.tuple #[.int .i64 (plcN (tys L) s : Int), .bool (parN (tys L) s).isSome]) ∧ Below w.heap.size w w'
theorem plP_at {L : List LT} {s : ByteArray} {w w' : World} {k : Nat} {b : Bool} (hR : Rise (tys L)) (hk : k ≤ L.length) (h1 : ∀ (t : Nat) (h : t < L.length), t < k → nmC L[t].t s < 0) (h2 : ∀ (t : Nat) (h : t < L.length), k ≤ t → ¬ nmC L[t].t s < 0) (hb : b = true ↔ ∃ h : k < L.length, nmC L[k].t s = 0) (hB : Below w.heap.size w w') : PlP L s w (.returned (.tuple #[.int .i64 (k : Int), .bool b])) w' := by
  have e : plcN (tys L) s = k := plc_at (tys L) s k (by rw [tys_len]; exact hk) (fun t h ht => by rw [tys_len] at h; rw [tys_at L t h]; exact h1 t h ht) (fun h => by rw [tys_len] at h; rw [tys_at L k h]; exact h2 k h (Nat.le_refl _))
  have e2 : (parN (tys L) s).isSome = b := by
    rw [par_plc hR]
    rw [Bool.eq_iff_iff, hb]
    by_cases h : k < L.length
    · have h' : plcN (tys L) s < (tys L).length := by rw [tys_len, e]; exact h
      rw [dif_pos h']
      have e3 : (tys L)[plcN (tys L) s] = L[k].t := by
        have : (tys L)[plcN (tys L) s]? = some L[k].t := by rw [e, List.getElem?_eq_getElem (by rw [tys_len]; exact h), tys_at L k h]
        exact Option.some.inj ((List.getElem?_eq_getElem h').symm.trans this)
      rw [e3]
      by_cases h0 : nmC L[k].t s = 0
      · rw [if_pos h0]; exact ⟨fun _ => ⟨h, h0⟩, fun _ => rfl⟩
      · rw [if_neg h0]; exact ⟨(fun h => by cases h), fun ⟨_, h⟩ => absurd h h0⟩
    · rw [dif_neg (by rw [tys_len, e]; exact h)]
      exact ⟨(fun h => by cases h), fun ⟨h', _⟩ => absurd h' h⟩
  unfold PlP
  rw [e, e2]
  exact ⟨rfl, hB⟩
end Go.Proofs.YthdbnlpbidkojaaGreatDoor
/- schema.Merge at any fields; slices.Equal at names: walks. -/
namespace Go.Proofs.YthdbnlpbidkojaaGreatDoor
open Go.RowKit Go.ChangeMaps

def MgA (l a : List Fd) (w : World) (e : Ending) (w' : World) : Prop := ∃ s c, e = .returned (.tuple #[.slice s (mgL l a).1.length c, .int .i64 (mgL l a).2]) ∧ IsRow w' 3 (.slice s (mgL l a).1.length c) (mgL l a).1.length (fCells (mgL l a).1) ∧ NewA w.heap.size s ∧ Below w.heap.size w w'
theorem NewA.none (b : Nat) : NewA b none := fun _ e => nomatch e
theorem sameS_no {a l : List ByteArray} {k : Nat} (h : k < a.length) (h2 : k < l.length) (he : a[k] ≠ l[k]) : sameS a l = false := by
  unfold sameS
  rw [decide_eq_false_iff_not]
  rintro rfl
  exact he rfl
set_option maxRecDepth 100000 in
set_option maxHeartbeats 2000000 in
theorem equalS_any (v u : Value) (a l : List ByteArray) (w : World) (hq : IsRow w 1 v a.length (sVals a)) (hr : IsRow w 1 u l.length (sVals l)) (hal : a.length ≤ 1000000) (hl : l.length ≤ 1000000) :
    Calls Tryz.prog 41 #[v, u] w fun e w' => e = .returned (.bool (sameS a l)) ∧ Below w.heap.size w w' := by
  obtain ⟨a0, cap0, rfl⟩ := hq.form
  obtain ⟨a1, cap1, rfl⟩ := hr.form
  have HQ : Hid (∀ w', Below w.heap.size w w' → IsRow w' 1 (.slice a0 a.length cap0) a.length (sVals a)) := fun w' h => hq.below h
  have HR : Hid (∀ w', Below w.heap.size w w' → IsRow w' 1 (.slice a1 l.length cap1) l.length (sVals l)) := fun w' h => hr.below h
  clear hq hr
  by_cases hln : a.length = l.length
  rotate_left
  · have e0 : sameS a l = false := by unfold sameS; rw [decide_eq_false_iff_not]; intro e; exact hln (by rw [e])
    have dn : ((a.length : Int) != (l.length : Int)) = true := by rw [bne_iff_ne]; omega
    rw [e0]
    go_enter Tryz.func41, Tryz.ntmps41
    go_wp2
    go_ret
    exact ⟨rfl, Below.refl _ _⟩
  have dn : ((a.length : Int) != (l.length : Int)) = false := by rw [hln]; simp
  have HL : Hid (a.length = l.length) := hln
  clear hln
  go_enter Tryz.func41, Tryz.ntmps41
  go_wp2_with fail
  go_loopw [4, 13] (fun r i wr => r = .bool false ∧ ∃ k : Nat, k ≤ a.length ∧ i = .int .i64 (k : Int) ∧ Hid (∀ (j : Nat) (h : j < a.length) (h2 : j < l.length), j < k → a[j] = l[j]) ∧ Hid (Below w.heap.size w wr)) (fun _ i _ => a.length - (intOf i).toNat)
  case atStart => exact ⟨rfl, 0, Nat.zero_le _, rfl, fun j h h2 hj => absurd hj (Nat.not_lt_zero _), Below.refl _ _⟩
  case round =>
    obtain ⟨rfl, k, hk, rfl, HO, HB⟩ := hrel
    by_cases hlk : k < a.length
    · have hlk2 : k < l.length := by have := HL.out; omega
      have dk : decide ((k : Int) < a.length) = true := by simp; omega
      obtain ⟨b, off, rfl, -, hlt, hcap, hc⟩ := s_at (HQ.out wr HB.out) (by omega)
      obtain ⟨b', off', rfl, -, hlt', hcap', hc'⟩ := s_at (HR.out wr HB.out) (by omega)
      have ck0 := hc k hlk
      have dk0 := hc' k hlk2
      have HO2 : Hid (a[k] = l[k] → ∀ (j : Nat) (h : j < a.length) (h2 : j < l.length), j < k + 1 → a[j] = l[j]) := fun hs j h h2 hj => by
        by_cases e : j = k
        · subst e; exact hs
        · exact HO.out j h h2 (by omega)
      have HN : Hid (a[k] ≠ l[k] → sameS a l = false) := sameS_no hlk hlk2
      generalize a[k]'hlk = x at *
      generalize l[k]'hlk2 = y at *
      have q1 : (0 : Int) ≤ (k : Int) := by omega
      have q2 : (k : Int) < (a.length : Int) := by omega
      have q3 : (k : Int) < (l.length : Int) := by omega
      have eS := strNe x y
      have eS' := strEqB x y
      have HBd : Hid (∀ q, Below w.heap.size w (wr.drewN q)) := fun q => ⟨HB.out.os, HB.out.tape, HB.out.output, HB.out.size, HB.out.block⟩
      clear hc hc' HO
      by_cases he : x = y
      · rw [decide_eq_true he] at eS eS'
        have HO3 : Hid (∀ (j : Nat) (h : j < a.length) (h2 : j < l.length), j < k + 1 → a[j] = l[j]) := HO2.out he
        clear HN HO2 he
        go_wp2_with fail
        go_quiet (fail)
        go_wp2
        go_roundw
        case rel => exact ⟨rfl, k + 1, by omega, by simp, HO3, HBd.out _⟩
        case measure => simp [intOf]; omega
      · rw [decide_eq_false he] at eS eS'
        have HN2 : Hid (sameS a l = false) := HN.out he
        clear HN HO2 he
        go_wp2_with fail
        go_quiet (fail)
        go_wp2
        go_ret
        exact ⟨by rw [HN2.out]; rfl, HBd.out _⟩
    · have hk' : k = a.length := by omega
      subst hk'
      have dk : decide ((a.length : Int) < a.length) = false := by simp
      have HY : Hid (sameS a l = true) := by
        show _ = _
        unfold sameS
        rw [decide_eq_true_eq]
        exact List.ext_getElem HL.out fun j h h2 => HO.out j h h2 h
      clear HO
      go_wp2
      go_ret
      exact ⟨by rw [HY.out]; rfl, HB.out⟩
end Go.Proofs.YthdbnlpbidkojaaGreatDoor
/- forest.parentOf, isBelow: walks. -/
namespace Go.Proofs.YthdbnlpbidkojaaGreatDoor
open Go.RowKit Go.ChangeMaps

theorem results_c2 {fn : Func} {p q : Tmp} {ty : TypeId} (h : fn.results = #[.cell p ty, .tmp q]) (tmps : Array Value) (P : Program) (w : World) :
    (results fn tmps).run P w = ((asAddr (tmps.getD p undef)).run P w).andThen fun a w₁ => ((loadVar ty a).run P w₁).andThen fun v w₂ => .ok (.tuple #[v, tmps.getD q undef]) w₂ := by
  simp only [results, h]
  simp [Sem.run_bind, Result.andThen]
theorem below8 {B g : Nat} {w w' : World} (h : Below B w w') (hg : B ≤ g) (u0 u1 u2 u3 u4 u5 u6 u7 : Value) : Below B w ((((((((w'.setCell ⟨g, 0, none⟩ u0).setCell ⟨g, 1, none⟩ u1).setCell ⟨g, 2, none⟩ u2).setCell ⟨g, 3, none⟩ u3).setCell ⟨g, 4, none⟩ u4).setCell ⟨g, 5, none⟩ u5).setCell ⟨g, 6, none⟩ u6).setCell ⟨g, 7, none⟩ u7) :=
  (((((((h.setCell (p := ⟨g, 0, none⟩) hg u0).setCell (p := ⟨g, 1, none⟩) hg u1).setCell (p := ⟨g, 2, none⟩) hg u2).setCell (p := ⟨g, 3, none⟩) hg u3).setCell (p := ⟨g, 4, none⟩) hg u4).setCell (p := ⟨g, 5, none⟩) hg u5).setCell (p := ⟨g, 6, none⟩) hg u6).setCell (p := ⟨g, 7, none⟩) hg u7
/-- No type. -/
def zLT : LT := ⟨zT, none, 0, none, 0, none, 0⟩
def PaP (L : List LT) (s : ByteArray) (w : World) (e : Ending) (w' : World) : Prop := ∃ y : LT, e = .returned (.tuple #[ltV y, .bool (parN (tys L) s).isSome]) ∧ ((parN (tys L) s = none ∧ y = zLT) ∨ (y ∈ L ∧ parN (tys L) s = some y.t)) ∧ Below w.heap.size w w'
theorem PaP.zero {L : List LT} {s : ByteArray} {w w' : World} (h : (parN (tys L) s).isSome = false) (hb : Below w.heap.size w w') : PaP L s w (.returned (.tuple #[tyV zT (.slice none 0 0) (.slice none 0 0) (.slice none 0 0), .bool false])) w' := by
  refine ⟨zLT, ?_, .inl ⟨by simpa using h, rfl⟩, hb⟩
  rw [h]
  rfl
/-- What stands at the place. -/
theorem par_plcL {L : List LT} {s : ByteArray} (hR : Rise (tys L)) (h : (parN (tys L) s).isSome = true) : ∃ hk : plcN (tys L) s < L.length, parN (tys L) s = some L[plcN (tys L) s].t := by
  have e := par_plc hR s
  by_cases h1 : plcN (tys L) s < (tys L).length
  · have h1' : plcN (tys L) s < L.length := by rwa [tys_len] at h1
    rw [dif_pos h1] at e
    by_cases h2 : nmC (tys L)[plcN (tys L) s] s = 0
    · rw [if_pos h2, tys_at L _ h1'] at e
      exact ⟨h1', e⟩
    · rw [if_neg h2] at e
      rw [e] at h
      cases h
  · rw [dif_neg h1] at e
    rw [e] at h
    cases h
end Go.Proofs.YthdbnlpbidkojaaGreatDoor
/- Types whose rows lie behind a block; stores of types. -/
namespace Go.Proofs.YthdbnlpbidkojaaGreatDoor
open Go.RowKit Go.ChangeMaps

/-- A type whose rows lie behind a block. -/
def NewT (base : Nat) (y : LT) : Prop := NewA base y.ao ∧ NewA base y.aa ∧ NewA base y.ac
theorem NewT.le {base base' : Nat} {y : LT} (h : NewT base y) (hb : base' ≤ base) : NewT base' y := ⟨h.1.le hb, h.2.1.le hb, h.2.2.le hb⟩
theorem row_far {w : World} {sz n m c base g : Nat} {a : Option Addr} {xs : List Value} (h : IsRow w sz (.slice a m c) n xs) (hN : NewA base a) (hg : g < base) (j : Nat) (v : Value) : IsRow (w.setCell ⟨g, j, none⟩ v) sz (.slice a m c) n xs := by
  refine ⟨h.1, ?_⟩
  rcases h.2 with h0 | ⟨b, off, cap, hv, hlt, q1, q2, hc⟩
  · exact .inl h0
  · have hb : base ≤ b := by
      simp only [Value.slice.injEq] at hv
      have := hN _ hv.1
      exact this
    refine .inr ⟨b, off, cap, hv, by simpa using hlt, q1, q2, fun k u hu => ?_⟩
    rw [World.cell?_setCell_other _ _ _ _ (by simp only [ne_eq, Addr.mk.injEq, not_and]; intro e; omega)]
    exact hc k u hu
theorem ty_far {w : World} {y : LT} {base g : Nat} (h : IsTy w y.t y.vo y.va y.vc) (hN : NewT base y) (hg : g < base) (j : Nat) (v : Value) : IsTy (w.setCell ⟨g, j, none⟩ v) y.t y.vo y.va y.vc := ⟨row_far h.1 hN.1 hg j v, row_far h.2.1 hN.2.1 hg j v, row_far h.2.2 hN.2.2 hg j v⟩
theorem ty_far8 {w : World} {y : LT} {base g : Nat} (h : IsTy w y.t y.vo y.va y.vc) (hN : NewT base y) (hg : g < base) (u0 u1 u2 u3 u4 u5 u6 u7 : Value) : IsTy ((((((((w.setCell ⟨g, 0, none⟩ u0).setCell ⟨g, 1, none⟩ u1).setCell ⟨g, 2, none⟩ u2).setCell ⟨g, 3, none⟩ u3).setCell ⟨g, 4, none⟩ u4).setCell ⟨g, 5, none⟩ u5).setCell ⟨g, 6, none⟩ u6).setCell ⟨g, 7, none⟩ u7) y.t y.vo y.va y.vc :=
  ty_far (ty_far (ty_far (ty_far (ty_far (ty_far (ty_far (ty_far h hN hg 0 u0) hN hg 1 u1) hN hg 2 u2) hN hg 3 u3) hN hg 4 u4) hN hg 5 u5) hN hg 6 u6) hN hg 7 u7
def MkP (r : Ty × Int) (w : World) (e : Ending) (w' : World) : Prop := ∃ y : LT, e = .returned (.tuple #[ltV y, .int .i64 r.2]) ∧ y.t = r.1 ∧ IsTy w' y.t y.vo y.va y.vc ∧ NewT w.heap.size y ∧ Below w.heap.size w w'
theorem ty_zLT (w : World) : IsTy w zLT.t zLT.vo zLT.va zLT.vc := ⟨IsRow.nil _ _, IsRow.nil _ _, IsRow.nil _ _⟩
theorem new_zLT (b : Nat) : NewT b zLT := ⟨NewA.none _, NewA.none _, NewA.none _⟩
theorem MkP.zero {w w' : World} (n : Int) (h : Below w.heap.size w w') : MkP (zT, n) w (.returned (.tuple #[tyV zT (.slice none 0 0) (.slice none 0 0) (.slice none 0 0), .int .i64 n])) w' := ⟨zLT, rfl, rfl, ty_zLT _, new_zLT _, h⟩
theorem BxT.put8 {g : Nat} {t0 : Ty} {a0 b0 c0 : Value} {w : World} (h : BxT g t0 a0 b0 c0 w) (t : Ty) (vo va vc : Value) : BxT g t vo va vc ((((((((w.setCell ⟨g, 0, none⟩ (.string t.n)).setCell ⟨g, 1, none⟩ (.string t.p)).setCell ⟨g, 2, none⟩ vo).setCell ⟨g, 3, none⟩ va).setCell ⟨g, 4, none⟩ vc).setCell ⟨g, 5, none⟩ (.int .i64 t.nd)).setCell ⟨g, 6, none⟩ (.int .i64 t.lf)).setCell ⟨g, 7, none⟩ (.int .i64 t.sq)) := by
  have o : ∀ (w : World) (i j : Nat) (v : Value), i ≠ j → (w.setCell ⟨g, i, none⟩ v).cell? ⟨g, j, none⟩ = w.cell? ⟨g, j, none⟩ := fun w i j v hij => World.cell?_setCell_other _ _ _ _ (by simp only [ne_eq, Addr.mk.injEq, not_and]; intro _ e; omega)
  obtain ⟨⟨c0, c1, c2, c3⟩, c4, c5, c6, c7⟩ := h
  refine ⟨⟨?_, ?_, ?_, ?_⟩, ?_, ?_, ?_, ?_⟩
  · rw [o _ 7 0 _ (by decide), o _ 6 0 _ (by decide), o _ 5 0 _ (by decide), o _ 4 0 _ (by decide), o _ 3 0 _ (by decide), o _ 2 0 _ (by decide), o _ 1 0 _ (by decide)]
    exact World.cell?_setCell_same _ _ _ c0
  · rw [o _ 7 1 _ (by decide), o _ 6 1 _ (by decide), o _ 5 1 _ (by decide), o _ 4 1 _ (by decide), o _ 3 1 _ (by decide), o _ 2 1 _ (by decide)]
    exact World.cell?_setCell_same _ _ _ ((o _ 0 1 _ (by decide)).trans c1)
  · rw [o _ 7 2 _ (by decide), o _ 6 2 _ (by decide), o _ 5 2 _ (by decide), o _ 4 2 _ (by decide), o _ 3 2 _ (by decide)]
    exact World.cell?_setCell_same _ _ _ ((o _ 1 2 _ (by decide)).trans ((o _ 0 2 _ (by decide)).trans c2))
  · rw [o _ 7 3 _ (by decide), o _ 6 3 _ (by decide), o _ 5 3 _ (by decide), o _ 4 3 _ (by decide)]
    exact World.cell?_setCell_same _ _ _ ((o _ 2 3 _ (by decide)).trans ((o _ 1 3 _ (by decide)).trans ((o _ 0 3 _ (by decide)).trans c3)))
  · rw [o _ 7 4 _ (by decide), o _ 6 4 _ (by decide), o _ 5 4 _ (by decide)]
    exact World.cell?_setCell_same _ _ _ ((o _ 3 4 _ (by decide)).trans ((o _ 2 4 _ (by decide)).trans ((o _ 1 4 _ (by decide)).trans ((o _ 0 4 _ (by decide)).trans c4))))
  · rw [o _ 7 5 _ (by decide), o _ 6 5 _ (by decide)]
    exact World.cell?_setCell_same _ _ _ ((o _ 4 5 _ (by decide)).trans ((o _ 3 5 _ (by decide)).trans ((o _ 2 5 _ (by decide)).trans ((o _ 1 5 _ (by decide)).trans ((o _ 0 5 _ (by decide)).trans c5)))))
  · rw [o _ 7 6 _ (by decide)]
    exact World.cell?_setCell_same _ _ _ ((o _ 5 6 _ (by decide)).trans ((o _ 4 6 _ (by decide)).trans ((o _ 3 6 _ (by decide)).trans ((o _ 2 6 _ (by decide)).trans ((o _ 1 6 _ (by decide)).trans ((o _ 0 6 _ (by decide)).trans c6))))))
  · exact World.cell?_setCell_same _ _ _ ((o _ 6 7 _ (by decide)).trans ((o _ 5 7 _ (by decide)).trans ((o _ 4 7 _ (by decide)).trans ((o _ 3 7 _ (by decide)).trans ((o _ 2 7 _ (by decide)).trans ((o _ 1 7 _ (by decide)).trans ((o _ 0 7 _ (by decide)).trans c7)))))))
theorem row_one {w : World} {g : Nat} {s : ByteArray} (h : w.heap[g]? = some (.cells #[.string s] 9 (0, 0))) : IsRow w 1 (.slice (some ⟨g, 0, none⟩) 1 1) 1 (sVals [s]) := by
  refine ⟨rfl, .inr ⟨g, 0, 1, rfl, (Array.getElem?_eq_some_iff.1 h).1, Nat.le_refl _, by decide, fun j u hu => ?_⟩⟩
  match j, hu with
  | 0, hu =>
    rw [Lib.cell_of_heap h]
    exact hu
  | j + 1, hu => simp [sVals] at hu
end Go.Proofs.YthdbnlpbidkojaaGreatDoor
