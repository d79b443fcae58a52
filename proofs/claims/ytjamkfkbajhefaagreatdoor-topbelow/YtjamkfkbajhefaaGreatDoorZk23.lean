/- Types and forests: plain mathematics. -/
import Derived.Test.YtjamkfkbajhefaaGreatDoorZk22
import Derived.Test.YtjamkfkbajhefaaGreatDoorZk20
import Derived.Lib.AppendZeros
import Derived.Maps.AppendAt
namespace Go.Proofs.YtjamkfkbajhefaaGreatDoor
open Go.RowKit

/-! ### what two schemas make together -/
def insF (x : Fd) : List Fd → List Fd
  | [] => [x]
  | y :: l => if cmpL x.n.data.toList y.n.data.toList < 0 then x :: y :: l else y :: insF x l
def srtF : List Fd → List Fd
  | [] => []
  | x :: l => insF x (srtF l)
theorem insF_perm (x : Fd) : ∀ l, (insF x l).Perm (x :: l)
  | [] => List.Perm.refl _
  | y :: l => by
    rw [insF]
    split
    · exact List.Perm.refl _
    · exact ((insF_perm x l).cons y).trans (List.Perm.swap x y l)
theorem srtF_perm : ∀ l, (srtF l).Perm l
  | [] => List.Perm.refl _
  | x :: l => (insF_perm x _).trans ((srtF_perm l).cons x)
theorem insF_sorted (x : Fd) : ∀ l : List Fd, l.Pairwise ltF → (∀ y ∈ l, neF x y) → (insF x l).Pairwise ltF
  | [], _, _ => by simp [insF]
  | y :: l, h, hne => by
    rw [insF]
    obtain ⟨h1, h2⟩ := List.pairwise_cons.1 h
    split
    · rename_i hc
      have hxy : ltF x y := cmpL_lt.1 hc
      refine List.pairwise_cons.2 ⟨fun z hz => ?_, h⟩
      rcases List.mem_cons.1 hz with rfl | hz
      · exact hxy
      · exact ltF_trans hxy (h1 z hz)
    · rename_i hc
      have hyx : ltF y x := ltF_of hc (neF_symm (hne y (by simp)))
      refine List.pairwise_cons.2 ⟨fun z hz => ?_, insF_sorted x l h2 (fun z hz => hne z (by simp [hz]))⟩
      rcases List.mem_cons.1 ((insF_perm x l).mem_iff.1 hz) with rfl | hz
      · exact hyx
      · exact h1 z hz
theorem srtF_sorted : ∀ l : List Fd, l.Pairwise neF → (srtF l).Pairwise ltF
  | [], _ => List.Pairwise.nil
  | x :: l, h => by
    obtain ⟨h1, h2⟩ := List.pairwise_cons.1 h
    exact insF_sorted x _ (srtF_sorted l h2) fun y hy => h1 y ((srtF_perm l).mem_iff.1 hy)
/-- What two schemas make together, or the error. -/
def mgL (a b : List Fd) : List Fd × Int := if mergeE a b = 0 then (if 24 < a.length + b.length then ([], 2) else (srtF (a ++ b), 0)) else ([], mergeE a b)
theorem mrg_srtF {a b : List Fd} (h : mergeE a b = 0) : MrgD a b (srtF (a ++ b)) := ⟨srtF_perm _, srtF_sorted _ (app_ne h)⟩
theorem mrg_is {a b D : List Fd} (h : mergeE a b = 0) (hm : MrgD a b D) : D = srtF (a ++ b) := by
  have h1 := mrg_srtF h
  refine List.Perm.eq_of_pairwise (le := ltF) (fun x y _ _ h1 h2 => ?_) hm.2 h1.2 (hm.1.trans h1.1.symm)
  exact absurd (ltF_trans h1 h2) (ltF_irr x)
theorem mgL_ok {a b : List Fd} (h : (mgL a b).2 = 0) : mergeE a b = 0 ∧ a.length + b.length ≤ 24 ∧ (mgL a b).1 = srtF (a ++ b) := by
  unfold mgL at *
  by_cases h1 : mergeE a b = 0
  · rw [if_pos h1] at *
    by_cases h2 : 24 < a.length + b.length
    · rw [if_pos h2] at h; cases h
    · rw [if_neg h2] at *
      exact ⟨h1, by omega, rfl⟩
  · rw [if_neg h1] at h
    exact absurd h h1
theorem mgL_len (a b : List Fd) : (mgL a b).1.length ≤ 24 := by
  unfold mgL
  split
  · split
    · simp
    · rw [(srtF_perm _).length_eq, List.length_append]; omega
  · simp
/-! ### names -/
theorem cmpL_zero {a b : List UInt8} : cmpL a b = 0 ↔ foldL a = foldL b := by
  unfold cmpL
  constructor
  · exact cmp_zero _ _
  · intro h; rw [h, cmp_self]
theorem sameL_iff {a b : List UInt8} : sameL a b = true ↔ cmpL a b = 0 := by
  unfold sameL
  rw [decide_eq_true_eq, cmpL_zero]
theorem cmpL_tr {a b c : List UInt8} (h1 : cmpL a b < 0) (h2 : cmpL b c < 0) : cmpL a c < 0 := by
  rw [cmpL_lt] at *
  exact cmp_trans _ _ _ h1 h2
theorem cmpL_congr' {a b c : List UInt8} (h : foldL a = foldL b) : cmpL c a = cmpL c b := by unfold cmpL; rw [h]
theorem cmpL_irr (a : List UInt8) : cmpL a a = 0 := cmp_self _

/-! ### places -/
def nmC (t : Ty) (s : ByteArray) : Int := cmpL t.n.data.toList s.data.toList
/-- Types that rise. -/
def Rise (l : List Ty) : Prop := l.Pairwise fun t u => nmC t u.n < 0
/-- The type of a name. -/
def parN (l : List Ty) (s : ByteArray) : Option Ty := l.find? fun u => sameL u.n.data.toList s.data.toList
/-- Where a name stands, or would stand. -/
def plcN (l : List Ty) (s : ByteArray) : Nat := (l.takeWhile fun u => decide (nmC u s < 0)).length
theorem rise_mono {l : List Ty} (h : Rise l) {s : ByteArray} {a b : Nat} (hab : a ≤ b) (hb : b < l.length) (hc : nmC l[b] s < 0) : nmC (l[a]'(by omega)) s < 0 := by
  by_cases e : a = b
  · subst e; exact hc
  · exact cmpL_tr ((List.pairwise_iff_getElem.1 h) a b (by omega) hb (by omega)) hc
/-- The boundary is the place. -/
theorem plc_at : ∀ (l : List Ty) (s : ByteArray) (k : Nat), k ≤ l.length → (∀ (t : Nat) (h : t < l.length), t < k → nmC l[t] s < 0) → (∀ (h : k < l.length), ¬ nmC l[k] s < 0) → plcN l s = k
  | [], s, k, hk, _, _ => by
    have : k = 0 := by simpa using hk
    subst this
    rfl
  | u :: l, s, 0, _, _, h2 => by
    have := h2 (by simp)
    unfold plcN
    rw [List.takeWhile_cons_of_neg (by simpa using this)]
    rfl
  | u :: l, s, k + 1, hk, h1, h2 => by
    have h0 : nmC u s < 0 := h1 0 (by simp) (by omega)
    have ih := plc_at l s k (by simpa using hk) (fun t h ht => h1 (t + 1) (by simpa using h) (by omega)) (fun h => h2 (by simpa using h))
    unfold plcN at *
    rw [List.takeWhile_cons_of_pos (by simpa using h0), List.length_cons, ih]
/-- Of types that rise the one of a name stands at its place. -/
theorem par_at {l : List Ty} (hr : Rise l) {s : ByteArray} {k : Nat} (hk : k < l.length) (h : nmC l[k] s = 0) : plcN l s = k ∧ parN l s = some l[k] := by
  have hlt : ∀ (t : Nat) (h : t < l.length), t < k → nmC l[t] s < 0 := fun t ht htk => by
    have h1 : nmC l[t] l[k].n < 0 := (List.pairwise_iff_getElem.1 hr) t k ht hk htk
    unfold nmC at *
    rw [cmpL_congr' (cmpL_zero.1 h)] at h1
    exact h1
  refine ⟨plc_at l s k (Nat.le_of_lt hk) hlt (fun _ => by omega), ?_⟩
  unfold parN
  rw [List.find?_eq_some_iff_getElem]
  refine ⟨sameL_iff.2 h, k, hk, rfl, fun j hj => ?_⟩
  have := hlt j (by omega) hj
  cases e : sameL l[j].n.data.toList s.data.toList
  · rfl
  · have := sameL_iff.1 e
    unfold nmC at *
    omega
theorem par_none {l : List Ty} {s : ByteArray} (h : ∀ (k : Nat) (hk : k < l.length), nmC l[k] s ≠ 0) : parN l s = none := by
  unfold parN
  rw [List.find?_eq_none]
  intro x hx
  obtain ⟨k, hk, rfl⟩ := List.mem_iff_getElem.1 hx
  intro e
  exact h k hk (sameL_iff.1 e)
/-- What is at the place tells whether there is one of that name. -/
theorem par_plc {l : List Ty} (hr : Rise l) (s : ByteArray) : parN l s = (if h : plcN l s < l.length then (if nmC l[plcN l s] s = 0 then some l[plcN l s] else none) else none) := by
  by_cases h : plcN l s < l.length
  · rw [dif_pos h]
    by_cases h0 : nmC l[plcN l s] s = 0
    · rw [if_pos h0]; exact (par_at hr h h0).2
    · rw [if_neg h0]
      refine par_none fun k hk e => ?_
      have := (par_at hr hk e).1
      subst this
      exact h0 e
  · rw [dif_neg h]
    refine par_none fun k hk e => ?_
    have := (par_at hr hk e).1
    omega

/-! ### forests -/
def sameS (a b : List ByteArray) : Bool := decide (a = b)
/-- Does a type stand right below another one? -/
def belB (t o : Ty) : Bool := decide ((mgL o.all t.own).2 = 0) && (sameR (mgL o.all t.own).1 t.all && sameS o.ch t.ch.tail)
def parB (l : List Ty) (t : Ty) : Bool := decide (t.p.size = 0) || (match parN l t.p with | none => false | some o => belB t o)
def riseB (l : List Ty) : Bool := decide (∀ (k : Nat) (h : k < l.length - 1), nmC (l[k]'(by omega)) (l[k + 1]'(by omega)).n < 0)
theorem riseB_iff (l : List Ty) : riseB l = true ↔ Rise l := by
  unfold riseB Rise
  rw [decide_eq_true_eq, List.pairwise_iff_getElem]
  constructor
  · intro h
    have key : ∀ (j i : Nat) (hi : i < j) (hj : j < l.length), nmC (l[i]'(by omega)) l[j].n < 0 := by
      intro j
      induction j with
      | zero => intro i hi; omega
      | succ j ih =>
        intro i hi hj
        by_cases e : i = j
        · subst e; exact h i (by omega)
        · exact cmpL_tr (ih i (by omega) (by omega)) (h j (by omega))
    exact fun i j hi hj hij => key j i hij hj
  · intro h k hk
    exact h k (k + 1) (by omega) (by omega) (by omega)
/-- Are types a forest? -/
def isB (l : List Ty) : Bool := decide (l.length ≤ 200) && (l.all chkT && (riseB l && l.all (parB l)))
/-- Is a type of another one? -/
def ofB (t : Ty) (s : ByteArray) : Bool := t.ch.any fun u => sameL u.data.toList s.data.toList
def zT : Ty := ⟨⟨#[]⟩, ⟨#[]⟩, [], [], [], 0, 0, 0⟩
/-- A type that is below no other one, or the error. -/
def rootR (s : ByteArray) (own : List Fd) (a b c : Int) : Ty × Int := if checkL s.data.toList = 0 then (if (chkF own && idB a b c) = true then (⟨s, ⟨#[]⟩, own, own, [s], a, b, c⟩, 0) else (zT, 1)) else (zT, checkL s.data.toList)
def insT (l : List Ty) (k : Nat) (t : Ty) : List Ty := l.take k ++ t :: l.drop k
end Go.Proofs.YtjamkfkbajhefaaGreatDoor
/- slices.Clone, slices.Grow of nothing, slices.Concat of two, at fields: walks. -/
namespace Go.Proofs.YtjamkfkbajhefaaGreatDoor
open Go.RowKit Go.ChangeMaps

theorem run_app0S {P : Program} (w : World) (t ty e : TypeId) (i : TypeInfo) (ht : P.underlying t = some (.slice e)) (hi : P.info? e = some i) (a : Option Addr) (n c : Nat) (hc : n ≤ c) (xa : Option Addr) (xc : Nat) :
    (Builtin.append_ #[t, t] ty #[.slice a n c, .slice xa 0 xc]).run P w = .ok (.slice a n c) w := by
  have hs : (sizeOf e).run P w = .ok i.size w := by simp [sizeOf, typeInfo, hi, Sem.run_bind]
  cases xa <;> cases a <;> simp [Builtin.append_, run_underlying ht, hs, Builtin.lenOf, Builtin.firstCells, loadCells, loadCellsFrom, storeCells, Result.andThen, hc]
theorem oneF_cell (l : List Fd) : ∀ u ∈ fCells l, u.oneCell' = true := by
  intro u hu
  obtain ⟨x, -, hx⟩ := List.mem_flatMap.1 hu
  simp only [enF, List.mem_cons, List.not_mem_nil, or_false] at hx
  rcases hx with rfl | rfl | rfl <;> rfl
theorem fCells_app (a b : List Fd) : fCells (a ++ b) = fCells a ++ fCells b := by simp [fCells]
/-- A row of fields is appended to one that is owned. -/
theorem wpl_fds (w : World) {ops : Array Oper} {rest : List Oper} {o : Oper} {a : Act} {Q : Exit → Act → World → Prop} (hgd : o.guard = none) (s x : Operand)
    (ho : o.op = .call { callee := .builtin .append, args := #[s, x], argTypes := #[35, 35] })
    (base : Nat) (v xv : Value) (l news : List Fd) (hs : a.eval s = v) (hx : a.eval x = xv) (h : w.ownsRow base 48 3 v l.length (fCells l)) (hr : IsRow w 3 xv news.length (fCells news)) (hl : l.length + news.length ≤ 1000000) (hbase : base ≤ w.heap.size)
    (hk : ∀ v' w', w'.ownsRow base 48 3 v' (l ++ news).length (fCells (l ++ news)) → Below base w w' → wpList Tryz.prog ops Q rest (a.put o.dst v') w') : wpList Tryz.prog ops Q (o :: rest) a w := by
  obtain ⟨i0, hi0, hz0, hz1, hz2⟩ := info_parts info_fd
  rcases hr.2 with ⟨h0, xa, xc, rfl⟩ | ⟨b, off, cap, rfl, hb, hc, hm, hcell⟩
  · refine wpList_plain hgd fun K hK => ?_
    have hn : news = [] := List.eq_nil_of_length_eq_zero h0
    subst hn
    have hv : ∃ va vc, v = .slice va l.length vc ∧ l.length ≤ vc := by
      rcases h.2 with ⟨rfl, h1⟩ | ⟨g, cap, cur, rfl, _, _, hlc, _⟩
      · rw [h1]; exact ⟨none, 0, rfl, Nat.le_refl _⟩
      · exact ⟨_, cap, rfl, hlc⟩
    obtain ⟨va, vc, rfl, hvc⟩ := hv
    have hrun := run_app0S (P := Tryz.prog) w 35 o.type 48 i0 Tryz.underlying35 hi0 va l.length vc hvc xa xc
    unfold Oper.wp execOp
    simp only [ho, resolve, invoke, builtin, Sem.run_bind, Sem.run_pure, Result.andThen_ok, List.map_toArray, List.map_cons, List.map_nil, hs, hx, hrun]
    exact hK _ _ (hk _ w (by rw [List.append_nil]; exact h) (Below.refl _ _))
  · refine wpList_append_own_at w hgd s x 35 ho base 48 i0 _ 3 32 Tryz.underlying35 hi0 hz0 hz1 hz2 rfl (by decide) v l.length (fCells l) hs h ⟨b, off, none⟩ news.length cap (fCells news) hx (fCells_len _) (fun j u hu => ?_) (oneF_cell _) (by unfold maxLen; omega) (by omega) hbase fun v' w' h1 h2 _ h4 => hk v' w' ?_ ?_
    · have hadd : (⟨b, off, none⟩ : Addr).add j = ⟨b, off + j, none⟩ := by unfold Addr.add; split <;> simp_all
      rw [hadd]; exact hcell j u hu
    · rw [List.length_append, fCells_app]; exact h1
    · exact (Below.refl _ _).grown h2 hbase (fun k hk => (h.lt k hk).1)
def ClF (l : List Fd) (w : World) (e : Ending) (w' : World) : Prop := ∃ v, e = .returned v ∧ w'.ownsRow w.heap.size 48 3 v l.length (fCells l) ∧ Below w.heap.size w w'
set_option maxRecDepth 100000 in
set_option maxHeartbeats 1000000 in
theorem cloneF_any (v : Value) (l : List Fd) (w : World) (hr : IsRow w 3 v l.length (fCells l)) (hl : l.length ≤ 1000) :
    Calls Tryz.prog 35 #[v] w fun e w' => ClF l w e w' := by
  obtain ⟨a0, cap0, rfl⟩ := hr.form
  cases a0 with
  | none =>
    have hn : l.length = 0 := by
      rcases hr.2 with ⟨h, -⟩ | ⟨b, off, cap, hv, -⟩
      · exact h
      · cases hv
    obtain rfl : l = [] := List.eq_nil_of_length_eq_zero hn
    have heq : ∀ w, (binOp BinOp.eql 35 (.slice none 0 cap0) (.slice none 0 0)).run Tryz.prog w = .ok (.bool true) w := fun w => by kernel_rfl
    clear hr hn
    go_enter Tryz.func35, Tryz.ntmps35
    go_wp2
    go_ret
    exact ⟨_, rfl, ⟨rfl, .inl ⟨rfl, rfl⟩⟩, Below.refl _ _⟩
  | some a =>
    have HW : Hid ((w.alloc (.cells #[] 48)).ownsRow w.heap.size 48 3 (.slice (some ⟨w.heap.size, 0, none⟩) 0 0) ([] : List Fd).length (fCells [])) := ⟨rfl, .inr ⟨w.heap.size, 0, #[], rfl, Nat.le_refl _, new_at w _, Nat.le_refl _, Nat.zero_le _, rfl, rfl⟩⟩
    have HB : Hid (Below w.heap.size w (w.alloc (.cells #[] 48))) := al_b w _
    have HR : Hid (IsRow (w.alloc (.cells #[] 48)) 3 (.slice (some a) l.length cap0) l.length (fCells l)) := hr.below (al_b w _)
    have heq : ∀ w, (binOp BinOp.eql 35 (.slice (some a) l.length cap0) (.slice none 0 0)).run Tryz.prog w = .ok (.bool false) w := fun w => by kernel_rfl
    clear hr
    go_enter Tryz.func35, Tryz.ntmps35
    go_wp2_with (at_builtin; go_loud (refine wpl_fds (w.alloc (.cells #[] 48)) rfl (.tmp 5) (.tmp 6) rfl w.heap.size (.slice (some ⟨w.heap.size, 0, none⟩) 0 0) (.slice (some a) l.length cap0) [] l rfl rfl HW.out HR.out (by simp; omega) (by simp) ?_; intro v4 w4 hown4 hb4))
    rw [List.nil_append] at hown4
    have HO : Hid (w4.ownsRow w.heap.size 48 3 v4 l.length (fCells l)) := hown4
    have HB4 : Hid (Below w.heap.size w w4) := HB.out.trans hb4
    clear hown4 hb4 HW HR
    go_wp2
    go_ret
    exact ⟨_, rfl, HO.out, HB4.out⟩
theorem zc_size (z : Array Value) (n : Nat) : (Builtin.zeroCells z n).size = n * z.size := by
  induction n with
  | zero => simp [Builtin.zeroCells]
  | succ n ih => simp_all [Builtin.zeroCells]
set_option maxRecDepth 100000 in
set_option maxHeartbeats 1000000 in
theorem growF_nil (n : Nat) (w : World) (hn : n ≤ 1000) :
    Calls Tryz.prog 109 #[.slice none 0 0, .int .i64 (n : Int)] w fun e w' => ClF [] w e w' := by
  obtain ⟨i0, hi0, hz0, hz1, hz2⟩ := info_parts info_fd
  by_cases h0 : n = 0
  · subst h0
    go_enter Tryz.func109, Tryz.ntmps109
    go_wp2
    go_ret
    exact ⟨_, rfl, ⟨rfl, .inl ⟨rfl, rfl⟩⟩, Below.refl _ _⟩
  · have hr : ∀ ty, (Builtin.append_ #[35, 3] ty #[.slice none 0 0, .int .i64 (n : Int)]).run Tryz.prog w = .ok (.slice (some ⟨w.heap.size, 0, none⟩) n (grownCap w n 0 48)) (w.drew.alloc (.cells (Builtin.zeroCells (#[.string ⟨#[]⟩, .int .i64 0, .bool false] : Array Value) n ++ Builtin.zeroCells #[.string ⟨#[]⟩, .int .i64 0, .bool false] (grownCap w n 0 48 - n)) 48)) := fun ty =>
      Lib.run_append_nil_zeros w 35 3 ty 48 i0 _ .i64 .i64 Tryz.underlying35 Tryz.underlying3 hi0 hz0 n (by omega) (by omega) (by omega) (by rw [hz2]; omega)
    have hG := grownCap_ge w n 0 48
    have hG2 := grownCap_le_maxLen w n 0 48 (by unfold maxLen; omega)
    generalize grownCap w n 0 48 = G at *
    have HO : Hid (ClF [] w (.returned (.slice (some ⟨w.heap.size, 0, none⟩) 0 G)) (w.drew.alloc (.cells (Builtin.zeroCells (#[.string ⟨#[]⟩, .int .i64 0, .bool false] : Array Value) n ++ Builtin.zeroCells #[.string ⟨#[]⟩, .int .i64 0, .bool false] (G - n)) 48))) := by
      refine ⟨_, rfl, ⟨rfl, .inr ⟨w.heap.size, G, _, rfl, Nat.le_refl _, new_at w.drew _, Nat.zero_le _, hG2, ?_, rfl⟩⟩, ?_⟩
      · rw [Array.size_append, zc_size, zc_size]
        show n * 3 + (G - n) * 3 = G * 3
        omega
      · exact ((Below.refl _ _).drew).alloc (Nat.le_refl _) _
    have hG3 : G ≤ 9223372036854775807 := by unfold maxLen at hG2; omega
    have d0 : ¬ ((n : Int) < 0) := by omega
    have d1 : (0 : Int) < (n : Int) := by omega
    generalize (w.drew.alloc (.cells (Builtin.zeroCells (#[.string ⟨#[]⟩, .int .i64 0, .bool false] : Array Value) n ++ Builtin.zeroCells #[.string ⟨#[]⟩, .int .i64 0, .bool false] (G - n)) 48)) = W at *
    go_enter Tryz.func109, Tryz.ntmps109
    go_wp2_with (at_builtin; refine Lib.wpList_append_run _ rfl _ _ _ _ rfl _ _ rfl rfl _ _ (hr _) ?_)
    go_wp2
    go_ret
    exact HO.out
end Go.Proofs.YtjamkfkbajhefaaGreatDoor
/- slices.Clone at names; a type in memory: walks. -/
namespace Go.Proofs.YtjamkfkbajhefaaGreatDoor
open Go.RowKit Go.ChangeMaps

/-- A type whose rows are owned. -/
def OwnTy (base : Nat) (w : World) (t : Ty) (vo va vc : Value) : Prop := w.ownsRow base 48 3 vo t.own.length (fCells t.own) ∧ w.ownsRow base 48 3 va t.all.length (fCells t.all) ∧ w.ownsRow base 9 1 vc t.ch.length (sVals t.ch)
theorem own_leT {w : World} {base base' : Nat} {e : TypeId} {sz : Nat} {v : Value} {n : Nat} {xs : List Value} (h : w.ownsRow base e sz v n xs) (hb : base' ≤ base) : w.ownsRow base' e sz v n xs :=
  ⟨h.1, h.2.imp id fun ⟨g, cap, cur, a, b, c⟩ => ⟨g, cap, cur, a, Nat.le_trans hb b, c⟩⟩
abbrev zTyA : Array Value := #[.string ⟨#[]⟩, .string ⟨#[]⟩, .slice none 0 0, .slice none 0 0, .slice none 0 0, .int .i64 0, .int .i64 0, .int .i64 0]
/-- The box of a type, cell by cell. -/
def BxT (g : Nat) (t : Ty) (vo va vc : Value) (w : World) : Prop := (w.cell? ⟨g, 0, none⟩ = some (.string t.n) ∧ w.cell? ⟨g, 1, none⟩ = some (.string t.p) ∧ w.cell? ⟨g, 2, none⟩ = some vo ∧ w.cell? ⟨g, 3, none⟩ = some va) ∧ w.cell? ⟨g, 4, none⟩ = some vc ∧ w.cell? ⟨g, 5, none⟩ = some (.int .i64 t.nd) ∧ w.cell? ⟨g, 6, none⟩ = some (.int .i64 t.lf) ∧ w.cell? ⟨g, 7, none⟩ = some (.int .i64 t.sq)
theorem BxT.of {g : Nat} {t : Ty} {vo va vc : Value} {w : World} (h : w.heap[g]? = some (.cells (tyA t vo va vc) 38 (0, 0))) : BxT g t vo va vc w := by
  have c : ∀ j, w.cell? ⟨g, j, none⟩ = (tyA t vo va vc)[j]? := fun j => by rw [Lib.cell_of_heap h]
  exact ⟨⟨c 0, c 1, c 2, c 3⟩, c 4, c 5, c 6, c 7⟩
theorem BxT.set {g : Nat} {t : Ty} {vo va vc : Value} {w : World} (h : BxT g t vo va vc w) (v1 v2 v3 : Value) : BxT g t v1 v2 v3 (((w.setCell ⟨g, 2, none⟩ v1).setCell ⟨g, 3, none⟩ v2).setCell ⟨g, 4, none⟩ v3) := by
  have o : ∀ (w : World) (i j : Nat) (v : Value), i ≠ j → (w.setCell ⟨g, i, none⟩ v).cell? ⟨g, j, none⟩ = w.cell? ⟨g, j, none⟩ := fun w i j v hij => World.cell?_setCell_other _ _ _ _ (by simp only [ne_eq, Addr.mk.injEq, not_and]; intro _ e; omega)
  obtain ⟨⟨c0, c1, c2, c3⟩, c4, c5, c6, c7⟩ := h
  refine ⟨⟨?_, ?_, ?_, ?_⟩, ?_, ?_, ?_, ?_⟩
  · rw [o _ _ _ _ (by decide), o _ _ _ _ (by decide), o _ _ _ _ (by decide)]; exact c0
  · rw [o _ _ _ _ (by decide), o _ _ _ _ (by decide), o _ _ _ _ (by decide)]; exact c1
  · rw [o _ _ _ _ (by decide), o _ _ _ _ (by decide)]; exact World.cell?_setCell_same _ _ _ c2
  · rw [o _ _ _ _ (by decide)]; exact World.cell?_setCell_same _ _ _ ((o _ _ _ _ (by decide)).trans c3)
  · exact World.cell?_setCell_same _ _ _ ((o _ _ _ _ (by decide)).trans ((o _ _ _ _ (by decide)).trans c4))
  · rw [o _ _ _ _ (by decide), o _ _ _ _ (by decide), o _ _ _ _ (by decide)]; exact c5
  · rw [o _ _ _ _ (by decide), o _ _ _ _ (by decide), o _ _ _ _ (by decide)]; exact c6
  · rw [o _ _ _ _ (by decide), o _ _ _ _ (by decide), o _ _ _ _ (by decide)]; exact c7
theorem OwnTy.set {base : Nat} {w : World} {t : Ty} {vo va vc : Value} (h : OwnTy base w t vo va vc) {g : Nat} (hg : g < base) (j : Nat) (v : Value) : OwnTy base (w.setCell ⟨g, j, none⟩ v) t vo va vc :=
  ⟨ownsRow_setCell_below h.1 hg v, ownsRow_setCell_below h.2.1 hg v, ownsRow_setCell_below h.2.2 hg v⟩
theorem OwnTy.le {base base' : Nat} {w : World} {t : Ty} {vo va vc : Value} (h : OwnTy base w t vo va vc) (hb : base' ≤ base) : OwnTy base' w t vo va vc := ⟨own_leT h.1 hb, own_leT h.2.1 hb, own_leT h.2.2 hb⟩
end Go.Proofs.YtjamkfkbajhefaaGreatDoor
/- Rows of types; slices.BinarySearchFunc at them, place, parentOf: walks. -/
namespace Go.Proofs.YtjamkfkbajhefaaGreatDoor
open Go.RowKit Go.ChangeMaps

/-- A type that lies somewhere: where its rows are. -/
structure LT where
  t : Ty
  ao : Option Addr
  co : Nat
  aa : Option Addr
  ca : Nat
  ac : Option Addr
  cc : Nat
abbrev LT.vo (x : LT) : Value := .slice x.ao x.t.own.length x.co
abbrev LT.va (x : LT) : Value := .slice x.aa x.t.all.length x.ca
abbrev LT.vc (x : LT) : Value := .slice x.ac x.t.ch.length x.cc
def enT (x : LT) : List Value := [.string x.t.n, .string x.t.p, x.vo, x.va, x.vc, .int .i64 x.t.nd, .int .i64 x.t.lf, .int .i64 x.t.sq]
abbrev ltV (x : LT) : Value := tyV x.t x.vo x.va x.vc
def tCells (L : List LT) : List Value := L.flatMap enT
def tys (L : List LT) : List Ty := L.map LT.t
theorem tys_len (L : List LT) : (tys L).length = L.length := by simp [tys]
theorem tys_at (L : List LT) (k : Nat) (h : k < L.length) : (tys L)[k]'(by rw [tys_len]; exact h) = L[k].t := by simp [tys]
/-- Types in memory. -/
def IsTys (w : World) (v : Value) (L : List LT) : Prop := IsRow w 8 v L.length (tCells L) ∧ ∀ x ∈ L, IsTy w x.t x.vo x.va x.vc
theorem IsTys.below {w w' : World} {v : Value} {L : List LT} (h : IsTys w v L) (hb : Below w.heap.size w w') : IsTys w' v L := ⟨h.1.below hb, fun x hx => (h.2 x hx).below hb⟩
theorem tCells_app (a b : List LT) : tCells (a ++ b) = tCells a ++ tCells b := by simp [tCells]
theorem tCells_get : ∀ (L : List LT) (k : Nat) (hk : k < L.length) (j : Nat), j < 8 → (tCells L)[k * 8 + j]? = (enT L[k])[j]?
  | [], k, hk, _, _ => absurd hk (by simp)
  | d :: L, 0, _, j, hj => by
    unfold tCells
    rw [List.flatMap_cons, Nat.zero_mul, Nat.zero_add, List.getElem?_append_left (by exact hj)]
    rfl
  | d :: L, k + 1, hk, j, hj => by
    have ih := tCells_get L k (by simpa using hk) j hj
    unfold tCells at *
    rw [List.flatMap_cons, show (k + 1) * 8 + j = 8 + (k * 8 + j) by omega, List.getElem?_append_right (by show 8 ≤ _; omega), show 8 + (k * 8 + j) - (enT d).length = k * 8 + j by show 8 + (k * 8 + j) - 8 = _; omega, ih]
    simp
/-- A row of types, the k-th one's cells as the walk asks for them. -/
theorem t_at {w : World} {a : Option Addr} {n cap : Nat} {L : List LT} (h : IsRow w 8 (.slice a n cap) L.length (tCells L)) (h0 : 0 < L.length) :
    ∃ b off, a = some ⟨b, off, none⟩ ∧ b < w.heap.size ∧ n = L.length ∧ L.length ≤ cap ∧ ∀ (k : Nat) (hk : k < L.length), (w.cell? ⟨b, off + k * 8, none⟩ = some (.string L[k].t.n) ∧ w.cell? ⟨b, off + k * 8 + 1, none⟩ = some (.string L[k].t.p) ∧ w.cell? ⟨b, off + k * 8 + 2, none⟩ = some L[k].vo ∧ w.cell? ⟨b, off + k * 8 + 3, none⟩ = some L[k].va) ∧ w.cell? ⟨b, off + k * 8 + 4, none⟩ = some L[k].vc ∧ w.cell? ⟨b, off + k * 8 + 5, none⟩ = some (.int .i64 L[k].t.nd) ∧ w.cell? ⟨b, off + k * 8 + 6, none⟩ = some (.int .i64 L[k].t.lf) ∧ w.cell? ⟨b, off + k * 8 + 7, none⟩ = some (.int .i64 L[k].t.sq) := by
  obtain ⟨b, off, cap', hv, hlt, q1, q2, hc⟩ := h.open (by omega)
  simp only [Value.slice.injEq] at hv
  have key : ∀ (k : Nat) (hk : k < L.length) (j : Nat) (u : Value), j < 8 → (enT L[k])[j]? = some u → w.cell? ⟨b, off + k * 8 + j, none⟩ = some u := fun k hk j u hj hu => by
    have := hc (k * 8 + j) u (by rw [tCells_get L k hk j hj]; exact hu)
    rwa [← Nat.add_assoc] at this
  refine ⟨b, off, hv.1, hlt, hv.2.1, by omega, fun k hk => ⟨⟨?_, ?_, ?_, ?_⟩, ?_, ?_, ?_, ?_⟩⟩
  · have := key k hk 0 _ (by omega) rfl
    simpa using this
  · exact key k hk 1 _ (by omega) rfl
  · exact key k hk 2 _ (by omega) rfl
  · exact key k hk 3 _ (by omega) rfl
  · exact key k hk 4 _ (by omega) rfl
  · exact key k hk 5 _ (by omega) rfl
  · exact key k hk 6 _ (by omega) rfl
  · exact key k hk 7 _ (by omega) rfl
/-- Types are not too great to be looked at. -/
def NmL (L : List LT) : Prop := ∀ x ∈ L, NmT x.t
set_option maxRecDepth 100000 in
theorem plc1_any (x : LT) (s : ByteArray) (w : World) (hx : x.t.n.size ≤ 1000000) (hs : s.size ≤ 1000000) (hU : UT w) :
    Calls Tryz.prog 82 #[ltV x, .string s] w fun e w' => e = .returned (.int .i64 (nmC x.t s)) ∧ Below w.heap.size w w' := by
  have HB : Hid (Below w.heap.size w (w.alloc (.cells (tyA x.t x.vo x.va x.vc) 38))) := al_b w _
  have HC : Hid (Calls Tryz.prog 21 #[.string x.t.n, .string s] (w.alloc (.cells (tyA x.t x.vo x.va x.vc) 38)) fun e w' => e = .returned (.int .i64 (nmC x.t s)) ∧ Below (w.alloc (.cells (tyA x.t x.vo x.va x.vc) 38)).heap.size (w.alloc (.cells (tyA x.t x.vo x.va x.vc) 38)) w') := compare_any _ _ _ hx hs (Utf8Tabs_below hU HB.out)
  generalize nmC x.t s = C at *
  clear hU
  go_enter Tryz.func82, Tryz.ntmps82
  go_wp2_with fail
  refine HC.out.mono ?_
  rintro e w1 ⟨rfl, hb1⟩
  have HB1 : Hid (Below w.heap.size w w1) := HB.out.trans (hb1.mono HB.out.size)
  clear hb1 HB HC
  go_wp2
  go_ret
  exact ⟨rfl, HB1.out⟩
def PlP (L : List LT) (s : ByteArray) (w : World) (e : Ending) (w' : World) : Prop := e = .returned (.tuple #[.int .i64 (plcN (tys L) s : Int), .bool (parN (tys L) s).isSome]) ∧ Below w.heap.size w w'
theorem plP_at {L : List LT} {s : ByteArray} {w w' : World} {k : Nat} {b : Bool} (hR : Rise (tys L)) (hk : k ≤ L.length) (h1 : ∀ (t : Nat) (h : t < L.length), t < k → nmC L[t].t s < 0) (h2 : ∀ (t : Nat) (h : t < L.length), k ≤ t → ¬ nmC L[t].t s < 0) (hb : b = true ↔ ∃ h : k < L.length, nmC L[k].t s = 0) (hB : Below w.heap.size w w') : PlP L s w (.returned (.tuple #[.int .i64 (k : Int), .bool b])) w' := by
  have e : plcN (tys L) s = k := plc_at (tys L) s k (by rw [tys_len]; exact hk) (fun t h ht => by rw [tys_len] at h; rw [tys_at L t h]; exact h1 t h ht) (fun h => by rw [tys_len] at h; rw [tys_at L k h]; exact h2 k h (Nat.le_refl _))
  have e2 : (parN (tys L) s).isSome = b := by
    rw [par_plc hR]
    rw [Bool.eq_iff_iff, hb]
    by_cases h : k < L.length
    · have h' : plcN (tys L) s < (tys L).length := by rw [tys_len, e]; exact h
      rw [dif_pos h']
      have e3 : (tys L)[plcN (tys L) s] = L[k].t := by
        have : (tys L)[plcN (tys L) s]? = some L[k].t := by rw [e, List.getElem?_eq_getElem (by rw [tys_len]; exact h), tys_at L k h]
        exact Option.some.inj ((List.getElem?_eq_getElem h').symm.trans this)
      rw [e3]
      by_cases h0 : nmC L[k].t s = 0
      · rw [if_pos h0]; exact ⟨fun _ => ⟨h, h0⟩, fun _ => rfl⟩
      · rw [if_neg h0]; exact ⟨(fun h => by cases h), fun ⟨_, h⟩ => absurd h h0⟩
    · rw [dif_neg (by rw [tys_len, e]; exact h)]
      exact ⟨(fun h => by cases h), fun ⟨h', _⟩ => absurd h' h⟩
  unfold PlP
  rw [e, e2]
  exact ⟨rfl, hB⟩
set_option maxRecDepth 100000 in
set_option maxHeartbeats 2000000 in
theorem bsf_any (v : Value) (L : List LT) (s : ByteArray) (w : World) (hr : IsRow w 8 v L.length (tCells L)) (hl : L.length ≤ 1000) (hn : ∀ x ∈ L, x.t.n.size ≤ 1000000) (hs : s.size ≤ 1000000) (hU : UT w) (hR : Rise (tys L)) :
    Calls Tryz.prog 81 #[v, .string s, .func (.func 82) #[] #[]] w fun e w' => PlP L s w e w' := by
  obtain ⟨a0, cap0, rfl⟩ := hr.form
  have HRw : Hid (∀ w', Below w.heap.size w w' → IsRow w' 8 (.slice a0 L.length cap0) L.length (tCells L)) := fun w' h => hr.below h
  have HC : Hid (∀ (k : Nat) (hk : k < L.length) w', Below w.heap.size w w' → Calls Tryz.prog 82 #[ltV L[k], .string s] w' fun e w'' => e = .returned (.int .i64 (nmC L[k].t s)) ∧ Below w'.heap.size w' w'') := fun k hk w' h => plc1_any _ _ w' (hn _ (List.getElem_mem hk)) hs (Utf8Tabs_below hU h)
  have HMo : Hid (∀ (a b : Nat) (hab : a ≤ b) (hb : b < L.length), nmC L[b].t s < 0 → nmC (L[a]'(by omega)).t s < 0) := fun a b hab hb h => by
    have := rise_mono hR (a := a) (b := b) hab (by rw [tys_len]; exact hb) (by rw [tys_at L b hb]; exact h)
    rwa [tys_at L a (by omega)] at this
  have HRi : Hid (Rise (tys L)) := hR
  clear hr hn hU hR
  go_enter Tryz.func81, Tryz.ntmps81
  go_wp2_with fail
  go_loopw [9, 10, 11] (fun i j _ wr => ∃ lo hi : Nat, lo ≤ hi ∧ hi ≤ L.length ∧ i = .int .i64 (lo : Int) ∧ j = .int .i64 (hi : Int) ∧ Hid ((∀ (t : Nat) (h : t < L.length), t < lo → nmC L[t].t s < 0) ∧ ∀ (t : Nat) (h : t < L.length), hi ≤ t → 0 ≤ nmC L[t].t s) ∧ Hid (Below w.heap.size w wr)) (fun i j _ _ => (intOf j).toNat - (intOf i).toNat)
  case atStart => exact ⟨0, L.length, Nat.zero_le _, Nat.le_refl _, rfl, rfl, ⟨fun t h ht => absurd ht (Nat.not_lt_zero _), fun t h ht => absurd ht (by omega)⟩, Below.refl _ _⟩
  case round =>
    obtain ⟨lo, hi, hlh, hhl, rfl, rfl, HI, HB⟩ := hrel
    have hsz := HB.out.size
    by_cases hlt : lo < hi
    · have d1 : decide (lo < hi) = true := by simp; omega
      have d1' : decide ((lo : Int) < (hi : Int)) = true := by simp; omega
      obtain ⟨m, hm⟩ : ∃ m : Nat, m = (lo + hi) / 2 := ⟨_, rfl⟩
      have hml : m < L.length := by omega
      have em : ((lo : Int) + (hi : Int)) / 2 = (m : Int) := by omega
      obtain ⟨b, off, rfl, hbl, -, hcap, hc⟩ := t_at (HRw.out _ HB.out) (by omega)
      obtain ⟨⟨y0, y1, y2, y3⟩, y4, y5, y6, y7⟩ := hc m hml
      have HCk := HC.out m hml wr HB.out
      have HCk' : Hid (Calls Tryz.prog 82 #[ltV L[m], .string s] wr fun e w'' => e = .returned (.int .i64 (nmC L[m].t s)) ∧ Below wr.heap.size wr w'') := HCk
      have HLo : Hid (nmC L[m].t s < 0 → (∀ (t : Nat) (h : t < L.length), t < m + 1 → nmC L[t].t s < 0) ∧ ∀ (t : Nat) (h : t < L.length), hi ≤ t → 0 ≤ nmC L[t].t s) := fun h0 => ⟨fun t h ht => HMo.out t m (by omega) hml h0, HI.out.2⟩
      have HHi : Hid (¬ nmC L[m].t s < 0 → (∀ (t : Nat) (h : t < L.length), t < lo → nmC L[t].t s < 0) ∧ ∀ (t : Nat) (h : t < L.length), m ≤ t → 0 ≤ nmC L[t].t s) := fun h0 => ⟨HI.out.1, fun t h ht => Int.not_lt.1 fun hlt => h0 (HMo.out m t ht h hlt)⟩
      have i1 : (0 : Int) ≤ (m : Int) := by omega
      have i2 : (m : Int) < (L.length : Int) := by omega
      have hm1 : lo ≤ m := by omega
      have hm2 : m < hi := by omega
      generalize L[m]'hml = x at *
      generalize nmC x.t s = C at *
      clear hc HC HCk HI hm HMo HRi HRw
      by_cases hC : C < 0
      · have dC : decide (C < 0) = true := decide_eq_true hC
        have HN := HLo.out hC
        have HN' : Hid ((∀ (t : Nat) (h : t < L.length), t < m + 1 → nmC L[t].t s < 0) ∧ ∀ (t : Nat) (h : t < L.length), hi ≤ t → 0 ≤ nmC L[t].t s) := HN
        clear HN HLo HHi hC
        go_wp2_with fail
        refine HCk'.out.mono ?_
        rintro e w5 ⟨rfl, hb5⟩
        have HB5 : Hid (Below w.heap.size w w5) := HB.out.trans (hb5.mono hsz)
        clear hb5 HCk' HB y0 y1 y2 y3 y4 y5 y6 y7
        go_wp2
        go_roundw
        case rel => exact ⟨m + 1, hi, by omega, hhl, by simp, rfl, HN', HB5⟩
        case measure => simp [intOf]; omega
      · have dC : decide (C < 0) = false := decide_eq_false hC
        have HN := HHi.out hC
        have HN' : Hid ((∀ (t : Nat) (h : t < L.length), t < lo → nmC L[t].t s < 0) ∧ ∀ (t : Nat) (h : t < L.length), m ≤ t → 0 ≤ nmC L[t].t s) := HN
        clear HN HLo HHi hC
        go_wp2_with fail
        refine HCk'.out.mono ?_
        rintro e w5 ⟨rfl, hb5⟩
        have HB5 : Hid (Below w.heap.size w w5) := HB.out.trans (hb5.mono hsz)
        clear hb5 HCk' HB y0 y1 y2 y3 y4 y5 y6 y7
        go_wp2
        go_roundw
        case rel => exact ⟨lo, m, by omega, by omega, rfl, rfl, HN', HB5⟩
        case measure => simp [intOf]; omega
    · have d1 : decide (lo < hi) = false := by simp; omega
      have d1' : decide ((lo : Int) < (hi : Int)) = false := by simp; omega
      have e : hi = lo := by omega
      subst e
      by_cases hln : hi < L.length
      · have d2 : decide (hi < L.length) = true := by simp; omega
        have d2' : decide ((hi : Int) < (L.length : Int)) = true := by simp; omega
        obtain ⟨b, off, rfl, hbl, -, hcap, hc⟩ := t_at (HRw.out _ HB.out) (by omega)
        obtain ⟨⟨y0, y1, y2, y3⟩, y4, y5, y6, y7⟩ := hc hi hln
        have HCk' : Hid (Calls Tryz.prog 82 #[ltV L[hi], .string s] wr fun e w'' => e = .returned (.int .i64 (nmC L[hi].t s)) ∧ Below wr.heap.size wr w'') := HC.out hi hln wr HB.out
        have HEnd : Hid (∀ bo : Bool, (bo = true ↔ nmC L[hi].t s = 0) → ∀ w', Below w.heap.size w w' → PlP L s w (.returned (.tuple #[.int .i64 (hi : Int), .bool bo])) w') := fun bo h w' hb => plP_at HRi.out hhl HI.out.1 (fun t h ht => Int.not_lt.2 (HI.out.2 t h ht)) (by rw [h]; exact ⟨fun h => ⟨hln, h⟩, fun ⟨_, h⟩ => h⟩) hb
        have i1 : (0 : Int) ≤ (hi : Int) := by omega
        have i2 : (hi : Int) < (L.length : Int) := by omega
        generalize L[hi]'hln = x at *
        generalize nmC x.t s = C at *
        have HE2 : Hid (∀ w', Below w.heap.size w w' → PlP L s w (.returned (.tuple #[.int .i64 (hi : Int), .bool (C == 0)])) w') := fun w' hb => HEnd.out _ beq_iff_eq w' hb
        clear hc HC HI HMo HRi HRw HEnd
        go_wp2_with fail
        refine HCk'.out.mono ?_
        rintro e w5 ⟨rfl, hb5⟩
        have HB5 : Hid (Below w.heap.size w w5) := HB.out.trans (hb5.mono hsz)
        have HE3 : Hid (PlP L s w (.returned (.tuple #[.int .i64 (hi : Int), .bool (C == 0)])) w5) := HE2.out w5 HB5.out
        clear hb5 HCk' HB y0 y1 y2 y3 y4 y5 y6 y7 HE2
        go_wp2
        go_ret2
        exact HE3.out
      · have d2 : decide (hi < L.length) = false := by simp; omega
        have d2' : decide ((hi : Int) < (L.length : Int)) = false := by simp; omega
        have HE3 : Hid (PlP L s w (.returned (.tuple #[.int .i64 (hi : Int), .bool false])) wr) := plP_at HRi.out hhl HI.out.1 (fun t h ht => Int.not_lt.2 (HI.out.2 t h ht)) ⟨(fun h => by cases h), fun ⟨h, _⟩ => absurd h hln⟩ HB.out
        clear HC HI HMo HRi HRw
        go_wp2
        go_ret2
        exact HE3.out
set_option maxRecDepth 100000 in
theorem place_any (v : Value) (L : List LT) (s : ByteArray) (w : World) (hr : IsRow w 8 v L.length (tCells L)) (hl : L.length ≤ 1000) (hn : ∀ x ∈ L, x.t.n.size ≤ 1000000) (hs : s.size ≤ 1000000) (hU : UT w) (hR : Rise (tys L)) :
    Calls Tryz.prog 50 #[v, .string s] w fun e w' => PlP L s w e w' := by
  obtain ⟨a0, cap0, rfl⟩ := hr.form
  have HC : Hid (Calls Tryz.prog 81 #[.slice a0 L.length cap0, .string s, .func (.func 82) #[] #[]] w fun e w' => PlP L s w e w') := bsf_any _ L s w hr hl hn hs hU hR
  clear hr hn hU hR
  go_enter Tryz.func50, Tryz.ntmps50
  go_wp2_with fail
  refine HC.out.mono ?_
  intro e w1 h1
  have HP : Hid (PlP L s w e w1) := h1
  obtain ⟨rfl, hb1⟩ := h1
  clear HC hb1
  go_wp2
  go_ret2
  exact HP.out
end Go.Proofs.YtjamkfkbajhefaaGreatDoor
/- slices.Concat of two rows of fields: its walk. -/
namespace Go.Proofs.YtjamkfkbajhefaaGreatDoor
open Go.RowKit Go.ChangeMaps

def pre2 (a b : List Fd) (k : Nat) : List Fd := if k = 0 then [] else if k = 1 then a else a ++ b
set_option maxRecDepth 100000 in
set_option maxHeartbeats 2000000 in
theorem concatF_any (B : Nat) (v u : Value) (a b : List Fd) (w : World) (hr : IsRow w 3 v a.length (fCells a)) (hq : IsRow w 3 u b.length (fCells b)) (c0 : w.cell? ⟨B, 0, none⟩ = some v) (c1 : w.cell? ⟨B, 1, none⟩ = some u) (ha : a.length ≤ 100) (hb : b.length ≤ 100) :
    Calls Tryz.prog 84 #[.slice (some ⟨B, 0, none⟩) 2 2] w fun e w' => ClF (a ++ b) w e w' := by
  have hB : B < w.heap.size := World.block_lt_of_cell? _ _ c0
  obtain ⟨a0, cap0, rfl⟩ := hr.form
  obtain ⟨a1, cap1, rfl⟩ := hq.form
  have HA : Hid (∀ W, Below w.heap.size w W → (W.cell? ⟨B, 0, none⟩ = some (.slice a0 a.length cap0) ∧ W.cell? ⟨B, 1, none⟩ = some (.slice a1 b.length cap1)) ∧ IsRow W 3 (.slice a0 a.length cap0) a.length (fCells a) ∧ IsRow W 3 (.slice a1 b.length cap1) b.length (fCells b)) := fun W h => ⟨⟨(h.cell (p := ⟨B, 0, none⟩) hB).trans c0, (h.cell (p := ⟨B, 1, none⟩) hB).trans c1⟩, hr.below h, hq.below h⟩
  clear hr hq
  go_enter Tryz.func84, Tryz.ntmps84
  go_wp2_with fail
  go_loopw [3, 11] (fun s i wr => ∃ k : Nat, k ≤ 2 ∧ i = .int .i64 (k : Int) ∧ s = .int .i64 ((pre2 a b k).length : Int) ∧ w = wr) (fun _ i _ => 2 - (intOf i).toNat)
  case atStart => exact ⟨0, by omega, rfl, rfl, rfl⟩
  case round =>
    obtain ⟨k, hk, rfl, rfl, rfl⟩ := hrel
    obtain rfl | rfl | rfl : k = 0 ∨ k = 1 ∨ k = 2 := by omega
    · have e0 : (pre2 a b 0).length = 0 := rfl
      have e1 : Hid ((pre2 a b 1).length = a.length) := rfl
      have nn : ¬ ((a.length : Int) < 0) := by omega
      rw [e0]
      clear e0
      go_wp2
      go_roundw
      case rel => exact ⟨1, by omega, rfl, by rw [e1.out], trivial⟩
      case measure => simp [intOf]
    · have e0 : (pre2 a b 1).length = a.length := rfl
      have e1 : Hid ((pre2 a b 2).length = a.length + b.length) := by
        show (a ++ b).length = _
        exact List.length_append
      have nn : ¬ ((a.length : Int) + (b.length : Int) < 0) := by omega
      have wz : IntKind.i64.wrap ((a.length : Int) + (b.length : Int)) = (a.length : Int) + (b.length : Int) := by
        rw [IntKind.wrap_i64]; omega
      rw [e0]
      clear e0
      go_wp2
      go_roundw
      case rel => exact ⟨2, by omega, rfl, by rw [e1.out]; simp, trivial⟩
      case measure => simp [intOf]
    · have e0 : (pre2 a b 2).length = a.length + b.length := by
        show (a ++ b).length = _
        exact List.length_append
      have HG : Hid (Calls Tryz.prog 109 #[.slice none 0 0, .int .i64 ((pre2 a b 2).length : Int)] w fun e w' => ClF [] w e w') := growF_nil _ w (by rw [e0]; omega)
      clear e0
      generalize (pre2 a b 2).length = n at *
      go_wp2_with fail
      refine HG.out.mono ?_
      rintro e w1 ⟨v1, rfl, ho1, hb1⟩
      have HO1 : Hid (w1.ownsRow w.heap.size 48 3 v1 (pre2 a b 0).length (fCells (pre2 a b 0))) := ho1
      have HB1 : Hid (Below w.heap.size w w1) := hb1
      clear ho1 hb1 HG
      go_wp2_with fail
      go_loopw [6, 27] (fun s i wr => ∃ k : Nat, k ≤ 2 ∧ i = .int .i64 (k : Int) ∧ Hid (wr.ownsRow w.heap.size 48 3 s (pre2 a b k).length (fCells (pre2 a b k))) ∧ Hid (Below w.heap.size w wr)) (fun _ i _ => 2 - (intOf i).toNat)
      case atStart => exact ⟨0, by omega, rfl, HO1, HB1⟩
      case round =>
        clear HO1 HB1 c0 c1
        obtain ⟨k, hk, rfl, HO, HB⟩ := hrel
        obtain ⟨⟨c0, c1⟩, r0, r1⟩ := HA.out wr HB.out
        have HR0 : Hid (IsRow wr 3 (.slice a0 a.length cap0) a.length (fCells a)) := r0
        have HR1 : Hid (IsRow wr 3 (.slice a1 b.length cap1) b.length (fCells b)) := r1
        have hsz := HB.out.size
        clear r0 r1
        obtain rfl | rfl | rfl : k = 0 ∨ k = 1 ∨ k = 2 := by omega
        · go_wp2_with (at_builtin; go_loud (refine wpl_fds wr rfl (.tmp 31) (.tmp 32) rfl w.heap.size u6 (.slice a0 a.length cap0) [] a rfl rfl HO.out HR0.out (by simp; omega) hsz ?_; intro v4 w4 hown4 hb4))
          have HO4 : Hid (w4.ownsRow w.heap.size 48 3 v4 (pre2 a b 1).length (fCells (pre2 a b 1))) := hown4
          have HB4 : Hid (Below w.heap.size w w4) := HB.out.trans hb4
          clear hown4 hb4 HO HR0 HR1
          go_wp2
          go_roundw
          case rel => exact ⟨1, by omega, rfl, HO4, HB4⟩
          case measure => simp [intOf]
        · go_wp2_with (at_builtin; go_loud (refine wpl_fds wr rfl (.tmp 31) (.tmp 32) rfl w.heap.size u6 (.slice a1 b.length cap1) a b rfl rfl HO.out HR1.out (by omega) hsz ?_; intro v4 w4 hown4 hb4))
          have HO4 : Hid (w4.ownsRow w.heap.size 48 3 v4 (pre2 a b 2).length (fCells (pre2 a b 2))) := hown4
          have HB4 : Hid (Below w.heap.size w w4) := HB.out.trans hb4
          clear hown4 hb4 HO HR0 HR1
          go_wp2
          go_roundw
          case rel => exact ⟨2, by omega, rfl, HO4, HB4⟩
          case measure => simp [intOf]
        · clear HR0 HR1
          go_wp2
          go_ret
          exact ⟨_, rfl, HO.out, HB.out⟩
end Go.Proofs.YtjamkfkbajhefaaGreatDoor
