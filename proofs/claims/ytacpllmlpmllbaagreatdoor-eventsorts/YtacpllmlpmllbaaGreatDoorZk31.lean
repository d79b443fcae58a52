/- Attributes that are sorted: plain mathematics. -/
import Derived.Test.YtacpllmlpmllbaaGreatDoorZk18
import Derived.Test.YtacpllmlpmllbaaGreatDoorZk9
import Derived.Test.YtacpllmlpmllbaaGreatDoorZk10
import Derived.Shelf.SlSortCmp.NoneTotal
import Derived.Ground.SlsfProg
import Derived.Test.YtacpllmlpmllbaaGreatDoorProg
import Derived.Test.YtacpllmlpmllbaaGreatDoorZk11
import Derived.Test.YtacpllmlpmllbaaGreatDoorZk29
namespace Go.Proofs.YtacpllmlpmllbaaGreatDoor
open Go.RowKit

/-- Ahead, by the names. -/
def ltQ (x y : At) : Prop := cmpL x.n.data.toList y.n.data.toList = -1
theorem ltQ_trans {x y z : At} (h1 : ltQ x y) (h2 : ltQ y z) : ltQ x z := cmp_trans _ _ _ h1 h2
theorem ltQ_irr (x : At) : ¬ ltQ x x := by
  unfold ltQ cmpL
  rw [cmp_self]
  decide
/-- Not the same names. -/
def neA (x y : At) : Prop := sameL x.n.data.toList y.n.data.toList = false
theorem neA_symm {x y : At} (h : neA x y) : neA y x := by
  unfold neA sameL at *
  rw [decide_eq_false_iff_not] at *
  exact fun e => h e.symm
theorem ltQ_ne {x y : At} (h : ltQ x y) : neA x y := by
  unfold neA sameL
  rw [decide_eq_false_iff_not]
  intro e
  unfold ltQ cmpL at h
  rw [e, cmp_self] at h
  cases h
theorem ltQ_of {x y : At} (h1 : ¬ cmpL y.n.data.toList x.n.data.toList < 0) (h2 : neA x y) : ltQ x y := by
  unfold ltQ
  have hv := cmp_vals (foldL x.n.data.toList) (foldL y.n.data.toList)
  have ha := cmp_anti (foldL y.n.data.toList) (foldL x.n.data.toList)
  unfold cmpL at *
  rcases hv with h | h | h
  · exact h
  · have := cmp_zero _ _ h
    unfold neA sameL at h2
    rw [decide_eq_false_iff_not] at h2
    exact absurd this h2
  · omega
theorem chkA_sorted {l : List At} (h : chkA l = true) : l.Pairwise ltQ := by
  unfold chkA at h
  simp only [Bool.and_eq_true, decide_eq_true_eq] at h
  have key : ∀ (j i : Nat) (hi : i < j) (hj : j < l.length), ltQ (l[i]'(by omega)) l[j] := by
    intro j
    induction j with
    | zero => intro i hi; omega
    | succ j ih =>
      intro i hi hj
      have h1 : ltQ l[j] l[j + 1] := cmpL_lt.1 ((h.2 (j + 1) hj).2 j rfl)
      by_cases e : i = j
      · subst e; exact h1
      · exact ltQ_trans (ih i (by omega) (by omega)) h1
  rw [List.pairwise_iff_getElem]
  exact fun i j hi hj hij => key j i hij hj
theorem chkA_mayA {l : List At} (h : chkA l = true) : ∀ x ∈ l, mayA x = true := by
  unfold chkA at h
  simp only [Bool.and_eq_true, decide_eq_true_eq] at h
  intro x hx
  obtain ⟨i, hi, rfl⟩ := List.mem_iff_getElem.1 hx
  exact (h.2 i hi).1
theorem chkA_of {l : List At} (h1 : l.length ≤ 24) (h2 : ∀ x ∈ l, mayA x = true) (h3 : l.Pairwise ltQ) : chkA l = true := by
  unfold chkA
  simp only [Bool.and_eq_true, decide_eq_true_eq]
  refine ⟨h1, fun k hk => ⟨h2 _ (List.getElem_mem hk), fun j e => ?_⟩⟩
  subst e
  exact cmpL_lt.2 ((List.pairwise_iff_getElem.1 h3) j (j + 1) (by omega) hk (by omega))
/-- Not behind. -/
def leA (x y : At) : Prop := ¬ cmpL y.n.data.toList x.n.data.toList < 0
/-- One step of putting a field in. -/
def stpA (x : At) (s : List At × Bool) (y : At) : List At × Bool := if s.2 = false ∧ cmpL x.n.data.toList y.n.data.toList < 0 then (s.1 ++ [x] ++ [y], true) else (s.1 ++ [y], s.2)
def insSA (x : At) (o : List At) : List At × Bool := o.foldl (stpA x) ([], false)
def finSA (x : At) (s : List At × Bool) : List At := if s.2 = true then s.1 else s.1 ++ [x]
def insRA (x : At) : List At → List At
  | [] => [x]
  | y :: o => if cmpL x.n.data.toList y.n.data.toList < 0 then x :: y :: o else y :: insRA x o
def hasSA (x : At) (o : List At) : Bool := o.any fun y => sameL y.n.data.toList x.n.data.toList
/-- What is sorted so far, and what is left. -/
def rsrtA : List At → List At → Option (List At)
  | o, [] => some o
  | o, x :: l => if hasSA x o = true then none else rsrtA (finSA x (insSA x o)) l
theorem fold_trueA (x : At) : ∀ (o acc : List At), o.foldl (stpA x) (acc, true) = (acc ++ o, true)
  | [], acc => by simp
  | y :: o, acc => by
    rw [List.foldl_cons]
    have e : stpA x (acc, true) y = (acc ++ [y], true) := by unfold stpA; rw [if_neg (by simp)]
    rw [e, fold_trueA x o]
    simp
theorem fold_finA (x : At) : ∀ (o acc : List At), finSA x (o.foldl (stpA x) (acc, false)) = acc ++ insRA x o
  | [], acc => by simp [finSA, insRA]
  | y :: o, acc => by
    rw [List.foldl_cons, insRA]
    by_cases h : cmpL x.n.data.toList y.n.data.toList < 0
    · have e : stpA x (acc, false) y = (acc ++ [x] ++ [y], true) := by unfold stpA; rw [if_pos ⟨rfl, h⟩]
      rw [e, fold_trueA, if_pos h]
      simp [finSA]
    · have e : stpA x (acc, false) y = (acc ++ [y], false) := by unfold stpA; rw [if_neg (fun hh => h hh.2)]
      rw [e, fold_finA x o, if_neg h]
      simp
theorem ins_eqA (x : At) (o : List At) : finSA x (insSA x o) = insRA x o := by
  unfold insSA
  rw [fold_finA]
  rfl
theorem insRA_perm (x : At) : ∀ o : List At, (insRA x o).Perm (x :: o)
  | [] => List.Perm.refl _
  | y :: o => by
    rw [insRA]
    split
    · exact List.Perm.refl _
    · exact ((insRA_perm x o).cons y).trans (List.Perm.swap x y o)
theorem insRA_sorted (x : At) : ∀ o : List At, o.Pairwise ltQ → (∀ y ∈ o, neA y x) → (insRA x o).Pairwise ltQ
  | [], _, _ => by simp [insRA]
  | y :: o, h, hn => by
    rw [insRA]
    rw [List.pairwise_cons] at h
    split
    · rename_i hc
      have hxy : ltQ x y := cmpL_lt.1 hc
      rw [List.pairwise_cons, List.pairwise_cons]
      refine ⟨fun z hz => ?_, h⟩
      rcases List.mem_cons.1 hz with rfl | hz
      · exact hxy
      · exact ltQ_trans hxy (h.1 z hz)
    · rename_i hc
      rw [List.pairwise_cons]
      refine ⟨fun z hz => ?_, insRA_sorted x o h.2 (fun z hz => hn z (by simp [hz]))⟩
      rcases List.mem_cons.1 ((insRA_perm x o).mem_iff.1 hz) with rfl | hz
      · exact ltQ_of hc (hn y (by simp))
      · exact h.1 z hz
theorem has_iffA {x : At} {o : List At} : hasSA x o = false ↔ ∀ y ∈ o, neA y x := by
  unfold hasSA
  rw [List.any_eq_false]
  constructor
  · intro h y hy
    have := h y hy
    unfold neA
    simpa using this
  · intro h y hy
    have := h y hy
    unfold neA at this
    rw [this]
    simp
theorem rsrtA_some : ∀ (l o R : List At), o.Pairwise ltQ → rsrtA o l = some R → R.Perm (o ++ l) ∧ R.Pairwise ltQ
  | [], o, R, ho, h => by
    obtain rfl := Option.some.inj h
    exact ⟨by simp, ho⟩
  | x :: l, o, R, ho, h => by
    rw [rsrtA] at h
    split at h
    · cases h
    · rename_i hs
      rw [ins_eqA] at h
      have hn := has_iffA.1 (by simpa using hs)
      obtain ⟨p, s⟩ := rsrtA_some l _ R (insRA_sorted x o ho hn) h
      refine ⟨p.trans ?_, s⟩
      exact ((insRA_perm x o).append_right l).trans (List.perm_middle.symm)
theorem rsrtA_none : ∀ (l o : List At), o.Pairwise ltQ → rsrtA o l = none → ¬ (o ++ l).Pairwise neA
  | [], o, ho, h => by cases h
  | x :: l, o, ho, h => by
    rw [rsrtA] at h
    intro hp
    split at h
    · rename_i hs
      have hh : hasSA x o = false := has_iffA.2 fun y hy => by
        rw [List.pairwise_append] at hp
        exact hp.2.2 y hy x (by simp)
      rw [hh] at hs
      cases hs
    · rename_i hs
      rw [ins_eqA] at h
      have hn := has_iffA.1 (by simpa using hs)
      refine rsrtA_none l _ (insRA_sorted x o ho hn) h ?_
      have hq : (insRA x o ++ l).Perm (o ++ x :: l) := ((insRA_perm x o).append_right l).trans (List.perm_middle.symm)
      exact (hq.pairwise_iff neA_symm).2 hp
/-- What the reference answers is what the program answers. -/
theorem srt_sameA {l D : List At} (h24 : l.length ≤ 24) (hm : ∀ x ∈ l, mayA x = true) (hp : D.Perm l) (hs : D.Pairwise leA) : rsrtA [] l = if chkA D = true then some D else none := by
  cases h : rsrtA [] l with
  | some R =>
    obtain ⟨p, s⟩ := rsrtA_some l [] R List.Pairwise.nil h
    rw [List.nil_append] at p
    have hne : D.Pairwise neA := ((hp.trans p.symm).pairwise_iff neA_symm).2 (s.imp ltQ_ne)
    have hlt : D.Pairwise ltQ := (hs.and hne).imp fun ⟨h1, h2⟩ => ltQ_of h1 h2
    have hc : chkA D = true := chkA_of (by rw [hp.length_eq]; exact h24) (fun x hx => hm x (hp.mem_iff.1 hx)) hlt
    have e : D = R := List.Perm.eq_of_pairwise (le := ltQ) (fun x y _ _ h1 h2 => absurd (ltQ_trans h1 h2) (ltQ_irr x)) hlt s (hp.trans p.symm)
    rw [if_pos hc, e]
  | none =>
    have hn := rsrtA_none l [] List.Pairwise.nil h
    rw [List.nil_append] at hn
    by_cases hc : chkA D = true
    · exact absurd ((hp.pairwise_iff neA_symm).1 ((chkA_sorted hc).imp ltQ_ne)) hn
    · rw [if_neg hc]
theorem stpA_len (x : At) : ∀ (o : List At) (s : List At × Bool), (o.foldl (stpA x) s).1.length ≤ s.1.length + 2 * o.length
  | [], s => by simp
  | y :: o, s => by
    rw [List.foldl_cons]
    have h := stpA_len x o (stpA x s y)
    have h2 : (stpA x s y).1.length ≤ s.1.length + 2 := by unfold stpA; split <;> simp
    rw [List.length_cons]
    omega
theorem stpA_take {x : At} {o : List At} {j : Nat} (hj : j < o.length) : insSA x (o.take (j + 1)) = stpA x (insSA x (o.take j)) o[j] := by
  unfold insSA
  rw [List.take_succ_eq_append_getElem hj, List.foldl_append]
  rfl
theorem insSA_len (x : At) (o : List At) : (insSA x o).1.length ≤ 2 * o.length := by
  have := stpA_len x o ([], false)
  unfold insSA
  simpa using this
theorem ins_lenA (x : At) (o : List At) : (finSA x (insSA x o)).length = o.length + 1 := by rw [ins_eqA, (insRA_perm x o).length_eq]; rfl
theorem ins_memA {x : At} {o : List At} {p : At → Prop} (h1 : p x) (h2 : ∀ y ∈ o, p y) : ∀ y ∈ finSA x (insSA x o), p y := by
  rw [ins_eqA]
  intro y hy
  rcases List.mem_cons.1 ((insRA_perm x o).mem_iff.1 hy) with rfl | hy
  · exact h1
  · exact h2 y hy
end Go.Proofs.YtacpllmlpmllbaaGreatDoor
/- slices.Clone at attributes: its walk. -/
namespace Go.Proofs.YtacpllmlpmllbaaGreatDoor
open Go.RowKit Go.ChangeMaps

/-- Names are not too long for the reference. -/
def NmQa (l : List At) : Prop := ∀ x ∈ l, x.n.size ≤ 200000
theorem info_rq : (Tryz.prog.info? 90).map (fun i => (i.zero, i.size, i.bytes)) = some (some (.agg #[.string ⟨#[]⟩, .int .i64 0, .int .i64 0, .string ⟨#[]⟩]), 4, 48) := by kernel_rfl
theorem oneA_cell (l : List At) : ∀ u ∈ aCells l, u.oneCell' = true := by
  intro u hu
  obtain ⟨x, -, hx⟩ := List.mem_flatMap.1 hu
  simp only [enA, List.mem_cons, List.not_mem_nil, or_false] at hx
  rcases hx with rfl | rfl | rfl | rfl <;> rfl
theorem aCells_app (a b : List At) : aCells (a ++ b) = aCells a ++ aCells b := by simp [aCells]
/-- A row of fields is appended to one that is owned. -/
theorem wpl_ats (w : World) {ops : Array Oper} {rest : List Oper} {o : Oper} {a : Act} {Q : Exit → Act → World → Prop} (hgd : o.guard = none) (s x : Operand)
    (ho : o.op = .call { callee := .builtin .append, args := #[s, x], argTypes := #[24, 24] })
    (base : Nat) (v xv : Value) (l news : List At) (hs : a.eval s = v) (hx : a.eval x = xv) (h : w.ownsRow base 78 4 v l.length (aCells l)) (hr : IsRow w 4 xv news.length (aCells news)) (hl : l.length + news.length ≤ 1000000) (hbase : base ≤ w.heap.size)
    (hk : ∀ v' w', w'.ownsRow base 78 4 v' (l ++ news).length (aCells (l ++ news)) → Below base w w' → wpList Tryz.prog ops Q rest (a.put o.dst v') w') : wpList Tryz.prog ops Q (o :: rest) a w := by
  obtain ⟨i0, hi0, hz0, hz1, hz2⟩ := info_parts info_av
  rcases hr.2 with ⟨h0, xa, xc, rfl⟩ | ⟨b, off, cap, rfl, hb, hc, hm, hcell⟩
  · refine wpList_plain hgd fun K hK => ?_
    have hn : news = [] := List.eq_nil_of_length_eq_zero h0
    subst hn
    have hv : ∃ va vc, v = .slice va l.length vc ∧ l.length ≤ vc := by
      rcases h.2 with ⟨rfl, h1⟩ | ⟨g, cap, cur, rfl, _, _, hlc, _⟩
      · rw [h1]; exact ⟨none, 0, rfl, Nat.le_refl _⟩
      · exact ⟨_, cap, rfl, hlc⟩
    obtain ⟨va, vc, rfl, hvc⟩ := hv
    have hrun := run_app0S (P := Tryz.prog) w 24 o.type 78 i0 Tryz.underlying24 hi0 va l.length vc hvc xa xc
    unfold Oper.wp execOp
    simp only [ho, resolve, invoke, builtin, Sem.run_bind, Sem.run_pure, Result.andThen_ok, List.map_toArray, List.map_cons, List.map_nil, hs, hx, hrun]
    exact hK _ _ (hk _ w (by rw [List.append_nil]; exact h) (Below.refl _ _))
  · refine wpList_append_own_at w hgd s x 24 ho base 78 i0 _ 4 48 Tryz.underlying24 hi0 hz0 hz1 hz2 rfl (by decide) v l.length (aCells l) hs h ⟨b, off, none⟩ news.length cap (aCells news) hx (aCells_len _) (fun j u hu => ?_) (oneA_cell _) (by unfold maxLen; omega) (by omega) hbase fun v' w' h1 h2 _ h4 => hk v' w' ?_ ?_
    · have hadd : (⟨b, off, none⟩ : Addr).add j = ⟨b, off + j, none⟩ := by unfold Addr.add; split <;> simp_all
      rw [hadd]; exact hcell j u hu
    · rw [List.length_append, aCells_app]; exact h1
    · exact (Below.refl _ _).grown h2 hbase (fun k hk => (h.lt k hk).1)
def ClA (l : List At) (w : World) (e : Ending) (w' : World) : Prop := ∃ v, e = .returned v ∧ w'.ownsRow w.heap.size 78 4 v l.length (aCells l) ∧ Below w.heap.size w w'
set_option maxRecDepth 100000 in
set_option maxHeartbeats 1000000 in
theorem cloneA_any (v : Value) (l : List At) (w : World) (hr : IsRow w 4 v l.length (aCells l)) (hl : l.length ≤ 1000) :
    Calls Tryz.prog 62 #[v] w fun e w' => ClA l w e w' := by
  obtain ⟨a0, cap0, rfl⟩ := hr.form
  cases a0 with
  | none =>
    have hn : l.length = 0 := by
      rcases hr.2 with ⟨h, -⟩ | ⟨b, off, cap, hv, -⟩
      · exact h
      · cases hv
    obtain rfl : l = [] := List.eq_nil_of_length_eq_zero hn
    have heq : ∀ w, (binOp BinOp.eql 24 (.slice none 0 cap0) (.slice none 0 0)).run Tryz.prog w = .ok (.bool true) w := fun w => by kernel_rfl
    clear hr hn
    go_enter Tryz.func62, Tryz.ntmps62
    go_wp2
    go_ret
    exact ⟨_, rfl, ⟨rfl, .inl ⟨rfl, rfl⟩⟩, Below.refl _ _⟩
  | some a =>
    have HW : Hid ((w.alloc (.cells #[] 78)).ownsRow w.heap.size 78 4 (.slice (some ⟨w.heap.size, 0, none⟩) 0 0) ([] : List At).length (aCells [])) := ⟨rfl, .inr ⟨w.heap.size, 0, #[], rfl, Nat.le_refl _, new_at w _, Nat.le_refl _, Nat.zero_le _, rfl, rfl⟩⟩
    have HB : Hid (Below w.heap.size w (w.alloc (.cells #[] 78))) := al_b w _
    have HR : Hid (IsRow (w.alloc (.cells #[] 78)) 4 (.slice (some a) l.length cap0) l.length (aCells l)) := hr.below (al_b w _)
    have heq : ∀ w, (binOp BinOp.eql 24 (.slice (some a) l.length cap0) (.slice none 0 0)).run Tryz.prog w = .ok (.bool false) w := fun w => by kernel_rfl
    clear hr
    go_enter Tryz.func62, Tryz.ntmps62
    go_wp2_with (at_builtin; go_loud (refine wpl_ats (w.alloc (.cells #[] 78)) rfl (.tmp 5) (.tmp 6) rfl w.heap.size (.slice (some ⟨w.heap.size, 0, none⟩) 0 0) (.slice (some a) l.length cap0) [] l rfl rfl HW.out HR.out (by simp; omega) (by simp) ?_; intro v4 w4 hown4 hb4))
    rw [List.nil_append] at hown4
    have HO : Hid (w4.ownsRow w.heap.size 78 4 v4 l.length (aCells l)) := hown4
    have HB4 : Hid (Below w.heap.size w w4) := HB.out.trans hb4
    clear hown4 hb4 HW HR
    go_wp2
    go_ret
    exact ⟨_, rfl, HO.out, HB4.out⟩
end Go.Proofs.YtacpllmlpmllbaaGreatDoor
/- The shelf's contract of slices.SortFunc, at this program, laid by the shelf's tool in plain words. -/
namespace Go.Proofs
open Go.Shelf
def Tryz.sortAt_ren : Go.Shelf.Ren := ⟨fun | 6 => 63 | 15 => 110 | 14 => 109 | 28 => 163 | 29 => 164 | 20 => 155 | 21 => 156 | 22 => 157 | 23 => 158 | 24 => 159 | 25 => 160 | 26 => 161 | 27 => 162 | 46 => 202 | 47 => 203 | 48 => 204 | 49 => 205 | 50 => 206 | 57 => 233 | n => n, fun | 22 => 24 | 24 => 78 | 25 => 114 | 3 => 3 | 39 => 153 | 0 => 0 | 53 => 193 | 55 => 152 | 4 => 4 | 46 => 187 | 45 => 186 | 50 => 166 | 5 => 5 | 9 => 9 | 66 => 225 | 70 => 229 | 76 => 251 | 77 => 252 | n => n, fun | n => n⟩
theorem Tryz.sortAt : Go.Proofs.SlLaysF0.n6 Tryz.prog Tryz.sortAt_ren := {
  mixed := by kernel_rfl
  f6 := ⟨Tryz.f63.name, by decide, Tryz.func63.trans (congrArg some (by kernel_rfl))⟩
  f14 := ⟨Tryz.f109.name, by decide, Tryz.func109.trans (congrArg some (by kernel_rfl))⟩
  f15 := Tryz.func110.trans (congrArg some (by kernel_rfl))
  f20 := ⟨Tryz.f155.name, by decide, Tryz.func155.trans (congrArg some (by kernel_rfl))⟩
  f21 := ⟨Tryz.f156.name, by decide, Tryz.func156.trans (congrArg some (by kernel_rfl))⟩
  f22 := ⟨Tryz.f157.name, by decide, Tryz.func157.trans (congrArg some (by kernel_rfl))⟩
  f23 := ⟨Tryz.f158.name, by decide, Tryz.func158.trans (congrArg some (by kernel_rfl))⟩
  f24 := ⟨Tryz.f159.name, by decide, Tryz.func159.trans (congrArg some (by kernel_rfl))⟩
  f25 := ⟨Tryz.f160.name, by decide, Tryz.func160.trans (congrArg some (by kernel_rfl))⟩
  f26 := ⟨Tryz.f161.name, by decide, Tryz.func161.trans (congrArg some (by kernel_rfl))⟩
  f27 := ⟨Tryz.f162.name, by decide, Tryz.func162.trans (congrArg some (by kernel_rfl))⟩
  f28 := Tryz.func163.trans (congrArg some (by kernel_rfl))
  f29 := Tryz.func164.trans (congrArg some (by kernel_rfl))
  f46 := ⟨Tryz.f202.name, by decide, Tryz.func202.trans (congrArg some (by kernel_rfl))⟩
  f47 := Tryz.func203.trans (congrArg some (by kernel_rfl))
  f48 := Tryz.func204.trans (congrArg some (by kernel_rfl))
  f49 := ⟨Tryz.f205.name, by decide, Tryz.func205.trans (congrArg some (by kernel_rfl))⟩
  f50 := ⟨Tryz.f206.name, by decide, Tryz.func206.trans (congrArg some (by kernel_rfl))⟩
  f57 := ⟨Tryz.f233.name, by decide, Tryz.func233.trans (congrArg some (by kernel_rfl))⟩
  t0 := Tryz.underlying0
  a0 := Tryz.isAgg0
  z0 := Tryz.sizeOf0
  v0 := Tryz.zeroValue0
  t3 := Tryz.underlying3
  a3 := Tryz.isAgg3
  z3 := Tryz.sizeOf3
  v3 := Tryz.zeroValue3
  t4 := Tryz.underlying4
  a4 := Tryz.isAgg4
  z4 := Tryz.sizeOf4
  v4 := Tryz.zeroValue4
  t5 := Tryz.underlying5
  a5 := Tryz.isAgg5
  z5 := Tryz.sizeOf5
  v5 := Tryz.zeroValue5
  t9 := Tryz.underlying9
  a9 := Tryz.isAgg9
  z9 := Tryz.sizeOf9
  v9 := Tryz.zeroValue9
  t22 := Tryz.underlying24
  a22 := Tryz.isAgg24
  z22 := Tryz.sizeOf24
  v22 := Tryz.zeroValue24
  t25 := Tryz.underlying114
  a25 := Tryz.isAgg114
  z25 := Tryz.sizeOf114
  v25 := Tryz.zeroValue114
  t39 := Tryz.underlying153
  a39 := Tryz.isAgg153
  z39 := Tryz.sizeOf153
  v39 := Tryz.zeroValue153
  t45 := Tryz.underlying186
  a45 := Tryz.isAgg186
  z45 := Tryz.sizeOf186
  v45 := Tryz.zeroValue186
  t46 := Tryz.underlying187
  a46 := Tryz.isAgg187
  z46 := Tryz.sizeOf187
  v46 := Tryz.zeroValue187
  t50 := Tryz.underlying166
  a50 := Tryz.isAgg166
  z50 := Tryz.sizeOf166
  v50 := Tryz.zeroValue166
  t53 := Tryz.underlying193
  a53 := Tryz.isAgg193
  z53 := Tryz.sizeOf193
  v53 := Tryz.zeroValue193
  t55 := Tryz.underlying152
  a55 := Tryz.isAgg152
  z55 := Tryz.sizeOf152
  v55 := Tryz.zeroValue152
  t66 := Tryz.underlying225
  a66 := Tryz.isAgg225
  z66 := Tryz.sizeOf225
  v66 := Tryz.zeroValue225
  t70 := Tryz.underlying229
  a70 := Tryz.isAgg229
  z70 := Tryz.sizeOf229
  v70 := Tryz.zeroValue229
  t76 := Tryz.underlying251
  a76 := Tryz.isAgg251
  z76 := Tryz.sizeOf251
  v76 := Tryz.zeroValue251
  t77 := Tryz.underlying252
  a77 := Tryz.isAgg252
  z77 := Tryz.sizeOf252
  v77 := Tryz.zeroValue252 }
end Go.Proofs
/- slices.SortFunc of attributes by their names: over the shelf's contract. -/
namespace Go.Proofs.YtacpllmlpmllbaaGreatDoor
open Go.RowKit Go.ChangeMaps

/-- Names are not too long to be held against each other. -/
def NmS (l : List At) : Prop := ∀ x ∈ l, x.n.size ≤ 1000000
set_option maxRecDepth 100000 in
theorem byTitle_any (x y : At) (w : World) (hx : x.n.size ≤ 1000000) (hy : y.n.size ≤ 1000000) (hT : UT w) :
    Calls Tryz.prog 64 #[aV x, aV y] w fun e w' => e = .returned (.int .i64 (cmpL x.n.data.toList y.n.data.toList)) ∧ Below w.heap.size w w' := by
  obtain ⟨s, k, m, q⟩ := x
  obtain ⟨s', k', m', q'⟩ := y
  have hA := (al_b w (.cells #[.string s, .int .i64 k, .int .i64 m, .string q] 78)).trans ((al_b (w.alloc (.cells #[.string s, .int .i64 k, .int .i64 m, .string q] 78)) (.cells #[.string s', .int .i64 k', .int .i64 m', .string q'] 78)).mono (al_b w _).size)
  have HC : Hid (Calls Tryz.prog 65 #[.string s, .string s'] ((w.alloc (.cells #[.string s, .int .i64 k, .int .i64 m, .string q] 78)).alloc (.cells #[.string s', .int .i64 k', .int .i64 m', .string q'] 78)) fun e w' => e = .returned (.int .i64 (cmpL s.data.toList s'.data.toList)) ∧ Below ((w.alloc (.cells #[.string s, .int .i64 k, .int .i64 m, .string q] 78)).alloc (.cells #[.string s', .int .i64 k', .int .i64 m', .string q'] 78)).heap.size ((w.alloc (.cells #[.string s, .int .i64 k, .int .i64 m, .string q] 78)).alloc (.cells #[.string s', .int .i64 k', .int .i64 m', .string q'] 78)) w') :=
    compare_any s s' _ hx hy (Utf8Tabs_below hT hA)
  have HA : Hid (Below w.heap.size w ((w.alloc (.cells #[.string s, .int .i64 k, .int .i64 m, .string q] 78)).alloc (.cells #[.string s', .int .i64 k', .int .i64 m', .string q'] 78))) := hA
  clear hA
  show Calls _ _ _ _ fun e w' => e = .returned (.int .i64 (cmpL s.data.toList s'.data.toList)) ∧ _
  generalize cmpL s.data.toList s'.data.toList = c at *
  go_enter Tryz.func64, Tryz.ntmps64
  go_wp2_with fail
  refine HC.out.mono ?_
  rintro e w1 ⟨rfl, hb⟩
  have HB : Hid (Below w.heap.size w w1) := HA.out.trans (hb.mono HA.out.size)
  clear hb
  go_wp2
  go_ret
  exact ⟨rfl, HB.out⟩
/-- Attributes whose names are not too long to be held against each other. -/
abbrev Ats := { x : At // x.n.size ≤ 1000000 }
instance : Inhabited Ats := ⟨⟨⟨⟨#[]⟩, 0, 0, ⟨#[]⟩⟩, by decide⟩⟩
def enAs (x : Ats) : List Value := enA x.1
def cfA (x y : Ats) : Int := cmpL x.1.n.data.toList y.1.n.data.toList
theorem byTitle_g (x y : Ats) (w : World) (hT : UT w) : Calls Tryz.prog 64 #[.agg (enAs x).toArray, .agg (enAs y).toArray] w fun e w' => e = .returned (.int .i64 (cfA x y)) ∧ ∃ q os, w' = Sort.grow (w.drewN q) os := by
  refine (calls_drawn (byTitle_any x.1 y.1 w x.2 y.2 hT) (fun e w' h => ⟨_, h.1⟩)).mono ?_
  rintro e w' ⟨⟨rfl, hb⟩, hd⟩
  exact ⟨rfl, grow_of hb hd⟩
theorem ltAs (x y : Ats) : ltOf cfA x y = true ↔ ltQ x.1 y.1 := by
  unfold ltOf cfA ltQ
  rw [decide_eq_true_eq, cmpL_lt]
theorem swoA : Sort.SWO (ltOf cfA) where
  irrefl x := by
    cases h : ltOf cfA x x
    · rfl
    · exact absurd ((ltAs x x).1 h) (ltQ_irr _)
  trans x y z h1 h2 := (ltAs x z).2 (ltQ_trans ((ltAs x y).1 h1) ((ltAs y z).1 h2))
  ntrans x y z h1 h2 := by
    cases h : ltOf cfA x z
    · rfl
    · exfalso
      have hxz := (ltAs x z).1 h
      have n1 : ¬ ltQ x.1 y.1 := fun hh => by rw [(ltAs x y).2 hh] at h1; cases h1
      have n2 : ¬ ltQ y.1 z.1 := fun hh => by rw [(ltAs y z).2 hh] at h2; cases h2
      unfold ltQ cmpL at *
      have v1 := cmp_vals (foldL x.1.n.data.toList) (foldL y.1.n.data.toList)
      have v2 := cmp_vals (foldL y.1.n.data.toList) (foldL z.1.n.data.toList)
      have a1 := cmp_anti (foldL x.1.n.data.toList) (foldL y.1.n.data.toList)
      have a2 := cmp_anti (foldL y.1.n.data.toList) (foldL z.1.n.data.toList)
      rcases v1 with v1 | v1 | v1
      · exact n1 v1
      · have e := cmp_zero _ _ v1
        rw [← e] at n2
        exact n2 hxz
      · rcases v2 with v2 | v2 | v2
        · exact n2 v2
        · have e := cmp_zero _ _ v2
          rw [e] at n1
          exact n1 hxz
        · have t := cmp_trans _ _ _ (show Lib.compareBytes (foldL z.1.n.data.toList) (foldL y.1.n.data.toList) = -1 by omega) (show Lib.compareBytes (foldL y.1.n.data.toList) (foldL x.1.n.data.toList) = -1 by omega)
          have a3 := cmp_anti (foldL z.1.n.data.toList) (foldL x.1.n.data.toList)
          omega
theorem flat_getA : ∀ (D : List Ats) (j : Nat), j < D.length * 4 → (D.flatMap enAs)[j]? = some ((enAs (D[j / 4]!))[j % 4]!)
  | [], j, h => absurd h (by simp)
  | d :: D, 0, _ => rfl
  | d :: D, 1, _ => rfl
  | d :: D, 2, _ => rfl
  | d :: D, 3, _ => rfl
  | d :: D, j + 4, h => by
    have e : (d :: D).flatMap enAs = enAs d ++ D.flatMap enAs := by simp
    have z : (enAs d).length = 4 := rfl
    rw [e, List.getElem?_append_right (by omega), show j + 4 - (enAs d).length = j by omega, flat_getA D j (by rw [List.length_cons] at h; omega), show (j + 4) / 4 = j / 4 + 1 by omega, show (j + 4) % 4 = j % 4 by omega]
    simp
theorem flatAs_len (D : List Ats) : (D.flatMap enAs).length = D.length * 4 := by
  induction D with
  | nil => rfl
  | cons d D ih => rw [List.flatMap_cons, List.length_append, ih, List.length_cons]; show 4 + _ = _; omega
theorem flatAs_eq (D : List Ats) : D.flatMap enAs = aCells (D.map Subtype.val) := by
  unfold aCells enAs
  rw [List.flatMap_map]
theorem below_sortA {base g m : Nat} {w : World} {d : Array Ats} {os : Array Obj} (hg : base ≤ g) (hgl : g < w.heap.size) : Below base w (sortWorldK enAs 4 w g 0 m d os) := by
  refine ⟨rfl, rfl, rfl, ?_, ?_⟩
  · show w.heap.size ≤ ((w.heap.modify g _) ++ os).size
    simp
  · intro k hk
    show ((w.heap.modify g _) ++ os)[k]? = w.heap[k]?
    by_cases hks : k < w.heap.size
    · rw [Array.getElem?_append_left (by simpa using hks), Array.getElem?_modify, if_neg (by omega)]
    · exact absurd (Nat.lt_of_lt_of_le hk hg) (by omega)
set_option maxRecDepth 100000 in
theorem sort_ownA (g cap base : Nat) (D : List Ats) (w : World) (hown : w.ownsRow base 78 4 (.slice (some ⟨g, 0, none⟩) D.length cap) D.length (D.flatMap enAs)) (hn : D.length ≤ 1000) (hU : ∀ w', Below base w w' → UT w') :
    Calls Tryz.prog 63 #[.slice (some ⟨g, 0, none⟩) D.length cap, .func (.func 64) #[] #[]] w fun e w' => e = .returned (.tuple #[]) ∧
      ∃ D' : List Ats, D'.Perm D ∧ D'.Pairwise (fun a b => ¬ cfA b a < 0) ∧ IsRow w' 4 (.slice (some ⟨g, 0, none⟩) D.length cap) D.length (D'.flatMap enAs) ∧ Below base w w' := by
  obtain ⟨hxl, ⟨hv, _⟩ | ⟨g', cap', cur, hv, hbg, hg, hnc, hcm, hcs, htk⟩⟩ := hown
  · cases hv
  simp only [Value.slice.injEq, Option.some.injEq, Addr.mk.injEq, and_true, true_and] at hv
  obtain ⟨rfl, rfl⟩ := hv
  have hlt : g < w.heap.size := (Array.getElem?_eq_some_iff.1 hg).1
  have hH : Sort.HoldsK enAs 4 w g 0 D.toArray := by
    intro j hj
    rw [Sort.size_flatK] at hj
    simp only [List.size_toArray] at hj
    refine ⟨?_, by simp [World.frozen?, hg]⟩
    rw [Sort.get_flatK enAs 4 D.toArray j (by simpa using hj), Nat.zero_add, Lib.cell_of_heap hg]
    have h2 := flat_getA D j hj
    rw [← htk, List.getElem?_take_of_lt hj] at h2
    simpa using h2
  have eg : ∀ args w, (callFunc 64 args).run Tryz.prog w = .ok (.enter 64 args) w := enters_of Tryz.func64 (by kernel_rfl) rfl
  have hcmp : CmpLays Tryz.prog 64 #[] enAs 4 cfA g 0 D.toArray.size w := fun m os dk _ x y => byTitle_g x y _ (hU _ (below_sortA hbg hlt))
  have hcon := AnyQ.slices_SortFunc Tryz.sortAt 4 Tryz.isAgg78 Tryz.sizeOf78 enAs (fun _ => rfl) (fun x v hv => by simp [enAs, enA] at hv; rcases hv with rfl | rfl | rfl | rfl <;> rfl) cfA swoA 64 #[] g 0 cap D.toArray w eg hcmp hH hlt (by simp; omega)
  rw [List.size_toArray] at hcon
  refine hcon.mono ?_
  rintro e w' ⟨rfl, d', m, os, ⟨hds, _, hp⟩, hs, rfl⟩
  have hds : d'.size = D.length := by simpa using hds
  refine ⟨rfl, d'.toList, ?_, ?_, ?_, below_sortA hbg hlt⟩
  · have e1 : d'.extract 0 D.length = d' := by rw [← hds]; exact Array.extract_size
    have e2 : D.toArray.extract 0 D.length = D.toArray := by
      have := @Array.extract_size _ D.toArray
      rwa [List.size_toArray] at this
    rw [e1, e2] at hp
    exact hp
  · rw [List.pairwise_iff_getElem]
    intro i j hi hj hij
    have hj' : j < d'.size := by simpa using hj
    have := hs i j (Nat.zero_le _) hij (by omega)
    rw [getElem!_pos d' j hj', getElem!_pos d' i (by omega)] at this
    unfold ltOf at this
    simpa using this
  · have hH2 : Sort.HoldsK enAs 4 (sortWorldK enAs 4 w g 0 m d' os) g 0 d' := Sort.holdsK_grow enAs 4 _ os g 0 d' (by show g < (w.heap.modify g _).size; simpa using hlt) (Sort.holdsK_putRowK enAs 4 (Sort.ahead w m) g 0 D.toArray d' (Sort.holdsK_ahead enAs 4 w m g 0 D.toArray hH) (by simpa using hds))
    have hl2 : d'.toList.length = D.length := by simpa using hds
    refine ⟨by rw [flatAs_len, hl2], .inr ⟨g, 0, cap, rfl, ?_, hnc, hcm, ?_⟩⟩
    · show g < ((w.heap.modify g _) ++ os).size
      simp
      omega
    · intro j u hu
      have hj : j < d'.toList.length * 4 := by rw [← flatAs_len]; exact (List.getElem?_eq_some_iff.1 hu).1
      have h3 := (hH2 j (by rw [Sort.size_flatK]; simpa using hj)).1
      rw [Sort.get_flatK enAs 4 d' j (by simpa using hj)] at h3
      rw [flat_getA _ j hj] at hu
      have hq : j / 4 < d'.size := by simp at hj; omega
      have e : d'.toList[j / 4]! = d'[j / 4]! := by rw [getElem!_pos d' _ hq, getElem!_pos d'.toList _ (by simpa using hq)]; simp
      rw [h3, ← hu, e]
      rfl
/-- The sort of a row of attributes that the call owns. -/
theorem sortA_any (v : Value) (l : List At) (base : Nat) (w : World) (hown : w.ownsRow base 78 4 v l.length (aCells l)) (hn : l.length ≤ 1000) (hm : NmS l) (hU : ∀ w', Below base w w' → UT w') :
    Calls Tryz.prog 63 #[v, .func (.func 64) #[] #[]] w fun e w' => e = .returned (.tuple #[]) ∧
      ∃ D : List At, D.Perm l ∧ D.Pairwise leA ∧ IsRow w' 4 v l.length (aCells D) ∧ Below base w w' := by
  by_cases h0 : l.length = 0
  · obtain rfl : l = [] := List.eq_nil_of_length_eq_zero h0
    obtain ⟨a0, cap0, rfl⟩ := (IsRow.own hown).form
    refine (AnyF.slices_SortFunc_none Tryz.sortAt a0 cap0 _ w).mono ?_
    rintro e w' ⟨rfl, rfl⟩
    exact ⟨rfl, [], List.Perm.refl _, List.Pairwise.nil, IsRow.own hown, Below.refl _ _⟩
  · obtain ⟨g, cap, rfl⟩ : ∃ g cap, v = .slice (some ⟨g, 0, none⟩) l.length cap := by
      rcases hown.2 with ⟨_, h⟩ | ⟨g, cap, cur, hv, -⟩
      · exact absurd h h0
      · exact ⟨g, cap, hv⟩
    obtain ⟨D, hD⟩ : ∃ D : List Ats, D.map Subtype.val = l := ⟨l.attach.map fun x => ⟨x.1, hm x.1 x.2⟩, by simp [List.map_map, Function.comp_def]⟩
    have hlen : l.length = D.length := by rw [← hD, List.length_map]
    rw [← hD, ← flatAs_eq] at hown
    rw [List.length_map] at hown
    rw [hlen]
    refine (sort_ownA g cap base D w hown (by omega) hU).mono ?_
    rintro e w' ⟨rfl, D', hp, hs, hr, hb⟩
    refine ⟨rfl, D'.map Subtype.val, ?_, ?_, ?_, hb⟩
    · rw [← hD]; exact hp.map _
    · rw [List.pairwise_map]; exact hs
    · rw [← flatAs_eq]; exact hr
end Go.Proofs.YtacpllmlpmllbaaGreatDoor
/- event.Sort at any attributes: its walk. -/
namespace Go.Proofs.YtacpllmlpmllbaaGreatDoor
open Go.RowKit Go.ChangeMaps

theorem chkA_one (x : At) : chkA [x] = mayA x := by
  cases h : mayA x
  · rw [← Bool.not_eq_true]
    intro hc
    have := chkA_mayA hc x (List.mem_singleton.2 rfl)
    rw [h] at this
    cases this
  · exact chkA_of (by simp) (fun y hy => by rw [List.mem_singleton] at hy; subst hy; exact h) (List.pairwise_singleton _ _)
/-- What event.Sort answers. -/
def SeP (l : List At) (w : World) (e : Ending) (w' : World) : Prop := Below w.heap.size w w' ∧
  ((24 < l.length ∧ e = .returned (.tuple #[.slice none 0 0, .int .i64 2])) ∨
   (l.length ≤ 24 ∧ (∃ x ∈ l, mayA x = false) ∧ e = .returned (.tuple #[.slice none 0 0, .int .i64 1])) ∨
   (l.length ≤ 24 ∧ (∀ x ∈ l, mayA x = true) ∧ ∃ D : List At, D.Perm l ∧ D.Pairwise leA ∧ ((chkA D = false ∧ e = .returned (.tuple #[.slice none 0 0, .int .i64 9])) ∨ (chkA D = true ∧ ∃ a c, e = .returned (.tuple #[.slice a D.length c, .int .i64 0]) ∧ IsRow w' 4 (.slice a D.length c) D.length (aCells D)))))
set_option maxRecDepth 100000 in
set_option maxHeartbeats 4000000 in
theorem evSort_any (v : Value) (l : List At) (w : World) (hr : IsRow w 4 v l.length (aCells l)) (hl : l.length ≤ 1000) (hn : NmA l) (hT : UT w) (hM : ML w) :
    Calls Tryz.prog 25 #[v] w fun e w' => SeP l w e w' := by
  obtain ⟨a0, cap0, rfl⟩ := hr.form
  by_cases h24 : 24 < l.length
  · have d1 : decide ((24 : Int) < (l.length : Int)) = true := by simp; omega
    clear hr
    go_enter Tryz.func25, Tryz.ntmps25
    go_wp2
    go_ret2
    exact ⟨Below.refl _ _, .inl ⟨h24, rfl⟩⟩
  have h24' : l.length ≤ 24 := by omega
  have d1 : decide ((24 : Int) < (l.length : Int)) = false := by simp; omega
  have HR : Hid (∀ W, Below w.heap.size w W → IsRow W 4 (.slice a0 l.length cap0) l.length (aCells l)) := fun W h => hr.below h
  have HAt : Hid (∀ (u : Value) (L : List At) W, Below w.heap.size w W → IsRow W 4 u L.length (aCells L) → L.length ≤ 1000 → NmA L → Calls Tryz.prog 43 #[u] W fun e w' => e = .returned (.bool (chkA L)) ∧ Below W.heap.size W w') := fun u L W h hq hL hm => attrs_any u L W hq (by omega) hm (Utf8Tabs_below hT h) (ML_below hM h)
  have HCl : Hid (∀ W, Below w.heap.size w W → Calls Tryz.prog 62 #[.slice a0 l.length cap0] W fun e w' => ClA l W e w') := fun W h => cloneA_any _ l W (hr.below h) (by omega)
  have HSo : Hid (∀ (base : Nat) (u : Value) W, W.ownsRow base 78 4 u l.length (aCells l) → w.heap.size ≤ base → base ≤ W.heap.size → Below w.heap.size w W → Calls Tryz.prog 63 #[u, .func (.func 64) #[] #[]] W fun e w' => e = .returned (.tuple #[]) ∧ ∃ D : List At, D.Perm l ∧ D.Pairwise leA ∧ IsRow w' 4 u l.length (aCells D) ∧ Below base W w') := fun base u W ho hb1 hb2 hb => sortA_any u l base W ho (by omega) (fun x hx => (hn x hx).1) (fun w' hw' => Utf8Tabs_below hT (hb.trans (hw'.mono hb1)))
  have HN : Hid (NmA l) := hn
  have HT : Hid (UT w) := hT
  clear hr hn hT hM
  go_enter Tryz.func25, Tryz.ntmps25
  go_wp2_with fail
  go_loopw [2, 3, 5, 12] (fun r2 r3 _ i wr => r2 = .slice none 0 0 ∧ r3 = .int .i64 0 ∧ ∃ k : Nat, k ≤ l.length ∧ i = .int .i64 (k : Int) ∧ Hid (∀ (j : Nat) (h : j < l.length), j < k → mayA l[j] = true) ∧ Hid (Below w.heap.size w wr)) (fun _ _ _ i _ => l.length - (intOf i).toNat)
  case atStart => exact ⟨rfl, rfl, 0, Nat.zero_le _, rfl, (fun j h hj => absurd hj (Nat.not_lt_zero _)), Below.refl _ _⟩
  case round =>
    obtain ⟨rfl, rfl, k, hk, rfl, HM, HB⟩ := hrel
    by_cases hlk : k < l.length
    · as_aux_lemma =>
      have dk : decide ((k : Int) < (l.length : Int)) = true := by simp; omega
      obtain ⟨b, off, rfl, hlt, hcap, hc⟩ := a_at (HR.out wr HB.out) (by omega)
      obtain ⟨y0, y1, y2, y3⟩ := hc k hlk
      have HNx : Hid (NmA [l[k]]) := fun y hy => by rw [List.mem_singleton] at hy; subst hy; exact HN.out _ (List.getElem_mem hlk)
      have HNt : Hid (mayA l[k] = true → ∀ (j : Nat) (h : j < l.length), j < k + 1 → mayA l[j] = true) := fun hs j h hj => by
        by_cases e : j = k
        · subst e; exact hs
        · exact HM.out j h (by omega)
      have HNo : Hid (mayA l[k] = false → ∃ x ∈ l, mayA x = false) := fun hs => ⟨_, List.getElem_mem hlk, hs⟩
      have q1 : (0 : Int) ≤ (k : Int) := by omega
      have q2 : (k : Int) < (l.length : Int) := by omega
      generalize l[k]'hlk = x at *
      obtain ⟨xn, xk, xv, xs⟩ := x
      dsimp only at *
      clear hc HM HR HCl HSo
      obtain ⟨w1, hw1⟩ : ∃ w1, w1 = wr.alloc (.cells #[.string xn, .int .i64 xk, .int .i64 xv, .string xs] 78) := ⟨_, rfl⟩
      have B1 : Hid (Below wr.heap.size wr w1) := by show Below _ _ _; rw [hw1]; exact al_b _ _
      have hn1 : w1.heap[wr.heap.size]? = some (.cells #[.string xn, .int .i64 xk, .int .i64 xv, .string xs] 78 (0, 0)) := by rw [hw1]; exact new_at _ _
      have C1 : Hid (∀ W, Below w1.heap.size w1 W → W.heap[wr.heap.size]? = some (.cells #[.string xn, .int .i64 xk, .int .i64 xv, .string xs] 78 (0, 0))) := fun W h => (h.block _ (Array.getElem?_eq_some_iff.1 hn1).1).trans hn1
      clear hn1
      obtain ⟨w2, hw2⟩ : ∃ w2, w2 = w1.alloc (.cells #[.string xn, .int .i64 xk, .int .i64 xv, .string xs] 78) := ⟨_, rfl⟩
      have B2 : Hid (Below w1.heap.size w1 w2) := by show Below _ _ _; rw [hw2]; exact al_b _ _
      have hn2 : w2.heap[(wr.heap.size + 1)]? = some (.cells #[.string xn, .int .i64 xk, .int .i64 xv, .string xs] 78 (0, 0)) := by rw [hw2]; rw [show wr.heap.size + 1 = w1.heap.size by (rw [hw1]; simp)]; exact new_at _ _
      have C2 : Hid (∀ W, Below w2.heap.size w2 W → W.heap[(wr.heap.size + 1)]? = some (.cells #[.string xn, .int .i64 xk, .int .i64 xv, .string xs] 78 (0, 0))) := fun W h => (h.block _ (Array.getElem?_eq_some_iff.1 hn2).1).trans hn2
      clear hn2
      have HRx : Hid (IsRow w2 4 (.slice (some ⟨wr.heap.size + 1, 0, none⟩) 1 1) [(⟨xn, xk, xv, xs⟩ : At)].length (aCells [⟨xn, xk, xv, xs⟩])) := row_blk (C2.out _ (Below.refl _ _)) rfl (Nat.le_refl _) (by decide) (fun j u hj => by rw [List.getElem?_toArray]; exact hj)
      have HCk : Hid (Calls Tryz.prog 43 #[.slice (some ⟨wr.heap.size + 1, 0, none⟩) 1 1] w2 fun e w' => e = .returned (.bool (mayA ⟨xn, xk, xv, xs⟩)) ∧ Below w2.heap.size w2 w') := by
        have := HAt.out _ _ w2 (bT (bT HB.out B1.out) B2.out) HRx.out (by simp) HNx.out
        rw [chkA_one] at this
        exact this
      clear HRx HAt HNx
      go_wp2_with fail
      rw [← hw1, ← hw2]
      clear hw1 hw2 y0 y1 y2 y3
      cases hm : mayA ⟨xn, xk, xv, xs⟩
      · have HX : Hid (∃ x ∈ l, mayA x = false) := HNo.out hm
        rw [hm] at HCk
        clear hm HNt HNo
        refine (HCk.out).mono ?_
        rintro e w3 ⟨rfl, hb⟩
        have B3 : Hid (Below w2.heap.size w2 w3) := hb
        clear hb 
        have HBz : Hid (Below w.heap.size w w3) := (bT (bT (bT HB.out B1.out) B2.out) B3.out)
        clear HCk
        go_wp2
        go_ret2
        exact ⟨HBz.out, .inr (.inl ⟨h24', HX.out, rfl⟩)⟩
      · have HM2 : Hid (∀ (j : Nat) (h : j < l.length), j < k + 1 → mayA l[j] = true) := HNt.out hm
        rw [hm] at HCk
        clear hm HNt HNo
        refine (HCk.out).mono ?_
        rintro e w3 ⟨rfl, hb⟩
        have B3 : Hid (Below w2.heap.size w2 w3) := hb
        clear hb 
        have HBz : Hid (Below w.heap.size w w3) := (bT (bT (bT HB.out B1.out) B2.out) B3.out)
        clear HCk
        go_wp2
        go_roundw
        case rel => exact ⟨rfl, rfl, k + 1, by omega, by simp, HM2, HBz⟩
        case measure => simp [intOf]; omega
    · as_aux_lemma =>
      have dk : decide ((k : Int) < (l.length : Int)) = false := by simp; omega
      have HAll : Hid (∀ x ∈ l, mayA x = true) := fun x hx => by
        obtain ⟨i, hi, rfl⟩ := List.mem_iff_getElem.1 hx
        exact HM.out i hi (by omega)
      clear HM HR
      go_wp2_with fail
      refine (HCl.out _ HB.out).mono ?_
      rintro e w3 ⟨v3, rfl, hown, hb⟩
      have B3 : Hid (Below wr.heap.size wr w3) := hb
      obtain ⟨a3, c3, rfl⟩ := (IsRow.own hown).form
      have HO3 : Hid (w3.ownsRow wr.heap.size 78 4 (.slice a3 l.length c3) l.length (aCells l)) := hown
      clear hown hb HCl
      go_wp2_with fail
      refine (HSo.out wr.heap.size _ _ HO3.out HB.out.size B3.out.size (bT HB.out B3.out)).mono ?_
      rintro e w4 ⟨rfl, D, hp, hs, hrow, hb⟩
      have hlen : D.length = l.length := hp.length_eq
      have B4 : Hid (Below w.heap.size w w4) := (bT HB.out B3.out).trans (hb.mono HB.out.size)
      have HD : Hid (D.Perm l ∧ D.Pairwise leA) := ⟨hp, hs⟩
      rw [← hlen] at hrow ⊢
      have HRD : Hid (∀ W, Below w4.heap.size w4 W → IsRow W 4 (.slice a3 D.length c3) D.length (aCells D)) := fun W h => hrow.below h
      have HCk : Hid (Calls Tryz.prog 43 #[.slice a3 D.length c3] w4 fun e w' => e = .returned (.bool (chkA D)) ∧ Below w4.heap.size w4 w') := HAt.out _ D w4 B4.out hrow (by omega) (fun y hy => HN.out y (hp.mem_iff.1 hy))
      clear hp hs hrow hb hlen HO3 HSo HAt B3
      cases hc : chkA D
      · rw [hc] at HCk
        have HC2 : Hid (chkA D = false) := hc
        clear hc
        go_wp2_with fail
        refine HCk.out.mono ?_
        rintro e w5 ⟨rfl, hb⟩
        have HBz : Hid (Below w.heap.size w w5) := B4.out.trans (hb.mono B4.out.size)
        clear hb HCk
        go_wp2
        go_ret2
        exact ⟨HBz.out, .inr (.inr ⟨h24', HAll.out, D, HD.out.1, HD.out.2, .inl ⟨HC2.out, rfl⟩⟩)⟩
      · rw [hc] at HCk
        have HC2 : Hid (chkA D = true) := hc
        clear hc
        go_wp2_with fail
        refine HCk.out.mono ?_
        rintro e w5 ⟨rfl, hb⟩
        have HBz : Hid (Below w.heap.size w w5) := B4.out.trans (hb.mono B4.out.size)
        have HRz := HRD.out w5 hb
        have HRy : Hid (IsRow w5 4 (.slice a3 D.length c3) D.length (aCells D)) := HRz
        clear hb HCk HRz
        go_wp2
        go_ret2
        exact ⟨HBz.out, .inr (.inr ⟨h24', HAll.out, D, HD.out.1, HD.out.2, .inr ⟨HC2.out, a3, c3, rfl, HRy.out⟩⟩)⟩
end Go.Proofs.YtacpllmlpmllbaaGreatDoor
