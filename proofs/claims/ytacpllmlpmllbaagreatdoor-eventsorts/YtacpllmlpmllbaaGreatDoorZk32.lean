/- The reference's Sort: plain, and its mathematics. -/
import Derived.Test.YtacpllmlpmllbaaGreatDoorZk12
import Derived.Test.YtacpllmlpmllbaaGreatDoorZk17
import Derived.Test.YtacpllmlpmllbaaGreatDoorZk31
import Derived.Test.YtacpllmlpmllbaaGreatDoorZk18
namespace Go.Proofs.YtacpllmlpmllbaaGreatDoor
open Go.RowKit

/-- One step of putting a field in. -/
def stp (x : Fd) (s : List Fd × Bool) (y : Fd) : List Fd × Bool := if s.2 = false ∧ cmpL x.n.data.toList y.n.data.toList < 0 then (s.1 ++ [x] ++ [y], true) else (s.1 ++ [y], s.2)
def insS (x : Fd) (o : List Fd) : List Fd × Bool := o.foldl (stp x) ([], false)
def finS (x : Fd) (s : List Fd × Bool) : List Fd := if s.2 = true then s.1 else s.1 ++ [x]
def insR (x : Fd) : List Fd → List Fd
  | [] => [x]
  | y :: o => if cmpL x.n.data.toList y.n.data.toList < 0 then x :: y :: o else y :: insR x o
def hasS (x : Fd) (o : List Fd) : Bool := o.any fun y => sameL y.n.data.toList x.n.data.toList
/-- What is sorted so far, and what is left. -/
def rsrt : List Fd → List Fd → Option (List Fd)
  | o, [] => some o
  | o, x :: l => if hasS x o = true then none else rsrt (finS x (insS x o)) l
theorem fold_true (x : Fd) : ∀ (o acc : List Fd), o.foldl (stp x) (acc, true) = (acc ++ o, true)
  | [], acc => by simp
  | y :: o, acc => by
    rw [List.foldl_cons]
    have e : stp x (acc, true) y = (acc ++ [y], true) := by unfold stp; rw [if_neg (by simp)]
    rw [e, fold_true x o]
    simp
theorem fold_fin (x : Fd) : ∀ (o acc : List Fd), finS x (o.foldl (stp x) (acc, false)) = acc ++ insR x o
  | [], acc => by simp [finS, insR]
  | y :: o, acc => by
    rw [List.foldl_cons, insR]
    by_cases h : cmpL x.n.data.toList y.n.data.toList < 0
    · have e : stp x (acc, false) y = (acc ++ [x] ++ [y], true) := by unfold stp; rw [if_pos ⟨rfl, h⟩]
      rw [e, fold_true, if_pos h]
      simp [finS]
    · have e : stp x (acc, false) y = (acc ++ [y], false) := by unfold stp; rw [if_neg (fun hh => h hh.2)]
      rw [e, fold_fin x o, if_neg h]
      simp
theorem ins_eq (x : Fd) (o : List Fd) : finS x (insS x o) = insR x o := by
  unfold insS
  rw [fold_fin]
  rfl
theorem insR_perm (x : Fd) : ∀ o : List Fd, (insR x o).Perm (x :: o)
  | [] => List.Perm.refl _
  | y :: o => by
    rw [insR]
    split
    · exact List.Perm.refl _
    · exact ((insR_perm x o).cons y).trans (List.Perm.swap x y o)
theorem insR_sorted (x : Fd) : ∀ o : List Fd, o.Pairwise ltF → (∀ y ∈ o, neF y x) → (insR x o).Pairwise ltF
  | [], _, _ => by simp [insR]
  | y :: o, h, hn => by
    rw [insR]
    rw [List.pairwise_cons] at h
    split
    · rename_i hc
      have hxy : ltF x y := cmpL_lt.1 hc
      rw [List.pairwise_cons, List.pairwise_cons]
      refine ⟨fun z hz => ?_, h⟩
      rcases List.mem_cons.1 hz with rfl | hz
      · exact hxy
      · exact ltF_trans hxy (h.1 z hz)
    · rename_i hc
      rw [List.pairwise_cons]
      refine ⟨fun z hz => ?_, insR_sorted x o h.2 (fun z hz => hn z (by simp [hz]))⟩
      rcases List.mem_cons.1 ((insR_perm x o).mem_iff.1 hz) with rfl | hz
      · exact ltF_of hc (hn y (by simp))
      · exact h.1 z hz
theorem has_iff {x : Fd} {o : List Fd} : hasS x o = false ↔ ∀ y ∈ o, neF y x := by
  unfold hasS
  rw [List.any_eq_false]
  constructor
  · intro h y hy
    have := h y hy
    unfold neF
    simpa using this
  · intro h y hy
    have := h y hy
    unfold neF at this
    rw [this]
    simp
theorem rsrt_some : ∀ (l o R : List Fd), o.Pairwise ltF → rsrt o l = some R → R.Perm (o ++ l) ∧ R.Pairwise ltF
  | [], o, R, ho, h => by
    obtain rfl := Option.some.inj h
    exact ⟨by simp, ho⟩
  | x :: l, o, R, ho, h => by
    rw [rsrt] at h
    split at h
    · cases h
    · rename_i hs
      rw [ins_eq] at h
      have hn := has_iff.1 (by simpa using hs)
      obtain ⟨p, s⟩ := rsrt_some l _ R (insR_sorted x o ho hn) h
      refine ⟨p.trans ?_, s⟩
      exact ((insR_perm x o).append_right l).trans (List.perm_middle.symm)
theorem rsrt_none : ∀ (l o : List Fd), o.Pairwise ltF → rsrt o l = none → ¬ (o ++ l).Pairwise neF
  | [], o, ho, h => by cases h
  | x :: l, o, ho, h => by
    rw [rsrt] at h
    intro hp
    split at h
    · rename_i hs
      have hh : hasS x o = false := has_iff.2 fun y hy => by
        rw [List.pairwise_append] at hp
        exact hp.2.2 y hy x (by simp)
      rw [hh] at hs
      cases hs
    · rename_i hs
      rw [ins_eq] at h
      have hn := has_iff.1 (by simpa using hs)
      refine rsrt_none l _ (insR_sorted x o ho hn) h ?_
      have hq : (insR x o ++ l).Perm (o ++ x :: l) := ((insR_perm x o).append_right l).trans (List.perm_middle.symm)
      exact (hq.pairwise_iff neF_symm).2 hp
/-- What the reference answers is what the program answers. -/
theorem srt_same {l D : List Fd} (h24 : l.length ≤ 24) (hm : ∀ x ∈ l, mayF x = true) (hp : D.Perm l) (hs : D.Pairwise leF) : rsrt [] l = if chkF D = true then some D else none := by
  cases h : rsrt [] l with
  | some R =>
    obtain ⟨p, s⟩ := rsrt_some l [] R List.Pairwise.nil h
    rw [List.nil_append] at p
    have hne : D.Pairwise neF := ((hp.trans p.symm).pairwise_iff neF_symm).2 (s.imp ltF_ne)
    have hlt : D.Pairwise ltF := (hs.and hne).imp fun ⟨h1, h2⟩ => ltF_of h1 h2
    have hc : chkF D = true := chk_of (by rw [hp.length_eq]; exact h24) (fun x hx => hm x (hp.mem_iff.1 hx)) hlt
    have e : D = R := List.Perm.eq_of_pairwise (le := ltF) (fun x y _ _ h1 h2 => absurd (ltF_trans h1 h2) (ltF_irr x)) hlt s (hp.trans p.symm)
    rw [if_pos hc, e]
  | none =>
    have hn := rsrt_none l [] List.Pairwise.nil h
    rw [List.nil_append] at hn
    by_cases hc : chkF D = true
    · exact absurd ((hp.pairwise_iff neF_symm).1 ((chk_sorted hc).imp ltF_ne)) hn
    · rw [if_neg hc]
theorem stp_len (x : Fd) : ∀ (o : List Fd) (s : List Fd × Bool), (o.foldl (stp x) s).1.length ≤ s.1.length + 2 * o.length
  | [], s => by simp
  | y :: o, s => by
    rw [List.foldl_cons]
    have h := stp_len x o (stp x s y)
    have h2 : (stp x s y).1.length ≤ s.1.length + 2 := by unfold stp; split <;> simp
    rw [List.length_cons]
    omega
theorem stp_take {x : Fd} {o : List Fd} {j : Nat} (hj : j < o.length) : insS x (o.take (j + 1)) = stp x (insS x (o.take j)) o[j] := by
  unfold insS
  rw [List.take_succ_eq_append_getElem hj, List.foldl_append]
  rfl
theorem insS_len (x : Fd) (o : List Fd) : (insS x o).1.length ≤ 2 * o.length := by
  have := stp_len x o ([], false)
  unfold insS
  simpa using this
theorem ins_len (x : Fd) (o : List Fd) : (finS x (insS x o)).length = o.length + 1 := by rw [ins_eq, (insR_perm x o).length_eq]; rfl
theorem ins_mem {x : Fd} {o : List Fd} {p : Fd → Prop} (h1 : p x) (h2 : ∀ y ∈ o, p y) : ∀ y ∈ finS x (insS x o), p y := by
  rw [ins_eq]
  intro y hy
  rcases List.mem_cons.1 ((insR_perm x o).mem_iff.1 hy) with rfl | hy
  · exact h1
  · exact h2 y hy
end Go.Proofs.YtacpllmlpmllbaaGreatDoor
/- Two names where they lie. -/
namespace Go.Proofs.YtacpllmlpmllbaaGreatDoor
open Go.RowKit

/-- Two names where they lie. -/
def CD (b o b' o' : Nat) (x y : ByteArray) (w0 w : World) : Prop := (w.cell? ⟨b, o, none⟩ = some (.string x) ∧ w.cell? ⟨b', o', none⟩ = some (.string y)) ∧ b < w.heap.size ∧ b' < w.heap.size ∧ Below w0.heap.size w0 w
theorem CD_call {b o b' o' : Nat} {x y : ByteArray} {w0 W w' : World} (hb : Below W.heap.size W w') (h : CD b o b' o' x y w0 W) : CD b o b' o' x y w0 w' := by
  obtain ⟨⟨c0, c1⟩, l, l', B⟩ := h
  exact ⟨⟨(hb.cell (p := ⟨b, o, none⟩) l).trans c0, (hb.cell (p := ⟨b', o', none⟩) l').trans c1⟩, Nat.lt_of_lt_of_le l hb.size, Nat.lt_of_lt_of_le l' hb.size, B.trans (hb.mono B.size)⟩
theorem CD_drew {b o b' o' : Nat} {x y : ByteArray} {w0 W : World} (h : CD b o b' o' x y w0 W) : CD b o b' o' x y w0 W.drew := CD_call (Below.refl _ _).drew h
end Go.Proofs.YtacpllmlpmllbaaGreatDoor
/- The reference's IsID, Alike, Has: walks. -/
namespace Go.Proofs.YtacpllmlpmllbaaGreatDoor
open Go.RowKit Go.ChangeMaps

set_option maxRecDepth 100000 in
theorem alike_any (a b : ByteArray) (w : World) (ha : a.size ≤ 1000000) (hb : b.size ≤ 1000000) :
    Calls Tryz.prog 51 #[.string a, .string b] w fun e w' => e = .returned (.bool (sameL a.data.toList b.data.toList)) ∧ Below w.heap.size w w' := by
  have HE : Hid (((str (foldL a.data.toList)).toList == (str (foldL b.data.toList)).toList) = sameL a.data.toList b.data.toList) := eq_str _ _
  have HA : Hid (Calls Tryz.prog 94 #[.string a] w fun e w' => e = .returned (.string (str (foldL a.data.toList))) ∧ Below w.heap.size w w') := refFold_any a w ha
  have HB : Hid (∀ w', Calls Tryz.prog 94 #[.string b] w' fun e w'' => e = .returned (.string (str (foldL b.data.toList))) ∧ Below w'.heap.size w' w'') := fun w' => refFold_any b w' hb
  generalize str (foldL a.data.toList) = A at *
  generalize str (foldL b.data.toList) = B at *
  generalize sameL a.data.toList b.data.toList = r at *
  go_enter Tryz.func51, Tryz.ntmps51
  go_wp2_with fail
  refine HA.out.mono ?_
  rintro e w1 ⟨rfl, h1⟩
  have H1 : Hid (Below w.heap.size w w1) := h1
  clear h1
  go_wp2_with fail
  refine (HB.out w1).mono ?_
  rintro e w2 ⟨rfl, h2⟩
  have H2 : Hid (Below w.heap.size w w2) := H1.out.trans (h2.mono H1.out.size)
  clear h2
  go_wp2
  go_ret
  exact ⟨by rw [← HE.out]; rfl, H2.out⟩
set_option maxRecDepth 100000 in
set_option maxHeartbeats 1000000 in
theorem refID_any (a b c : Int) (w : World) : Calls Tryz.prog 44 #[idV a b c] w fun e w' => e = .returned (.bool (idB a b c)) ∧ Below w.heap.size w w' := by
  have HB : Hid (Below w.heap.size w (w.alloc (.cells #[.int .i64 a, .int .i64 b, .int .i64 c] 29))) := al_b w _
  have e0 : idB a b c = (decide (1 ≤ a) && (decide (a ≤ 15) && ((decide (1 ≤ b) && decide (b ≤ 1099511627775)) && (decide (1 ≤ c) && decide (c ≤ 1099511627775))))) := rfl
  rw [e0]
  clear e0
  by_cases h1 : 1 ≤ a
  rotate_left
  · have d1 : decide (1 ≤ a) = false := decide_eq_false h1
    rw [d1, Bool.false_and]
    go_enter Tryz.func44, Tryz.ntmps44
    go_wp2
    go_ret
    exact ⟨rfl, HB.out⟩
  have d1 : decide (1 ≤ a) = true := decide_eq_true h1
  by_cases h2 : a ≤ 15
  rotate_left
  · have d2 : decide (a ≤ 15) = false := decide_eq_false h2
    rw [d1, d2, Bool.false_and, Bool.true_and]
    go_enter Tryz.func44, Tryz.ntmps44
    go_wp2
    go_ret
    exact ⟨rfl, HB.out⟩
  have d2 : decide (a ≤ 15) = true := decide_eq_true h2
  by_cases h3 : 1 ≤ b
  rotate_left
  · have d3 : decide (1 ≤ b) = false := decide_eq_false h3
    rw [d1, d2, d3, Bool.false_and, Bool.false_and, Bool.true_and, Bool.true_and]
    go_enter Tryz.func44, Tryz.ntmps44
    go_wp2
    go_ret
    exact ⟨rfl, HB.out⟩
  have d3 : decide (1 ≤ b) = true := decide_eq_true h3
  by_cases h4 : b ≤ 1099511627775
  rotate_left
  · have d4 : decide (b ≤ 1099511627775) = false := decide_eq_false h4
    rw [d1, d2, d3, d4, Bool.and_false, Bool.false_and, Bool.true_and, Bool.true_and]
    go_enter Tryz.func44, Tryz.ntmps44
    go_wp2
    go_ret
    exact ⟨rfl, HB.out⟩
  have d4 : decide (b ≤ 1099511627775) = true := decide_eq_true h4
  by_cases h5 : 1 ≤ c
  rotate_left
  · have d5 : decide (1 ≤ c) = false := decide_eq_false h5
    rw [d1, d2, d3, d4, d5, Bool.false_and, Bool.and_false, Bool.true_and, Bool.true_and]
    go_enter Tryz.func44, Tryz.ntmps44
    go_wp2
    go_ret
    exact ⟨rfl, HB.out⟩
  have d5 : decide (1 ≤ c) = true := decide_eq_true h5
  rw [d1, d2, d3, d4, d5, Bool.true_and, Bool.true_and, Bool.true_and, Bool.true_and]
  go_enter Tryz.func44, Tryz.ntmps44
  go_wp2
  go_ret
  exact ⟨by simp, HB.out⟩
end Go.Proofs.YtacpllmlpmllbaaGreatDoor
/- The reference's Sort of attributes: its walk. -/
namespace Go.Proofs.YtacpllmlpmllbaaGreatDoor
open Go.RowKit

/-- What the reference's Sort answers. -/
def RsPA (l : List At) (w : World) (e : Ending) (w' : World) : Prop := Below w.heap.size w w' ∧
  ((24 < l.length ∧ e = .returned (.tuple #[.slice none 0 0, .int .i64 2])) ∨
   (l.length ≤ 24 ∧ (∃ x ∈ l, mayA x = false) ∧ e = .returned (.tuple #[.slice none 0 0, .int .i64 1])) ∨
   (l.length ≤ 24 ∧ (∀ x ∈ l, mayA x = true) ∧ ((rsrtA [] l = none ∧ e = .returned (.tuple #[.slice none 0 0, .int .i64 9])) ∨ (∃ R a c, rsrtA [] l = some R ∧ e = .returned (.tuple #[.slice a R.length c, .int .i64 0]) ∧ IsRow w' 4 (.slice a R.length c) R.length (aCells R)))))
set_option maxRecDepth 100000 in
set_option maxHeartbeats 4000000 in
theorem refSortA_any (v : Value) (l : List At) (w : World) (hr : IsRow w 4 v l.length (aCells l)) (hl : l.length ≤ 1000000) (hn : NmQa l) (hss : ∀ x ∈ l, x.s.size ≤ 140737488355328) :
    Calls Tryz.prog 26 #[v] w fun e w' => RsPA l w e w' := by
  obtain ⟨a0, cap0, rfl⟩ := hr.form
  obtain ⟨i0, hi0, hz0, hz1, hz2⟩ := info_parts info_rq
  by_cases h24 : 24 < l.length
  · have d1 : decide ((24 : Int) < (l.length : Int)) = true := by simp; omega
    clear hr
    go_enter Tryz.func26, Tryz.ntmps26
    go_wp2
    go_ret2
    exact ⟨Below.refl _ _, .inl ⟨h24, rfl⟩⟩
  have h24' : l.length ≤ 24 := by omega
  have d1 : decide ((24 : Int) < (l.length : Int)) = false := by simp; omega
  have HR : Hid (∀ w', Below w.heap.size w w' → IsRow w' 4 (.slice a0 l.length cap0) l.length (aCells l)) := fun w' h => hr.below h
  have HSim : Hid (∀ (k : Nat) (hk : k < l.length) w', Calls Tryz.prog 66 #[.string l[k].n] w' fun e w'' => e = .returned (.bool (oneP l[k].n)) ∧ Below w'.heap.size w' w'') := fun k hk w' => refSimple_any _ w' (by have := hn _ (List.getElem_mem hk); omega)
  have HChk : Hid (∀ (k : Nat) (hk : k < l.length) w', Calls Tryz.prog 67 #[.agg #[.int .i64 l[k].k, .int .i64 l[k].v, .string l[k].s]] w' fun e w'' => e = .returned (.bool (chkV l[k].k l[k].v l[k].s)) ∧ Below w'.heap.size w' w'') := fun k hk w' => refVCheck_any _ _ _ w' (hss _ (List.getElem_mem hk))
  have HSm : Hid (∀ (x y : ByteArray) w', x.size ≤ 200000 → y.size ≤ 200000 → Calls Tryz.prog 51 #[.string x, .string y] w' fun e w'' => e = .returned (.bool (sameL x.data.toList y.data.toList)) ∧ Below w'.heap.size w' w'') := fun x y w' h1 h2 => alike_any x y w' (by omega) (by omega)
  have HCm : Hid (∀ (x y : ByteArray) w', x.size ≤ 200000 → y.size ≤ 200000 → Calls Tryz.prog 68 #[.string x, .string y] w' fun e w'' => e = .returned (.int .i64 (cmpL x.data.toList y.data.toList)) ∧ Below w'.heap.size w' w'') := fun x y w' h1 h2 => refCompare_any x y w' h1 h2
  have HN : Hid (NmQa l) := hn
  clear hr hn
  go_enter Tryz.func26, Tryz.ntmps26
  go_wp2_with fail
  go_loopw [2, 3, 4] (fun r2 r3 i wr => r2 = .slice none 0 0 ∧ r3 = .int .i64 0 ∧ ∃ k : Nat, k ≤ l.length ∧ i = .int .i64 (k : Int) ∧ Hid (∀ (j : Nat) (h : j < l.length), j < k → mayA l[j] = true) ∧ Hid (Below w.heap.size w wr)) (fun _ _ i _ => l.length - (intOf i).toNat)
  case atStart => exact ⟨rfl, rfl, 0, Nat.zero_le _, rfl, (fun j h hj => absurd hj (Nat.not_lt_zero _)), Below.refl _ _⟩
  case round =>
    obtain ⟨rfl, rfl, k, hk, rfl, HM, HB⟩ := hrel
    have hsz := HB.out.size
    by_cases hlk : k < l.length
    · as_aux_lemma =>
      have dk : decide ((k : Int) < l.length) = true := by simp; omega
      obtain ⟨b, off, hvv, hlt, hc1, hcc⟩ := a_at (HR.out _ HB.out) (by omega)
      subst hvv
      obtain ⟨c0, c1, c2, c3⟩ := hcc k hlk
      have HSi := HSim.out k hlk wr
      have HCk := HChk.out k hlk
      have HNx : Hid (mayA l[k] = true → ∀ (j : Nat) (h : j < l.length), j < k + 1 → mayA l[j] = true) := fun hs j h hj => by
        by_cases e : j = k
        · subst e; exact hs
        · exact HM.out j h (by omega)
      have HNo : Hid (mayA l[k] = false → ∃ x ∈ l, mayA x = false) := fun hs => ⟨_, List.getElem_mem hlk, hs⟩
      have HCe : Hid (∀ W, Below wr.heap.size wr W → W.cell? ⟨b, off + k * 4 + 1, none⟩ = some (.int .i64 l[k].k) ∧ W.cell? ⟨b, off + k * 4 + 2, none⟩ = some (.int .i64 l[k].v) ∧ W.cell? ⟨b, off + k * 4 + 3, none⟩ = some (.string l[k].s)) := fun W h => ⟨(h.cell (p := ⟨b, _, none⟩) hlt).trans c1, (h.cell (p := ⟨b, _, none⟩) hlt).trans c2, (h.cell (p := ⟨b, _, none⟩) hlt).trans c3⟩
      have q1 : (0 : Int) ≤ (k : Int) := by omega
      have q2 : (k : Int) < (l.length : Int) := by omega
      generalize l[k]'hlk = x at *
      obtain ⟨xn, xk, xv, xs⟩ := x
      dsimp only at *
      have hmd : mayA ⟨xn, xk, xv, xs⟩ = (oneP xn && chkV xk xv xs) := rfl
      clear hcc HM HR HSim HChk HSm HCm c1 c2 c3
      cases ho : oneP xn
      · have HX' : Hid (∃ x ∈ l, mayA x = false) := HNo.out (by rw [hmd, ho]; rfl)
        rw [ho] at HSi
        clear hmd ho HNx HNo HCk HCe
        go_wp2_with fail
        refine HSi.mono ?_
        rintro e w2 ⟨rfl, hb2⟩
        have HB2 : Hid (Below w.heap.size w w2) := HB.out.trans (hb2.mono hsz)
        clear hb2 HSi c0
        go_wp2
        go_ret2
        exact ⟨HB2.out, .inr (.inl ⟨h24', HX'.out, rfl⟩)⟩
      rw [ho] at HSi
      go_wp2_with fail
      refine HSi.mono ?_
      rintro e w2 ⟨rfl, hb2⟩
      have HB2 : Hid (Below w.heap.size w w2) := HB.out.trans (hb2.mono hsz)
      obtain ⟨e1, e2, e3⟩ := HCe.out w2 hb2
      have HCk2 := HCk w2
      clear hb2 HSi c0 HCk HCe
      cases hc : chkV xk xv xs
      · have HX' : Hid (∃ x ∈ l, mayA x = false) := HNo.out (by rw [hmd, hc]; simp)
        rw [hc] at HCk2
        clear hmd ho hc HNx HNo
        go_wp2_with fail
        refine HCk2.mono ?_
        rintro e w3 ⟨rfl, hb3⟩
        have HB3 : Hid (Below w.heap.size w w3) := HB2.out.trans (hb3.mono HB2.out.size)
        clear hb3 HCk2 e1 e2 e3
        go_wp2
        go_ret2
        exact ⟨HB3.out, .inr (.inl ⟨h24', HX'.out, rfl⟩)⟩
      · have HM2 : Hid (∀ (j : Nat) (h : j < l.length), j < k + 1 → mayA l[j] = true) := HNx.out (by rw [hmd, ho, hc]; rfl)
        rw [hc] at HCk2
        clear hmd ho hc HNx HNo
        go_wp2_with fail
        refine HCk2.mono ?_
        rintro e w3 ⟨rfl, hb3⟩
        have HB3 : Hid (Below w.heap.size w w3) := HB2.out.trans (hb3.mono HB2.out.size)
        clear hb3 HCk2 e1 e2 e3
        go_wp2
        go_roundw
        case rel => exact ⟨rfl, rfl, k + 1, by omega, by simp, HM2, HB3⟩
        case measure => simp [intOf]; omega
    · have dk : decide ((k : Int) < l.length) = false := by simp; omega
      have HAll : Hid (∀ x ∈ l, mayA x = true) := fun x hx => by
        obtain ⟨i, hi, rfl⟩ := List.mem_iff_getElem.1 hx
        exact HM.out i hi (by omega)
      clear HM HSim HChk
      obtain ⟨wa, hwa⟩ : ∃ wa, wa = wr := ⟨_, rfl⟩
      subst hwa
      go_wp2_with fail
      go_loopw [2, 3, 5, 6] (fun r2 r3 o i wr => r2 = .slice none 0 0 ∧ r3 = .int .i64 0 ∧ ∃ (k : Nat) (O : List At) (oa : Option Addr) (oc : Nat), k ≤ l.length ∧ i = .int .i64 (k : Int) ∧ o = .slice oa k oc ∧ O.length = k ∧ Hid (NmQa O) ∧ Hid (rsrtA [] l = rsrtA O (l.drop k)) ∧ Hid (IsRow wr 4 (.slice oa k oc) O.length (aCells O)) ∧ Hid (Below w.heap.size w wr)) (fun _ _ _ i _ => l.length - (intOf i).toNat)
      case atStart => exact ⟨rfl, rfl, 0, [], none, 0, Nat.zero_le _, rfl, rfl, rfl, (fun y hy => by cases hy), rfl, IsRow.nil _ _, HB⟩
      case round =>
        clear HB hsz dk hlk hk
        obtain ⟨rfl, rfl, k, O, oa, oc, hk, rfl, rfl, hOk, HNO, HQ, HRo, HB⟩ := hrel
        have hsz := HB.out.size
        by_cases hlk : k < l.length
        · have dk : decide ((k : Int) < l.length) = true := by simp; omega
          obtain ⟨wb, hwb⟩ : ∃ wb, wb = wr := ⟨_, rfl⟩
          subst hwb
          have HDr : Hid (l.drop k = l[k] :: l.drop (k + 1)) := List.drop_eq_getElem_cons hlk
          have HNx : l[k].n.size ≤ 200000 := HN.out _ (List.getElem_mem hlk)
          have HRl : Hid (∀ W, Below wb.heap.size wb W → ∃ b off, a0 = some ⟨b, off, none⟩ ∧ b < W.heap.size ∧ W.cell? ⟨b, off + k * 4, none⟩ = some (.string l[k].n) ∧ W.cell? ⟨b, off + k * 4 + 1, none⟩ = some (.int .i64 l[k].k) ∧ W.cell? ⟨b, off + k * 4 + 2, none⟩ = some (.int .i64 l[k].v) ∧ W.cell? ⟨b, off + k * 4 + 3, none⟩ = some (.string l[k].s)) := fun W hW => by
            obtain ⟨b, off, hvv, hlt, -, hcc⟩ := a_at (HR.out _ (HB.out.trans (hW.mono hsz))) (by omega)
            obtain ⟨c0, c1, c2, c3⟩ := hcc k hlk
            exact ⟨b, off, hvv, hlt, c0, c1, c2, c3⟩
          have HRO : Hid (∀ W, Below wb.heap.size wb W → IsRow W 4 (.slice oa k oc) O.length (aCells O)) := fun W hW => HRo.out.below hW
          have q1 : (0 : Int) ≤ (k : Int) := by omega
          have q2 : (k : Int) < (l.length : Int) := by omega
          generalize l[k]'hlk = x at *
          obtain ⟨xn, xk, xv, xs⟩ := x
          dsimp only at HNx HRl
          go_wp2_with fail
          go_loopw [2, 3, 7, 8, 9] (fun r2 r3 nx p i wr => r2 = .slice none 0 0 ∧ r3 = .int .i64 0 ∧ ∃ j : Nat, j ≤ k ∧ i = .int .i64 (j : Int) ∧ p = .bool (insSA ⟨xn, xk, xv, xs⟩ (O.take j)).2 ∧ Hid (∀ y ∈ O.take j, sameL y.n.data.toList xn.data.toList = false) ∧ Hid (wr.ownsRow wb.heap.size 90 4 nx (insSA ⟨xn, xk, xv, xs⟩ (O.take j)).1.length (aCells (insSA ⟨xn, xk, xv, xs⟩ (O.take j)).1)) ∧ Hid (Below wb.heap.size wb wr)) (fun _ _ _ _ i _ => k - (intOf i).toNat)
          case atStart => exact ⟨rfl, rfl, 0, Nat.zero_le _, rfl, rfl, (fun y hy => by simp at hy), World.ownsRow_nil _ _ _ _, Below.refl _ _⟩
          case round =>
            obtain ⟨rfl, rfl, j, hj, rfl, rfl, HNs, HO, HBi⟩ := hrel
            have hszi := HBi.out.size
            by_cases hjk : j < k
            · as_aux_lemma =>
              have dj : decide ((j : Int) < (k : Int)) = true := by simp; omega
              have dj' : decide (j < k) = true := by simp; omega
              have hjO : j < O.length := by omega
              obtain ⟨b, off, rfl, hlt, c0, c1, c2, c3⟩ := HRl.out wb (Below.refl _ _)
              have hro := HRO.out wb (Below.refl _ _)
              rw [← hOk] at hro
              obtain ⟨b', off', rfl, hlt', hcap', hcc'⟩ := a_at hro (by omega)
              obtain ⟨e0, e1, e2, e3⟩ := hcc' j hjO
              have hys : O[j].n.size ≤ 200000 := HNO.out _ (List.getElem_mem hjO)
              have HT := stpA_take (x := ⟨xn, xk, xv, xs⟩) hjO
              have HNt : Hid (sameL O[j].n.data.toList xn.data.toList = false → ∀ y ∈ O.take (j + 1), sameL y.n.data.toList xn.data.toList = false) := fun hs y hy => by
                rw [List.take_succ_eq_append_getElem hjO] at hy
                rcases List.mem_append.1 hy with hy | hy
                · exact HNs.out y hy
                · simp at hy; subst hy; exact hs
              have HYs : Hid (sameL O[j].n.data.toList xn.data.toList = true → rsrtA [] l = none) := fun hs => by
                rw [HQ.out, HDr.out, rsrtA, if_pos]
                exact List.any_eq_true.2 ⟨_, List.getElem_mem hjO, hs⟩
              have hln := insSA_len ⟨xn, xk, xv, xs⟩ (O.take j)
              have hlt2 : (O.take j).length ≤ 24 := by rw [List.length_take]; omega
              have q3 : (0 : Int) ≤ (j : Int) := by omega
              have q4 : (j : Int) < (k : Int) := by omega
              generalize hST : insSA ⟨xn, xk, xv, xs⟩ (O.take j) = ST at *
              generalize O[j]'hjO = y at *
              obtain ⟨yn, yk, yv, ys⟩ := y
              obtain ⟨s1, s2⟩ := ST
              dsimp only at *
              have HX : Hid (∀ W, Below wb.heap.size wb W → (W.cell? ⟨b, off + k * 4, none⟩ = some (.string xn) ∧ W.cell? ⟨b, off + k * 4 + 1, none⟩ = some (.int .i64 xk) ∧ W.cell? ⟨b, off + k * 4 + 2, none⟩ = some (.int .i64 xv) ∧ W.cell? ⟨b, off + k * 4 + 3, none⟩ = some (.string xs)) ∧ W.cell? ⟨b', off' + j * 4, none⟩ = some (.string yn) ∧ W.cell? ⟨b', off' + j * 4 + 1, none⟩ = some (.int .i64 yk) ∧ W.cell? ⟨b', off' + j * 4 + 2, none⟩ = some (.int .i64 yv) ∧ W.cell? ⟨b', off' + j * 4 + 3, none⟩ = some (.string ys)) := fun W hW => ⟨⟨(hW.cell (p := ⟨b, off + k * 4, none⟩) hlt).trans c0, (hW.cell (p := ⟨b, off + k * 4 + 1, none⟩) hlt).trans c1, (hW.cell (p := ⟨b, off + k * 4 + 2, none⟩) hlt).trans c2, (hW.cell (p := ⟨b, off + k * 4 + 3, none⟩) hlt).trans c3⟩, (hW.cell (p := ⟨b', off' + j * 4, none⟩) hlt').trans e0, (hW.cell (p := ⟨b', off' + j * 4 + 1, none⟩) hlt').trans e1, (hW.cell (p := ⟨b', off' + j * 4 + 2, none⟩) hlt').trans e2, (hW.cell (p := ⟨b', off' + j * 4 + 3, none⟩) hlt').trans e3⟩
              have HTT : Hid (insSA ⟨xn, xk, xv, xs⟩ (O.take (j + 1)) = stpA ⟨xn, xk, xv, xs⟩ (s1, s2) ⟨yn, yk, yv, ys⟩) := HT
              have hS : CD b' (off' + j * 4) b (off + k * 4) yn xn wr wr := ⟨⟨(HX.out wr HBi.out).2.1, (HX.out wr HBi.out).1.1⟩, by omega, by omega, Below.refl _ _⟩
              have HSc : Hid (∀ W, Calls Tryz.prog 51 #[.string yn, .string xn] W fun e w'' => e = .returned (.bool (sameL yn.data.toList xn.data.toList)) ∧ Below W.heap.size W w'') := fun W => HSm.out yn xn W hys HNx
              have HCc : Hid (∀ W, Calls Tryz.prog 68 #[.string xn, .string yn] W fun e w'' => e = .returned (.int .i64 (cmpL xn.data.toList yn.data.toList)) ∧ Below W.heap.size W w'') := fun W => HCm.out xn yn W HNx hys
              clear hcc' hro HT hST HNs HRl HRO HRo HR HSm HCm HQ HDr HNO HN c0 c1 c2 c3 e0 e1 e2 e3
              cases hsm : sameL yn.data.toList xn.data.toList
              · have HN2 : Hid (∀ y ∈ O.take (j + 1), sameL y.n.data.toList xn.data.toList = false) := HNt.out hsm
                rw [hsm] at HSc
                clear hsm HNt HYs
                go_wp2_with fail
                refine wp_region_quiet (C := fun w' => CD b' (off' + j * 4) b (off + k * 4) yn xn wr w') (by kernel_rfl) (by kernel_rfl) (CD_drew hS) ?_
                dsimp only
                repeat (first
                  | go_big_quiet_skip
                  | (go_big_quiet_want
                     apply Exists.intro
                     refine ⟨fun W' hW' => ?_, ?_⟩
                     · obtain ⟨⟨g0, g1⟩, -, -, -⟩ := (show CD b' (off' + j * 4) b (off + k * 4) yn xn wr W' from hW')
                       go_simp
                       first
                         | done
                         | rfl
                         | (go_at_call 51; refine (HSc.out W').mono ?_; rintro e w'' ⟨rfl, hb⟩; exact ⟨rfl, CD_call hb hW'⟩)
                     go_big_quiet_on
                     try simp only [Act.put, List.setIfInBounds_toArray, List.set_cons_zero, List.set_cons_succ]))
                refine wpQuiet_nil ?_
                intro w2 hqw2
                have hS2 : CD b' (off' + j * 4) b (off + k * 4) yn xn wr w2 := hqw2
                clear hqw2
                clear HSc hS
                cases s2
                · -- not put yet
                  by_cases hc : cmpL xn.data.toList yn.data.toList < 0
                  · have dc : decide (cmpL xn.data.toList yn.data.toList < 0) = true := decide_eq_true hc
                    have HTA : Hid (insSA ⟨xn, xk, xv, xs⟩ (O.take (j + 1)) = (s1 ++ [⟨xn, xk, xv, xs⟩] ++ [⟨yn, yk, yv, ys⟩], true)) := HTT.out.trans (if_pos ⟨rfl, hc⟩)
                    clear HTT hc
                    generalize cmpL xn.data.toList yn.data.toList = cc at *
                    go_wp2_with fail
                    refine wp_region_quiet (C := fun w' => CD b' (off' + j * 4) b (off + k * 4) yn xn wr w') (by kernel_rfl) (by kernel_rfl) (CD_drew hS2) ?_
                    dsimp only
                    repeat (first
                      | go_big_quiet_skip
                      | (go_big_quiet_want
                         apply Exists.intro
                         refine ⟨fun W' hW' => ?_, ?_⟩
                         · obtain ⟨⟨g0, g1⟩, -, -, -⟩ := (show CD b' (off' + j * 4) b (off + k * 4) yn xn wr W' from hW')
                           go_simp
                           first
                             | done
                             | rfl
                             | (go_at_call 68; refine (HCc.out W').mono ?_; rintro e w'' ⟨rfl, hb⟩; exact ⟨rfl, CD_call hb hW'⟩)
                         go_big_quiet_on
                         try simp only [Act.put, List.setIfInBounds_toArray, List.set_cons_zero, List.set_cons_succ]))
                    refine wpQuiet_nil ?_
                    intro w3 hqw3
                    have hS3 : CD b' (off' + j * 4) b (off + k * 4) yn xn wr w3 := hqw3
                    clear hqw3
                    have hb3 := hS3.2.2.2
                    have HB3 : Hid (Below wb.heap.size wb w3) := HBi.out.trans (hb3.mono hszi)
                    have HO3 : Hid (w3.ownsRow wb.heap.size 90 4 u7 s1.length (aCells s1)) := own_belowE HO.out hb3
                    have hs3 := HB3.out.size
                    obtain ⟨⟨x0, x1, x2, x3⟩, -⟩ := HX.out w3 HB3.out
                    clear hS2 hS3 hb3 HO HCc
                    go_upto_region 22 with (at_builtin; go_loud (refine wpl_appE w3 rfl (.tmp 74) (.tmp 79) 30 90 rfl i0 _ 4 48 Tryz.underlying30 hi0 hz0 hz1 hz2 rfl (by decide) wb.heap.size u7 s1.length (aCells s1) rfl HO3.out [.string xn, .int .i64 xk, .int .i64 xv, .string xs] rfl _ rfl rfl (by simp [Value.oneCell']) (by omega) (by unfold maxLen; omega) (by omega) ?_; intro v4 w4 ho4 hb4))
                    have HB4 : Hid (Below wb.heap.size wb w4) := HB3.out.trans hb4
                    have HO4 : Hid (w4.ownsRow wb.heap.size 90 4 v4 (s1.length + 1) (aCells (s1 ++ [⟨xn, xk, xv, xs⟩]))) := by
                      show World.ownsRow _ _ _ _ _ _ _
                      rw [aCells_app]
                      exact ho4
                    have hs4 := HB4.out.size
                    clear x0 x1 x2 x3 ho4 hb4 HO3
                    obtain ⟨-, y0, y1, y2, y3⟩ := HX.out w4 HB4.out
                    go_wp2_with (at_builtin; go_loud (refine wpl_appE w4 rfl (.tmp 81) (.tmp 86) 30 90 rfl i0 _ 4 48 Tryz.underlying30 hi0 hz0 hz1 hz2 rfl (by decide) wb.heap.size v4 (s1.length + 1) (aCells (s1 ++ [⟨xn, xk, xv, xs⟩])) rfl HO4.out [.string yn, .int .i64 yk, .int .i64 yv, .string ys] rfl _ rfl rfl (by simp [Value.oneCell']) (by omega) (by unfold maxLen; omega) (by omega) ?_; intro v5 w5 ho5 hb5))
                    have HB5 : Hid (Below wb.heap.size wb w5) := HB4.out.trans hb5
                    have HO5 : Hid (w5.ownsRow wb.heap.size 90 4 v5 (insSA ⟨xn, xk, xv, xs⟩ (O.take (j + 1))).1.length (aCells (insSA ⟨xn, xk, xv, xs⟩ (O.take (j + 1))).1)) := by
                      show World.ownsRow _ _ _ _ _ _ _
                      rw [HTA.out]
                      dsimp only
                      rw [aCells_app (s1 ++ [(⟨xn, xk, xv, xs⟩ : At)])]
                      have e : (s1 ++ [(⟨xn, xk, xv, xs⟩ : At)] ++ [(⟨yn, yk, yv, ys⟩ : At)]).length = s1.length + 1 + 1 := by simp
                      rw [e]
                      exact ho5
                    clear y0 y1 y2 y3 ho5 hb5 HO4
                    go_wp2
                    go_roundw
                    case rel => exact ⟨rfl, rfl, j + 1, by omega, by simp, by rw [HTA.out], HN2, HO5, HB5⟩
                    case measure => simp [intOf]; omega
                  · have dc : decide (cmpL xn.data.toList yn.data.toList < 0) = false := decide_eq_false hc
                    have HTA : Hid (insSA ⟨xn, xk, xv, xs⟩ (O.take (j + 1)) = (s1 ++ [⟨yn, yk, yv, ys⟩], false)) := HTT.out.trans (if_neg (fun hh => hc hh.2))
                    clear HTT hc
                    generalize cmpL xn.data.toList yn.data.toList = cc at *
                    go_wp2_with fail
                    refine wp_region_quiet (C := fun w' => CD b' (off' + j * 4) b (off + k * 4) yn xn wr w') (by kernel_rfl) (by kernel_rfl) (CD_drew hS2) ?_
                    dsimp only
                    repeat (first
                      | go_big_quiet_skip
                      | (go_big_quiet_want
                         apply Exists.intro
                         refine ⟨fun W' hW' => ?_, ?_⟩
                         · obtain ⟨⟨g0, g1⟩, -, -, -⟩ := (show CD b' (off' + j * 4) b (off + k * 4) yn xn wr W' from hW')
                           go_simp
                           first
                             | done
                             | rfl
                             | (go_at_call 68; refine (HCc.out W').mono ?_; rintro e w'' ⟨rfl, hb⟩; exact ⟨rfl, CD_call hb hW'⟩)
                         go_big_quiet_on
                         try simp only [Act.put, List.setIfInBounds_toArray, List.set_cons_zero, List.set_cons_succ]))
                    refine wpQuiet_nil ?_
                    intro w3 hqw3
                    have hS3 : CD b' (off' + j * 4) b (off + k * 4) yn xn wr w3 := hqw3
                    clear hqw3
                    have hb3 := hS3.2.2.2
                    have HB3 : Hid (Below wb.heap.size wb w3) := HBi.out.trans (hb3.mono hszi)
                    have HO3 : Hid (w3.ownsRow wb.heap.size 90 4 u7 s1.length (aCells s1)) := own_belowE HO.out hb3
                    have hs3 := HB3.out.size
                    obtain ⟨-, y0, y1, y2, y3⟩ := HX.out w3 HB3.out
                    clear hS2 hS3 hb3 HO HCc
                    go_wp2_with (at_builtin; go_loud (refine wpl_appE w3 rfl (.tmp 81) (.tmp 86) 30 90 rfl i0 _ 4 48 Tryz.underlying30 hi0 hz0 hz1 hz2 rfl (by decide) wb.heap.size u7 s1.length (aCells s1) rfl HO3.out [.string yn, .int .i64 yk, .int .i64 yv, .string ys] rfl _ rfl rfl (by simp [Value.oneCell']) (by omega) (by unfold maxLen; omega) (by omega) ?_; intro v5 w5 ho5 hb5))
                    have HB5 : Hid (Below wb.heap.size wb w5) := HB3.out.trans hb5
                    have HO5 : Hid (w5.ownsRow wb.heap.size 90 4 v5 (insSA ⟨xn, xk, xv, xs⟩ (O.take (j + 1))).1.length (aCells (insSA ⟨xn, xk, xv, xs⟩ (O.take (j + 1))).1)) := by
                      show World.ownsRow _ _ _ _ _ _ _
                      rw [HTA.out]
                      dsimp only
                      rw [aCells_app s1]
                      have e : (s1 ++ [(⟨yn, yk, yv, ys⟩ : At)]).length = s1.length + 1 := by simp
                      rw [e]
                      exact ho5
                    clear y0 y1 y2 y3 ho5 hb5 HO3
                    go_wp2
                    go_roundw
                    case rel => exact ⟨rfl, rfl, j + 1, by omega, by simp, by rw [HTA.out], HN2, HO5, HB5⟩
                    case measure => simp [intOf]; omega
                · have HTA : Hid (insSA ⟨xn, xk, xv, xs⟩ (O.take (j + 1)) = (s1 ++ [⟨yn, yk, yv, ys⟩], true)) := HTT.out.trans (if_neg (fun hh => by cases hh.1))
                  clear HTT
                  go_wp2_with fail
                  refine wp_region_quiet (C := fun w' => CD b' (off' + j * 4) b (off + k * 4) yn xn wr w') (by kernel_rfl) (by kernel_rfl) (CD_drew hS2) ?_
                  dsimp only
                  repeat (first
                    | go_big_quiet_skip
                    | (go_big_quiet_want
                       apply Exists.intro
                       refine ⟨fun W' hW' => ?_, ?_⟩
                       · obtain ⟨⟨g0, g1⟩, -, -, -⟩ := (show CD b' (off' + j * 4) b (off + k * 4) yn xn wr W' from hW')
                         go_simp
                         first
                           | done
                           | rfl
                           | (go_at_call 68; refine (HCc.out W').mono ?_; rintro e w'' ⟨rfl, hb⟩; exact ⟨rfl, CD_call hb hW'⟩)
                       go_big_quiet_on
                       try simp only [Act.put, List.setIfInBounds_toArray, List.set_cons_zero, List.set_cons_succ]))
                  refine wpQuiet_nil ?_
                  intro w3 hqw3
                  have hS3 : CD b' (off' + j * 4) b (off + k * 4) yn xn wr w3 := hqw3
                  clear hqw3
                  have hb3 := hS3.2.2.2
                  have HB3 : Hid (Below wb.heap.size wb w3) := HBi.out.trans (hb3.mono hszi)
                  have HO3 : Hid (w3.ownsRow wb.heap.size 90 4 u7 s1.length (aCells s1)) := own_belowE HO.out hb3
                  have hs3 := HB3.out.size
                  obtain ⟨-, y0, y1, y2, y3⟩ := HX.out w3 HB3.out
                  clear hS2 hS3 hb3 HO HCc
                  go_wp2_with (at_builtin; go_loud (refine wpl_appE w3 rfl (.tmp 81) (.tmp 86) 30 90 rfl i0 _ 4 48 Tryz.underlying30 hi0 hz0 hz1 hz2 rfl (by decide) wb.heap.size u7 s1.length (aCells s1) rfl HO3.out [.string yn, .int .i64 yk, .int .i64 yv, .string ys] rfl _ rfl rfl (by simp [Value.oneCell']) (by omega) (by unfold maxLen; omega) (by omega) ?_; intro v5 w5 ho5 hb5))
                  have HB5 : Hid (Below wb.heap.size wb w5) := HB3.out.trans hb5
                  have HO5 : Hid (w5.ownsRow wb.heap.size 90 4 v5 (insSA ⟨xn, xk, xv, xs⟩ (O.take (j + 1))).1.length (aCells (insSA ⟨xn, xk, xv, xs⟩ (O.take (j + 1))).1)) := by
                    show World.ownsRow _ _ _ _ _ _ _
                    rw [HTA.out]
                    dsimp only
                    rw [aCells_app s1]
                    have e : (s1 ++ [(⟨yn, yk, yv, ys⟩ : At)]).length = s1.length + 1 := by simp
                    rw [e]
                    exact ho5
                  clear y0 y1 y2 y3 ho5 hb5 HO3
                  go_wp2
                  go_roundw
                  case rel => exact ⟨rfl, rfl, j + 1, by omega, by simp, by rw [HTA.out], HN2, HO5, HB5⟩
                  case measure => simp [intOf]; omega
              · have HNo : Hid (rsrtA [] l = none) := HYs.out hsm
                rw [hsm] at HSc
                clear hsm HNt HYs HTT
                go_wp2_with fail
                refine wp_region_quiet (C := fun w' => CD b' (off' + j * 4) b (off + k * 4) yn xn wr w') (by kernel_rfl) (by kernel_rfl) (CD_drew hS) ?_
                dsimp only
                repeat (first
                  | go_big_quiet_skip
                  | (go_big_quiet_want
                     apply Exists.intro
                     refine ⟨fun W' hW' => ?_, ?_⟩
                     · obtain ⟨⟨g0, g1⟩, -, -, -⟩ := (show CD b' (off' + j * 4) b (off + k * 4) yn xn wr W' from hW')
                       go_simp
                       first
                         | done
                         | rfl
                         | (go_at_call 51; refine (HSc.out W').mono ?_; rintro e w'' ⟨rfl, hb⟩; exact ⟨rfl, CD_call hb hW'⟩)
                     go_big_quiet_on
                     try simp only [Act.put, List.setIfInBounds_toArray, List.set_cons_zero, List.set_cons_succ]))
                refine wpQuiet_nil ?_
                intro w2 hqw2
                have hS2 : CD b' (off' + j * 4) b (off + k * 4) yn xn wr w2 := hqw2
                clear hqw2
                have HB2 : Hid (Below w.heap.size w w2) := HB.out.trans ((HBi.out.trans (hS2.2.2.2.mono hszi)).mono hsz)
                clear HSc HCc hS hS2
                go_wp2
                go_ret2
                exact ⟨HB2.out, .inr (.inr ⟨h24', HAll.out, .inl ⟨HNo.out, rfl⟩⟩)⟩
            · as_aux_lemma =>
              have dj : decide ((j : Int) < (k : Int)) = false := by simp; omega
              have dj' : decide (j < k) = false := by simp; omega
              have hOt : O.take j = O := List.take_of_length_le (by omega)
              rw [hOt] at HNs HO ⊢
              have HQ2 : Hid (rsrtA [] l = rsrtA (finSA ⟨xn, xk, xv, xs⟩ (insSA ⟨xn, xk, xv, xs⟩ O)) (l.drop (k + 1))) := by
                show _ = _
                rw [HQ.out, HDr.out, rsrtA, if_neg]
                have hh : hasSA ⟨xn, xk, xv, xs⟩ O = false := has_iffA.2 fun y hy => HNs.out y hy
                rw [hh]
                decide
              have HN2 : Hid (NmQa (finSA ⟨xn, xk, xv, xs⟩ (insSA ⟨xn, xk, xv, xs⟩ O))) := ins_memA (p := fun y => y.n.size ≤ 200000) HNx HNO.out
              have hl2 := ins_lenA ⟨xn, xk, xv, xs⟩ O
              rw [hOk] at hl2
              obtain ⟨b, off, rfl, hlt, c0, c1, c2, c3⟩ := HRl.out wr HBi.out
              have hln := insSA_len ⟨xn, xk, xv, xs⟩ O
              have HF : Hid (∀ (v5 : Value) (w5 : World), w5.ownsRow wb.heap.size 90 4 v5 (finSA ⟨xn, xk, xv, xs⟩ (insSA ⟨xn, xk, xv, xs⟩ O)).length (aCells (finSA ⟨xn, xk, xv, xs⟩ (insSA ⟨xn, xk, xv, xs⟩ O))) → Below wb.heap.size wb w5 → ∃ (oa : Option Addr) (oc : Nat), v5 = .slice oa (k + 1) oc ∧ Hid (IsRow w5 4 (.slice oa (k + 1) oc) (finSA ⟨xn, xk, xv, xs⟩ (insSA ⟨xn, xk, xv, xs⟩ O)).length (aCells (finSA ⟨xn, xk, xv, xs⟩ (insSA ⟨xn, xk, xv, xs⟩ O)))) ∧ Hid (Below w.heap.size w w5)) := fun v5 w5 ho hb => by
                obtain ⟨oa', oc', rfl⟩ := (IsRow.own ho).form
                rw [hl2] at *
                refine ⟨oa', oc', rfl, ?_, HB.out.trans (hb.mono hsz)⟩
                show IsRow _ _ _ _ _
                have := IsRow.own ho
                rw [hl2]
                exact this
              generalize hFI : finSA ⟨xn, xk, xv, xs⟩ (insSA ⟨xn, xk, xv, xs⟩ O) = FI at *
              generalize hST : insSA ⟨xn, xk, xv, xs⟩ O = ST at *
              obtain ⟨s1, s2⟩ := ST
              dsimp only at *
              clear hOt HNs HRl HRO HRo HR HSm HCm HQ HDr HNO HN hST
              cases s2
              · have hFI' : FI = s1 ++ [⟨xn, xk, xv, xs⟩] := hFI.symm
                have HFI : Hid (FI = s1 ++ [⟨xn, xk, xv, xs⟩]) := hFI'
                clear hFI hFI'
                go_wp2_with (at_builtin; go_loud (refine wpl_appE wr rfl (.tmp 90) (.tmp 95) 30 90 rfl i0 _ 4 48 Tryz.underlying30 hi0 hz0 hz1 hz2 rfl (by decide) wb.heap.size u7 s1.length (aCells s1) rfl HO.out [.string xn, .int .i64 xk, .int .i64 xv, .string xs] rfl _ rfl rfl (by simp [Value.oneCell']) (by omega) (by unfold maxLen; omega) (by omega) ?_; intro v5 w5 ho5 hb5))
                have HG := HF.out v5 w5 (by rw [HFI.out, aCells_app, List.length_append, List.length_singleton]; exact ho5) (HBi.out.trans hb5)
                obtain ⟨oa', oc', rfl, HR5, HB5⟩ := HG
                clear ho5 hb5 HF HFI HO c0 c1 c2 c3
                go_wp2
                go_roundw
                case rel => exact ⟨rfl, rfl, k + 1, FI, oa', oc', by omega, by simp, rfl, hl2, HN2, HQ2, HR5, HB5⟩
                case measure => simp [intOf]; omega
              · have hFI' : FI = s1 := hFI.symm
                have HG := HF.out u7 wr (by rw [hFI']; exact HO.out) HBi.out
                obtain ⟨oa', oc', rfl, HR5, HB5⟩ := HG
                clear hFI hFI' HF HO c0 c1 c2 c3
                go_wp2
                go_roundw
                case rel => exact ⟨rfl, rfl, k + 1, FI, oa', oc', by omega, by simp, rfl, hl2, HN2, HQ2, HR5, HB5⟩
                case measure => simp [intOf]; omega
        · as_aux_lemma =>
          have dk : decide ((k : Int) < l.length) = false := by simp; omega
          have hkl : k = l.length := by omega
          have HQ2 : Hid (rsrtA [] l = some O) := by
            show _ = _
            rw [HQ.out, hkl, List.drop_length]
            rfl
          have HOk : Hid (O.length = k) := hOk
          clear HQ hkl HR HSm HCm
          go_wp2
          go_ret2
          refine ⟨HB.out, .inr (.inr ⟨h24', HAll.out, .inr ⟨O, oa, oc, HQ2.out, ?_, ?_⟩⟩)⟩
          · rw [HOk.out]; rfl
          · have := HRo.out
            rw [HOk.out] at this ⊢
            exact this
end Go.Proofs.YtacpllmlpmllbaaGreatDoor
