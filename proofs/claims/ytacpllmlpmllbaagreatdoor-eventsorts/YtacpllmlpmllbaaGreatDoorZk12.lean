/- schema.Sort; schema.Merge: their walks. -/
import Derived.Test.YtacpllmlpmllbaaGreatDoorZk11
import Derived.Test.YtacpllmlpmllbaaGreatDoorZk9
import Derived.Test.YtacpllmlpmllbaaGreatDoorZk10
namespace Go.Proofs.YtacpllmlpmllbaaGreatDoor
open Go.RowKit

/-- The variables that are read: utf8's tables, MaxLen. -/
structure W3 (w : World) : Prop where
  t : UT w
  m : ML w
theorem W3.below {w w' : World} (h : W3 w) (hb : Below w.heap.size w w') : W3 w' := ⟨Utf8Tabs_below h.t hb, ML_below h.m hb⟩
/-- A slice that lies behind a block. -/
def NewA (base : Nat) (a : Option Addr) : Prop := ∀ g, a = some g → base ≤ g.block
theorem NewA.le {base base' : Nat} {a : Option Addr} (h : NewA base a) (hb : base' ≤ base) : NewA base' a := fun g e => Nat.le_trans hb (h g e)
theorem NewA.own {w : World} {base : Nat} {ty : TypeId} {sz n m c : Nat} {a : Option Addr} {xs : List Value} (h : w.ownsRow base ty sz (.slice a m c) n xs) : NewA base a := by
  intro g e
  subst e
  rcases h.2 with ⟨h, -⟩ | ⟨b, cap, cur, h, hb, -⟩
  · cases h
  · simp only [Value.slice.injEq, Option.some.injEq] at h
    rw [h.1]
    exact hb
/-- What Sort answers. -/
def SrtP (l : List Fd) (w : World) (e : Ending) (w' : World) : Prop := Below w.heap.size w w' ∧
  ((24 < l.length ∧ e = .returned (.tuple #[.slice none 0 0, .int .i64 2])) ∨
   (l.length ≤ 24 ∧ (∃ x ∈ l, mayF x = false) ∧ e = .returned (.tuple #[.slice none 0 0, .int .i64 1])) ∨
   (l.length ≤ 24 ∧ (∀ x ∈ l, mayF x = true) ∧ ∃ D : List Fd, D.Perm l ∧ D.Pairwise leF ∧
     ((chkF D = true ∧ ∃ a c, e = .returned (.tuple #[.slice a D.length c, .int .i64 0]) ∧ IsRow w' 3 (.slice a D.length c) D.length (fCells D) ∧ NewA w.heap.size a) ∨ (chkF D = false ∧ e = .returned (.tuple #[.slice none 0 0, .int .i64 9])))))
set_option maxRecDepth 100000 in
set_option maxHeartbeats 2000000 in
theorem sortS_any (v : Value) (l : List Fd) (w : World) (hr : IsRow w 3 v l.length (fCells l)) (hl : l.length ≤ 1000000) (hn : NmF l) (hW : W3 w) :
    Calls Tryz.prog 190 #[v] w fun e w' => SrtP l w e w' := by
  obtain ⟨a0, cap0, rfl⟩ := hr.form
  by_cases h24 : 24 < l.length
  · have d1 : decide ((24 : Int) < (l.length : Int)) = true := by simp; omega
    clear hr
    go_enter Tryz.func190, Tryz.ntmps190
    go_wp2
    go_ret2
    exact ⟨Below.refl _ _, .inl ⟨h24, rfl⟩⟩
  have h24' : l.length ≤ 24 := by omega
  have d1 : decide ((24 : Int) < (l.length : Int)) = false := by simp; omega
  have HR : Hid (∀ w', Below w.heap.size w w' → IsRow w' 3 (.slice a0 l.length cap0) l.length (fCells l)) := fun w' h => hr.below h
  have HMay : Hid (∀ (k : Nat) (hk : k < l.length) w', Below w.heap.size w w' → Calls Tryz.prog 185 #[fV l[k]] w' fun e w'' => e = .returned (.bool (mayF l[k])) ∧ Below w'.heap.size w' w'') := fun k hk w' h => mayBe_any l[k] w' (hn _ (List.getElem_mem hk)) (ML_below hW.m h)
  have HCl : Hid (∀ w', Below w.heap.size w w' → Calls Tryz.prog 132 #[.slice a0 l.length cap0] w' fun e w'' => ClF l w' e w'') := fun w' h => cloneF_any _ l w' (hr.below h) (by omega)
  have HSo : Hid (∀ (v : Value) (w1 w' : World), Below w.heap.size w w1 → w'.ownsRow w1.heap.size 110 3 v l.length (fCells l) → Below w1.heap.size w1 w' → Calls Tryz.prog 227 #[v, .func (.func 186) #[] #[]] w' fun e w'' => e = .returned (.tuple #[]) ∧ ∃ D : List Fd, D.Perm l ∧ D.Pairwise leF ∧ IsRow w'' 3 v l.length (fCells D) ∧ Below w1.heap.size w' w'') := fun v w1 w' h1 ho h2 => sortF_any v l w1.heap.size w' ho (by omega) hn (fun w'' h3 => Utf8Tabs_below hW.t (h1.trans ((h2.trans h3).mono h1.size)))
  have HCk : Hid (∀ (v : Value) (D : List Fd) (w' : World), Below w.heap.size w w' → D.Perm l → IsRow w' 3 v l.length (fCells D) → Calls Tryz.prog 126 #[v] w' fun e w'' => e = .returned (.bool (chkF D)) ∧ Below w'.heap.size w' w'') := fun v D w' h hp hrow => by
    have hle := hp.length_eq
    rw [← hle] at hrow
    exact checkF_any v D w' hrow (by omega) (fun x hx => hn x (hp.mem_iff.1 hx)) (Utf8Tabs_below hW.t h) (ML_below hW.m h)
  clear hr hn hW
  go_enter Tryz.func190, Tryz.ntmps190
  go_wp2_with fail
  go_loopw [12] (fun i wr => ∃ k : Nat, k ≤ l.length ∧ i = .int .i64 (k : Int) ∧ Hid (∀ (j : Nat) (h : j < l.length), j < k → mayF l[j] = true) ∧ Hid (Below w.heap.size w wr)) (fun i _ => l.length - (intOf i).toNat)
  case atStart => exact ⟨0, Nat.zero_le _, rfl, (fun j h hj => absurd hj (Nat.not_lt_zero _)), Below.refl _ _⟩
  case round =>
    obtain ⟨k, hk, rfl, HM, HB⟩ := hrel
    have hsz := HB.out.size
    by_cases hlk : k < l.length
    · have dk : decide ((k : Int) < l.length) = true := by simp; omega
      obtain ⟨b, off, hvv, hlt, hc1, hcc⟩ := f_at (HR.out _ HB.out) (by omega)
      subst hvv
      obtain ⟨c0, c1, c2⟩ := hcc k hlk
      have HCm := HMay.out k hlk (wr.alloc (.cells #[.string l[k].n, .int .i64 l[k].k, .bool l[k].m] 110)) (HB.out.alloc hsz _)
      have HNx : Hid (mayF l[k] = true → ∀ (j : Nat) (h : j < l.length), j < k + 1 → mayF l[j] = true) := fun hs j h hj => by
        by_cases e : j = k
        · subst e; exact hs
        · exact HM.out j h (by omega)
      have HNo : Hid (mayF l[k] = false → ∃ x ∈ l, mayF x = false) := fun hs => ⟨_, List.getElem_mem hlk, hs⟩
      generalize l[k]'hlk = x at *
      obtain ⟨xn, xk, xm⟩ := x
      have HBa : Hid (Below w.heap.size w (wr.alloc (.cells #[.string xn, .int .i64 xk, .bool xm] 110))) := HB.out.alloc hsz _
      dsimp only at *
      clear hcc HM HR HMay HCl HSo HCk
      cases hm : mayF ⟨xn, xk, xm⟩
      · have HX := HNo.out hm
        have HX' : Hid (∃ x ∈ l, mayF x = false) := HX
        rw [hm] at HCm
        clear hm HNx HNo HX
        go_wp2_with fail
        refine HCm.mono ?_
        rintro e w2 ⟨rfl, hb2⟩
        have HB2 : Hid (Below w.heap.size w w2) := HBa.out.trans (hb2.mono HBa.out.size)
        clear hb2 HCm HB HBa c0 c1 c2
        go_wp2
        go_ret2
        exact ⟨HB2.out, .inr (.inl ⟨h24', HX'.out, rfl⟩)⟩
      · have HM2 : Hid (∀ (j : Nat) (h : j < l.length), j < k + 1 → mayF l[j] = true) := HNx.out hm
        rw [hm] at HCm
        clear hm HNx HNo
        go_wp2_with fail
        refine HCm.mono ?_
        rintro e w2 ⟨rfl, hb2⟩
        have HB2 : Hid (Below w.heap.size w w2) := HBa.out.trans (hb2.mono HBa.out.size)
        clear hb2 HCm HB HBa c0 c1 c2
        go_wp2
        go_roundw
        case rel => exact ⟨k + 1, by omega, by simp, HM2, HB2⟩
        case measure => simp [intOf]; omega
    · have hk' : k = l.length := by omega
      have dk : decide ((k : Int) < l.length) = false := by simp; omega
      have HAll : Hid (∀ x ∈ l, mayF x = true) := fun x hx => by
        obtain ⟨i, hi, rfl⟩ := List.mem_iff_getElem.1 hx
        exact HM.out i hi (by omega)
      clear HM HR HMay hk'
      go_wp2_with fail
      refine (HCl.out wr HB.out).mono ?_
      rintro e w1 ⟨v1, rfl, ho1, hb1⟩
      have HB1 : Hid (Below w.heap.size w w1) := HB.out.trans (hb1.mono hsz)
      have HS1 := HSo.out v1 wr w1 HB.out ho1 hb1
      have Hb1 : Hid (Below wr.heap.size wr w1) := hb1
      obtain ⟨a1, c1, rfl⟩ := (IsRow.own ho1).form
      have HNA : Hid (NewA w.heap.size a1) := (NewA.own ho1).le hsz
      clear ho1 hb1 HCl HSo
      go_wp2_with fail
      refine HS1.mono ?_
      rintro e w2 ⟨rfl, D, hp, hs, hrow, hb2⟩
      have HB2 : Hid (Below w.heap.size w w2) := HB.out.trans ((Hb1.out.trans hb2).mono hsz)
      have HK := HCk.out _ D w2 HB2.out hp hrow
      have HPs : Hid (D.Perm l ∧ D.Pairwise leF) := ⟨hp, hs⟩
      have HRw : Hid (∀ w', Below w2.heap.size w2 w' → IsRow w' 3 (.slice a1 D.length c1) D.length (fCells D)) := fun w' h => by
        have h1 := hrow.below h
        rw [← hp.length_eq] at h1
        exact h1
      have hle : D.length = l.length := hp.length_eq
      have HLe : Hid (D.length = l.length) := hle
      clear hp hs hrow hb2 HS1 HCk hle
      cases hc : chkF D
      · rw [hc] at HK
        have HC : Hid (chkF D = false) := hc
        clear hc
        go_wp2_with fail
        refine HK.mono ?_
        rintro e w3 ⟨rfl, hb3⟩
        have HB3 : Hid (Below w.heap.size w w3) := HB2.out.trans (hb3.mono HB2.out.size)
        clear hb3 HK HRw
        go_wp2
        go_ret2
        exact ⟨HB3.out, .inr (.inr ⟨h24', HAll.out, D, HPs.out.1, HPs.out.2, .inr ⟨HC.out, rfl⟩⟩)⟩
      · rw [hc] at HK
        have HC : Hid (chkF D = true) := hc
        clear hc
        go_wp2_with fail
        refine HK.mono ?_
        rintro e w3 ⟨rfl, hb3⟩
        have HB3 : Hid (Below w.heap.size w w3) := HB2.out.trans (hb3.mono HB2.out.size)
        have HR3 : Hid (IsRow w3 3 (.slice a1 D.length c1) D.length (fCells D)) := HRw.out w3 hb3
        clear hb3 HK HRw
        go_wp2
        go_ret2
        refine ⟨HB3.out, .inr (.inr ⟨h24', HAll.out, D, HPs.out.1, HPs.out.2, .inl ⟨HC.out, a1, c1, ?_, HR3.out, HNA.out⟩⟩)⟩
        rw [HLe.out]
        rfl
/-- What Merge answers, where nothing is told ahead of sorting. -/
def MgP (a b : List Fd) (w : World) (e : Ending) (w' : World) : Prop := Below w.heap.size w w' ∧
  ((24 < a.length + b.length ∧ e = .returned (.tuple #[.slice none 0 0, .int .i64 2])) ∨
   (a.length + b.length ≤ 24 ∧ ∃ D : List Fd, MrgD a b D ∧ ∃ s c, e = .returned (.tuple #[.slice s D.length c, .int .i64 0]) ∧ IsRow w' 3 (.slice s D.length c) D.length (fCells D) ∧ NewA w.heap.size s))
theorem mg_of {a b : List Fd} {w w1 w' : World} {e : Ending} (h0 : mergeE a b = 0) (hb : Below w.heap.size w w1) (h : SrtP (a ++ b) w1 e w') : MgP a b w e w' := by
  refine ⟨hb.trans (h.1.mono hb.size), ?_⟩
  rcases h.2 with ⟨h1, h2⟩ | ⟨h1, ⟨x, hx, hm⟩, h2⟩ | ⟨h1, h2, D, hp, hs, h3⟩
  · rw [List.length_append] at h1
    exact .inl ⟨h1, h2⟩
  · rw [app_may h0 x hx] at hm
    cases hm
  · rw [List.length_append] at h1
    have hM := mrg_of h0 hp hs
    rcases h3 with ⟨hc, s, c, he, hrow⟩ | ⟨hc, he⟩
    · exact .inr ⟨h1, D, hM, s, c, he, hrow.1, hrow.2.le hb.size⟩
    · rw [mrg_chk h0 hM h1] at hc
      cases hc
set_option maxRecDepth 100000 in
set_option maxHeartbeats 4000000 in
theorem merge_ok (v u : Value) (l a : List Fd) (w : World) (hr : IsRow w 3 v l.length (fCells l)) (hq : IsRow w 3 u a.length (fCells a)) (hl : l.length ≤ 1000000) (hal : a.length ≤ 1000000) (hn : NmF l) (hna : NmF a) (hW : W3 w) (hok : mergeE l a = 0) :
    Calls Tryz.prog 130 #[v, u] w fun e w' => MgP l a w e w' := by
  obtain ⟨a0, cap0, rfl⟩ := hr.form
  obtain ⟨a1, cap1, rfl⟩ := hq.form
  obtain ⟨k1, k2, k3⟩ := mergeE_ok hok
  have hl24 : l.length ≤ 24 := by unfold chkF at k1; simp only [Bool.and_eq_true, decide_eq_true_eq] at k1; exact k1.1
  have ha24 : a.length ≤ 24 := by unfold chkF at k2; simp only [Bool.and_eq_true, decide_eq_true_eq] at k2; exact k2.1
  have HQ : Hid (∀ w', Below w.heap.size w w' → IsRow w' 3 (.slice a1 a.length cap1) a.length (fCells a)) := fun w' h => hq.below h
  have HCF : Hid (Calls Tryz.prog 126 #[.slice a0 l.length cap0] w fun e w'' => e = .returned (.bool true) ∧ Below w.heap.size w w'') := by
    have := checkF_any _ l w hr hl hn hW.t hW.m
    rw [k1] at this
    exact this
  have HCA : Hid (∀ w', Below w.heap.size w w' → Calls Tryz.prog 126 #[.slice a1 a.length cap1] w' fun e w'' => e = .returned (.bool true) ∧ Below w'.heap.size w' w'') := fun w' h => by
    have := checkF_any _ a w' (hq.below h) hal hna (Utf8Tabs_below hW.t h) (ML_below hW.m h)
    rw [k2] at this
    exact this
  have hnone : ∀ (k : Nat) (hk : k < a.length), getF l a[k].n = none := fun k hk => by
    cases e : getF l a[k].n with
    | none => rfl
    | some f =>
      have := clash_at (a := l) hk (by rw [e]; rfl)
      rw [k3] at this
      cases this
  have HF : Hid (∀ (k : Nat) (hk : k < a.length) w', Below w.heap.size w w' → Calls Tryz.prog 69 #[.slice a0 l.length cap0, .string a[k].n] w' fun e w'' => e = .returned (.tuple #[fV zF, .bool false]) ∧ Below w'.heap.size w' w'') := fun k hk w' h => by
    have := find_any _ l _ w' (hr.below h) hl hn (hna _ (List.getElem_mem hk)) (Utf8Tabs_below hW.t h)
    rw [hnone k hk] at this
    exact this
  have HCc : Hid (∀ (B : Nat) w', Below w.heap.size w w' → w'.cell? ⟨B, 0, none⟩ = some (.slice a0 l.length cap0) → w'.cell? ⟨B, 1, none⟩ = some (.slice a1 a.length cap1) → Calls Tryz.prog 191 #[.slice (some ⟨B, 0, none⟩) 2 2] w' fun e w'' => ClF (l ++ a) w' e w'') := fun B w' h c0 c1 => concatF_any B _ _ l a w' (hr.below h) (hq.below h) c0 c1 (by omega) (by omega)
  have HSo : Hid (∀ v w', Below w.heap.size w w' → IsRow w' 3 v (l ++ a).length (fCells (l ++ a)) → Calls Tryz.prog 190 #[v] w' fun e w'' => SrtP (l ++ a) w' e w'') := fun v w' h hrow => sortS_any v _ w' hrow (by rw [List.length_append]; omega) (fun x hx => (List.mem_append.1 hx).elim (hn x) (hna x)) (hW.below h)
  have HOk : Hid (mergeE l a = 0) := hok
  clear hr hq hn hna hW hok k1 k2 k3 hnone
  go_enter Tryz.func130, Tryz.ntmps130
  go_wp2_with fail
  refine HCF.out.mono ?_
  rintro e w1 ⟨rfl, hb⟩
  have HB1 : Hid (Below w.heap.size w w1) := hb
  clear hb HCF
  go_wp2_with fail
  refine (HCA.out w1 HB1.out).mono ?_
  rintro e w2 ⟨rfl, hb⟩
  have HB2 : Hid (Below w.heap.size w w2) := HB1.out.trans (hb.mono HB1.out.size)
  clear hb HCA
  go_wp2_with fail
  go_loopw [20] (fun i wr => ∃ k : Nat, k ≤ a.length ∧ i = .int .i64 (k : Int) ∧ Hid (Below w.heap.size w wr)) (fun i _ => a.length - (intOf i).toNat)
  case atStart => exact ⟨0, Nat.zero_le _, rfl, HB2⟩
  case round =>
    obtain ⟨k, hk, rfl, HB⟩ := hrel
    have hsz := HB.out.size
    by_cases hlk : k < a.length
    · have dk : decide ((k : Int) < a.length) = true := by simp; omega
      obtain ⟨b, off, hvv, hlt, hc1, hcc⟩ := f_at (HQ.out _ HB.out) (by omega)
      subst hvv
      obtain ⟨c0, c1, c2⟩ := hcc k hlk
      have HFk := HF.out k hlk
      have HFk' : Hid (∀ w', Below w.heap.size w w' → Calls Tryz.prog 69 #[.slice a0 l.length cap0, .string a[k].n] w' fun e w'' => e = .returned (.tuple #[fV zF, .bool false]) ∧ Below w'.heap.size w' w'') := HFk
      clear HFk
      generalize a[k]'hlk = x at *
      obtain ⟨xn, xk, xm⟩ := x
      dsimp only at *
      have HBa : Hid (Below w.heap.size w (wr.alloc (.cells #[.string xn, .int .i64 xk, .bool xm] 110))) := HB.out.alloc hsz _
      clear hcc HQ HCc HSo HF
      go_wp2_with fail
      refine (HFk'.out _ HBa.out).mono ?_
      rintro e w3 ⟨rfl, hb3⟩
      have HB3 : Hid (Below w.heap.size w (w3.alloc (.cells #[.string ⟨#[]⟩, .int .i64 0, .bool false] 110))) := (HBa.out.trans (hb3.mono HBa.out.size)).alloc (Nat.le_trans HBa.out.size hb3.size) _
      clear hb3 HFk' HBa c0 c1 c2
      go_wp2
      go_roundw
      case rel => exact ⟨k + 1, by omega, by simp, HB3⟩
      case measure => simp [intOf]; omega
    · have dk : decide ((k : Int) < a.length) = false := by simp; omega
      have HBa : Hid (Below w.heap.size w (wr.alloc (.cells #[.slice a0 l.length cap0, .slice a1 a.length cap1] 41))) := HB.out.alloc hsz _
      have HC := HCc.out wr.heap.size (wr.alloc (.cells #[.slice a0 l.length cap0, .slice a1 a.length cap1] 41)) HBa.out (by simp) (by simp)
      clear HQ HF HCc
      go_wp2_with fail
      refine HC.mono ?_
      rintro e w3 ⟨v3, rfl, ho3, hb3⟩
      have HB3 : Hid (Below w.heap.size w w3) := HBa.out.trans (hb3.mono HBa.out.size)
      have HS := HSo.out v3 w3 HB3.out (IsRow.own ho3)
      obtain ⟨a3, c3, rfl⟩ := (IsRow.own ho3).form
      rw [List.length_append] at HS ⊢
      clear ho3 hb3 HC HSo HBa
      go_wp2_with fail
      refine HS.mono ?_
      intro e w4 hp4
      have hM := mg_of HOk.out HB3.out hp4
      have hf : ∃ va n c E, e = .returned (.tuple #[.slice va n c, .int .i64 E]) := by
        rcases hp4.2 with ⟨-, h⟩ | ⟨-, -, h⟩ | ⟨-, -, D, -, -, ⟨-, s, c, h, -, -⟩ | ⟨-, h⟩⟩
        · exact ⟨_, _, _, _, h⟩
        · exact ⟨_, _, _, _, h⟩
        · exact ⟨_, _, _, _, h⟩
        · exact ⟨_, _, _, _, h⟩
      obtain ⟨va, n, c, E, rfl⟩ := hf
      have HM : Hid (MgP l a w (.returned (.tuple #[.slice va n c, .int .i64 E])) w4) := hM
      clear hM hp4 HS
      go_wp2
      go_ret2
      exact HM.out
end Go.Proofs.YtacpllmlpmllbaaGreatDoor
/- schema.Merge at any fields; slices.Equal at names: walks. -/
namespace Go.Proofs.YtacpllmlpmllbaaGreatDoor
open Go.RowKit Go.ChangeMaps

def MgA (l a : List Fd) (w : World) (e : Ending) (w' : World) : Prop := ∃ s c, e = .returned (.tuple #[.slice s (mgL l a).1.length c, .int .i64 (mgL l a).2]) ∧ IsRow w' 3 (.slice s (mgL l a).1.length c) (mgL l a).1.length (fCells (mgL l a).1) ∧ NewA w.heap.size s ∧ Below w.heap.size w w'
theorem NewA.none (b : Nat) : NewA b none := fun _ e => nomatch e
theorem merge_any (v u : Value) (l a : List Fd) (w : World) (hr : IsRow w 3 v l.length (fCells l)) (hq : IsRow w 3 u a.length (fCells a)) (hl : l.length ≤ 1000000) (hal : a.length ≤ 1000000) (hn : NmF l) (hna : NmF a) (hW : W3 w) :
    Calls Tryz.prog 130 #[v, u] w fun e w' => MgA l a w e w' := by
  by_cases h : mergeE l a = 0
  · refine (merge_ok v u l a w hr hq hl hal hn hna hW h).mono ?_
    rintro e w' ⟨hb, ⟨h1, rfl⟩ | ⟨h1, D, hD, s, c, rfl, hrow, hnew⟩⟩
    · have e0 : mgL l a = ([], 2) := by unfold mgL; rw [if_pos h, if_pos h1]
      unfold MgA
      rw [e0]
      exact ⟨none, 0, rfl, IsRow.nil _ _, NewA.none _, hb⟩
    · have e0 : mgL l a = (D, 0) := by unfold mgL; rw [if_pos h, if_neg (by omega), mrg_is h hD]
      unfold MgA
      rw [e0]
      exact ⟨s, c, rfl, hrow, hnew, hb⟩
  · refine (merge_bad v u l a w hr hq hl hal hn hna hW.t hW.m h).mono ?_
    rintro e w' ⟨rfl, hb⟩
    have e0 : mgL l a = ([], mergeE l a) := by unfold mgL; rw [if_neg h]
    unfold MgA
    rw [e0]
    exact ⟨none, 0, rfl, IsRow.nil _ _, NewA.none _, hb⟩
theorem sameS_no {a l : List ByteArray} {k : Nat} (h : k < a.length) (h2 : k < l.length) (he : a[k] ≠ l[k]) : sameS a l = false := by
  unfold sameS
  rw [decide_eq_false_iff_not]
  rintro rfl
  exact he rfl
set_option maxRecDepth 100000 in
set_option maxHeartbeats 2000000 in
theorem equalS_any (v u : Value) (a l : List ByteArray) (w : World) (hq : IsRow w 1 v a.length (sVals a)) (hr : IsRow w 1 u l.length (sVals l)) (hal : a.length ≤ 1000000) (hl : l.length ≤ 1000000) :
    Calls Tryz.prog 131 #[v, u] w fun e w' => e = .returned (.bool (sameS a l)) ∧ Below w.heap.size w w' := by
  obtain ⟨a0, cap0, rfl⟩ := hq.form
  obtain ⟨a1, cap1, rfl⟩ := hr.form
  have HQ : Hid (∀ w', Below w.heap.size w w' → IsRow w' 1 (.slice a0 a.length cap0) a.length (sVals a)) := fun w' h => hq.below h
  have HR : Hid (∀ w', Below w.heap.size w w' → IsRow w' 1 (.slice a1 l.length cap1) l.length (sVals l)) := fun w' h => hr.below h
  clear hq hr
  by_cases hln : a.length = l.length
  rotate_left
  · have e0 : sameS a l = false := by unfold sameS; rw [decide_eq_false_iff_not]; intro e; exact hln (by rw [e])
    have dn : ((a.length : Int) != (l.length : Int)) = true := by rw [bne_iff_ne]; omega
    rw [e0]
    go_enter Tryz.func131, Tryz.ntmps131
    go_wp2
    go_ret
    exact ⟨rfl, Below.refl _ _⟩
  have dn : ((a.length : Int) != (l.length : Int)) = false := by rw [hln]; simp
  have HL : Hid (a.length = l.length) := hln
  clear hln
  go_enter Tryz.func131, Tryz.ntmps131
  go_wp2_with fail
  go_loopw [4, 13] (fun r i wr => r = .bool false ∧ ∃ k : Nat, k ≤ a.length ∧ i = .int .i64 (k : Int) ∧ Hid (∀ (j : Nat) (h : j < a.length) (h2 : j < l.length), j < k → a[j] = l[j]) ∧ Hid (Below w.heap.size w wr)) (fun _ i _ => a.length - (intOf i).toNat)
  case atStart => exact ⟨rfl, 0, Nat.zero_le _, rfl, fun j h h2 hj => absurd hj (Nat.not_lt_zero _), Below.refl _ _⟩
  case round =>
    obtain ⟨rfl, k, hk, rfl, HO, HB⟩ := hrel
    by_cases hlk : k < a.length
    · have hlk2 : k < l.length := by have := HL.out; omega
      have dk : decide ((k : Int) < a.length) = true := by simp; omega
      obtain ⟨b, off, rfl, -, hlt, hcap, hc⟩ := s_at (HQ.out wr HB.out) (by omega)
      obtain ⟨b', off', rfl, -, hlt', hcap', hc'⟩ := s_at (HR.out wr HB.out) (by omega)
      have ck0 := hc k hlk
      have dk0 := hc' k hlk2
      have HO2 : Hid (a[k] = l[k] → ∀ (j : Nat) (h : j < a.length) (h2 : j < l.length), j < k + 1 → a[j] = l[j]) := fun hs j h h2 hj => by
        by_cases e : j = k
        · subst e; exact hs
        · exact HO.out j h h2 (by omega)
      have HN : Hid (a[k] ≠ l[k] → sameS a l = false) := sameS_no hlk hlk2
      generalize a[k]'hlk = x at *
      generalize l[k]'hlk2 = y at *
      have q1 : (0 : Int) ≤ (k : Int) := by omega
      have q2 : (k : Int) < (a.length : Int) := by omega
      have q3 : (k : Int) < (l.length : Int) := by omega
      have eS := strNe x y
      have eS' := strEqB x y
      have HBd : Hid (∀ q, Below w.heap.size w (wr.drewN q)) := fun q => ⟨HB.out.os, HB.out.tape, HB.out.output, HB.out.size, HB.out.block⟩
      clear hc hc' HO
      by_cases he : x = y
      · rw [decide_eq_true he] at eS eS'
        have HO3 : Hid (∀ (j : Nat) (h : j < a.length) (h2 : j < l.length), j < k + 1 → a[j] = l[j]) := HO2.out he
        clear HN HO2 he
        go_wp2_with fail
        go_quiet (fail)
        go_wp2
        go_roundw
        case rel => exact ⟨rfl, k + 1, by omega, by simp, HO3, HBd.out _⟩
        case measure => simp [intOf]; omega
      · rw [decide_eq_false he] at eS eS'
        have HN2 : Hid (sameS a l = false) := HN.out he
        clear HN HO2 he
        go_wp2_with fail
        go_quiet (fail)
        go_wp2
        go_ret
        exact ⟨by rw [HN2.out]; rfl, HBd.out _⟩
    · have hk' : k = a.length := by omega
      subst hk'
      have dk : decide ((a.length : Int) < a.length) = false := by simp
      have HY : Hid (sameS a l = true) := by
        show _ = _
        unfold sameS
        rw [decide_eq_true_eq]
        exact List.ext_getElem HL.out fun j h h2 => HO.out j h h2 h
      clear HO
      go_wp2
      go_ret
      exact ⟨by rw [HY.out]; rfl, HB.out⟩
end Go.Proofs.YtacpllmlpmllbaaGreatDoor
/- forest.parentOf, isBelow: walks. -/
namespace Go.Proofs.YtacpllmlpmllbaaGreatDoor
open Go.RowKit Go.ChangeMaps

theorem results_c2 {fn : Func} {p q : Tmp} {ty : TypeId} (h : fn.results = #[.cell p ty, .tmp q]) (tmps : Array Value) (P : Program) (w : World) :
    (results fn tmps).run P w = ((asAddr (tmps.getD p undef)).run P w).andThen fun a w₁ => ((loadVar ty a).run P w₁).andThen fun v w₂ => .ok (.tuple #[v, tmps.getD q undef]) w₂ := by
  simp only [results, h]
  simp [Sem.run_bind, Result.andThen]
theorem below8 {B g : Nat} {w w' : World} (h : Below B w w') (hg : B ≤ g) (u0 u1 u2 u3 u4 u5 u6 u7 : Value) : Below B w ((((((((w'.setCell ⟨g, 0, none⟩ u0).setCell ⟨g, 1, none⟩ u1).setCell ⟨g, 2, none⟩ u2).setCell ⟨g, 3, none⟩ u3).setCell ⟨g, 4, none⟩ u4).setCell ⟨g, 5, none⟩ u5).setCell ⟨g, 6, none⟩ u6).setCell ⟨g, 7, none⟩ u7) :=
  (((((((h.setCell (p := ⟨g, 0, none⟩) hg u0).setCell (p := ⟨g, 1, none⟩) hg u1).setCell (p := ⟨g, 2, none⟩) hg u2).setCell (p := ⟨g, 3, none⟩) hg u3).setCell (p := ⟨g, 4, none⟩) hg u4).setCell (p := ⟨g, 5, none⟩) hg u5).setCell (p := ⟨g, 6, none⟩) hg u6).setCell (p := ⟨g, 7, none⟩) hg u7
/-- No type. -/
def zLT : LT := ⟨zT, none, 0, none, 0, none, 0⟩
def PaP (L : List LT) (s : ByteArray) (w : World) (e : Ending) (w' : World) : Prop := ∃ y : LT, e = .returned (.tuple #[ltV y, .bool (parN (tys L) s).isSome]) ∧ ((parN (tys L) s = none ∧ y = zLT) ∨ (y ∈ L ∧ parN (tys L) s = some y.t)) ∧ Below w.heap.size w w'
theorem PaP.zero {L : List LT} {s : ByteArray} {w w' : World} (h : (parN (tys L) s).isSome = false) (hb : Below w.heap.size w w') : PaP L s w (.returned (.tuple #[tyV zT (.slice none 0 0) (.slice none 0 0) (.slice none 0 0), .bool false])) w' := by
  refine ⟨zLT, ?_, .inl ⟨by simpa using h, rfl⟩, hb⟩
  rw [h]
  rfl
/-- What stands at the place. -/
theorem par_plcL {L : List LT} {s : ByteArray} (hR : Rise (tys L)) (h : (parN (tys L) s).isSome = true) : ∃ hk : plcN (tys L) s < L.length, parN (tys L) s = some L[plcN (tys L) s].t := by
  have e := par_plc hR s
  by_cases h1 : plcN (tys L) s < (tys L).length
  · have h1' : plcN (tys L) s < L.length := by rwa [tys_len] at h1
    rw [dif_pos h1] at e
    by_cases h2 : nmC (tys L)[plcN (tys L) s] s = 0
    · rw [if_pos h2, tys_at L _ h1'] at e
      exact ⟨h1', e⟩
    · rw [if_neg h2] at e
      rw [e] at h
      cases h
  · rw [dif_neg h1] at e
    rw [e] at h
    cases h
set_option maxRecDepth 100000 in
set_option maxHeartbeats 2000000 in
theorem parentOf_any (v : Value) (L : List LT) (x : LT) (w : World) (hr : IsRow w 8 v L.length (tCells L)) (hl : L.length ≤ 1000) (hn : ∀ x ∈ L, x.t.n.size ≤ 1000000) (hs : x.t.p.size ≤ 1000000) (hU : UT w) (hR : Rise (tys L)) :
    Calls Tryz.prog 78 #[v, ltV x] w fun e w' => PaP L x.t.p w e w' := by
  obtain ⟨a0, cap0, rfl⟩ := hr.form
  obtain ⟨W0, hW0⟩ : ∃ W0, W0 = (w.alloc (.cells (tyA x.t x.vo x.va x.vc) 67)).alloc (.cells zTyA 67) := ⟨_, rfl⟩
  have hA : Below w.heap.size w W0 := by rw [hW0]; exact (al_b w _).trans ((al_b _ _).mono (by simp))
  have hz : W0.heap.size = w.heap.size + 2 := by rw [hW0]; simp
  have hn0 : W0.heap[w.heap.size]? = some (.cells (tyA x.t x.vo x.va x.vc) 67 (0, 0)) := by
    rw [hW0]
    show ((w.heap.push _).push _)[w.heap.size]? = _
    rw [Array.getElem?_push, if_neg (by simp), Array.getElem?_push, if_pos rfl]
  have hn1 : W0.heap[w.heap.size + 1]? = some (.cells zTyA 67 (0, 0)) := by
    rw [hW0]
    show ((w.heap.push _).push _)[w.heap.size + 1]? = _
    rw [Array.getElem?_push, if_pos (by simp)]
  have HP1 : Hid (W0.cell? ⟨w.heap.size, 1, none⟩ = some (.string x.t.p)) := by show _ = _; rw [Lib.cell_of_heap hn0]; rfl
  have HZ : Hid (∀ W, Below W0.heap.size W0 W → BxT (w.heap.size + 1) zT (.slice none 0 0) (.slice none 0 0) (.slice none 0 0) W) := fun W h => BxT.of ((h.block _ (by omega)).trans hn1)
  have HF1 : Hid (∀ W, Below W0.heap.size W0 W → ∀ j, W.frozen? ⟨w.heap.size + 1, j, none⟩ = false) := fun W h j => Lib.frozen_of_heap ((h.block _ (by omega)).trans hn1) j
  have HBw : Hid (∀ W, Below W0.heap.size W0 W → Below w.heap.size w W) := fun W h => hA.trans (h.mono hA.size)
  have HC : Hid (Calls Tryz.prog 129 #[.slice a0 L.length cap0, .string x.t.p] W0 fun e w' => PlP L x.t.p W0 e w') := place_any _ L _ W0 (hr.below hA) hl hn hs (Utf8Tabs_below hU hA) hR
  have HRw : Hid (∀ W, Below w.heap.size w W → IsRow W 8 (.slice a0 L.length cap0) L.length (tCells L)) := fun W h => hr.below h
  have HRi : Hid (Rise (tys L)) := hR
  generalize hp : x.t.p = s at *
  clear hr hn hU hR hA hn0 hn1 hs
  have p1 := HP1.out
  go_enter Tryz.func78, Tryz.ntmps78
  go_wp2_with fail
  rw [← hW0]
  clear hW0
  go_wp2_with fail
  refine HC.out.mono ?_
  rintro e w1 ⟨rfl, hb1⟩
  have HH1 : Hid (Below W0.heap.size W0 w1) := hb1
  obtain ⟨⟨e0, e1, e2, e3⟩, e4, e5, e6, e7⟩ := HZ.out _ hb1
  have f0 := HF1.out _ hb1
  have HB : Hid (Below w.heap.size w w1) := HBw.out _ hb1
  clear hb1 p1 HP1 HC
  cases hs : (parN (tys L) s).isSome
  · have HEnd : Hid (∀ u0 u1 u2 u3 u4 u5 u6 u7, PaP L s w (.returned (.tuple #[tyV zT (.slice none 0 0) (.slice none 0 0) (.slice none 0 0), .bool false])) ((((((((w1.setCell ⟨w.heap.size + 1, 0, none⟩ u0).setCell ⟨w.heap.size + 1, 1, none⟩ u1).setCell ⟨w.heap.size + 1, 2, none⟩ u2).setCell ⟨w.heap.size + 1, 3, none⟩ u3).setCell ⟨w.heap.size + 1, 4, none⟩ u4).setCell ⟨w.heap.size + 1, 5, none⟩ u5).setCell ⟨w.heap.size + 1, 6, none⟩ u6).setCell ⟨w.heap.size + 1, 7, none⟩ u7)) := fun u0 u1 u2 u3 u4 u5 u6 u7 => PaP.zero hs (below8 HB.out (Nat.le_add_right _ 1) u0 u1 u2 u3 u4 u5 u6 u7)
    clear HZ HF1 HBw hs HRw HRi
    go_wp2_with fail
    try simp only [Exit.inBlock, Exit.then]
    refine bodyPost_ret (v := .tuple #[tyV zT (.slice none 0 0) (.slice none 0 0) (.slice none 0 0), .bool false]) ?_ rfl (HEnd.out _ _ _ _ _ _ _ _)
    rw [results_c2 rfl]; go_simp
    exact ⟨rfl, rfl, rfl, rfl, rfl⟩
  · obtain ⟨hk, hpar⟩ := par_plcL HRi.out hs
    obtain ⟨b, off, rfl, hbl, -, hcap, hc⟩ := t_at (HRw.out _ HB.out) (by omega)
    obtain ⟨⟨y0, y1, y2, y3⟩, y4, y5, y6, y7⟩ := hc _ hk
    have HEnd : Hid (∀ u0 u1 u2 u3 u4 u5 u6 u7, PaP L s w (.returned (.tuple #[ltV L[plcN (tys L) s], .bool true])) ((((((((w1.setCell ⟨w.heap.size + 1, 0, none⟩ u0).setCell ⟨w.heap.size + 1, 1, none⟩ u1).setCell ⟨w.heap.size + 1, 2, none⟩ u2).setCell ⟨w.heap.size + 1, 3, none⟩ u3).setCell ⟨w.heap.size + 1, 4, none⟩ u4).setCell ⟨w.heap.size + 1, 5, none⟩ u5).setCell ⟨w.heap.size + 1, 6, none⟩ u6).setCell ⟨w.heap.size + 1, 7, none⟩ u7)) := fun u0 u1 u2 u3 u4 u5 u6 u7 => ⟨L[plcN (tys L) s], by rw [hs], .inr ⟨List.getElem_mem hk, hpar⟩, below8 HB.out (Nat.le_add_right _ 1) u0 u1 u2 u3 u4 u5 u6 u7⟩
    generalize L[plcN (tys L) s]'hk = y at *
    generalize plcN (tys L) s = m at *
    have i1 : (0 : Int) ≤ (m : Int) := by omega
    have i2 : (m : Int) < (L.length : Int) := by omega
    clear HZ HF1 HBw hs HRw HRi hc hpar
    go_wp2_with fail
    try simp only [Exit.inBlock, Exit.then]
    refine bodyPost_ret (v := .tuple #[ltV y, .bool true]) ?_ rfl (HEnd.out _ _ _ _ _ _ _ _)
    rw [results_c2 rfl]; go_simp
    first | done | exact ⟨rfl, rfl, rfl, rfl, rfl⟩ | exact ⟨rfl, rfl, rfl, rfl, rfl, rfl⟩
end Go.Proofs.YtacpllmlpmllbaaGreatDoor
/- Types whose rows lie behind a block; stores of types. -/
namespace Go.Proofs.YtacpllmlpmllbaaGreatDoor
open Go.RowKit Go.ChangeMaps

/-- A type whose rows lie behind a block. -/
def NewT (base : Nat) (y : LT) : Prop := NewA base y.ao ∧ NewA base y.aa ∧ NewA base y.ac
theorem NewT.le {base base' : Nat} {y : LT} (h : NewT base y) (hb : base' ≤ base) : NewT base' y := ⟨h.1.le hb, h.2.1.le hb, h.2.2.le hb⟩
theorem row_far {w : World} {sz n m c base g : Nat} {a : Option Addr} {xs : List Value} (h : IsRow w sz (.slice a m c) n xs) (hN : NewA base a) (hg : g < base) (j : Nat) (v : Value) : IsRow (w.setCell ⟨g, j, none⟩ v) sz (.slice a m c) n xs := by
  refine ⟨h.1, ?_⟩
  rcases h.2 with h0 | ⟨b, off, cap, hv, hlt, q1, q2, hc⟩
  · exact .inl h0
  · have hb : base ≤ b := by
      simp only [Value.slice.injEq] at hv
      have := hN _ hv.1
      exact this
    refine .inr ⟨b, off, cap, hv, by simpa using hlt, q1, q2, fun k u hu => ?_⟩
    rw [World.cell?_setCell_other _ _ _ _ (by simp only [ne_eq, Addr.mk.injEq, not_and]; intro e; omega)]
    exact hc k u hu
theorem ty_far {w : World} {y : LT} {base g : Nat} (h : IsTy w y.t y.vo y.va y.vc) (hN : NewT base y) (hg : g < base) (j : Nat) (v : Value) : IsTy (w.setCell ⟨g, j, none⟩ v) y.t y.vo y.va y.vc := ⟨row_far h.1 hN.1 hg j v, row_far h.2.1 hN.2.1 hg j v, row_far h.2.2 hN.2.2 hg j v⟩
theorem ty_far8 {w : World} {y : LT} {base g : Nat} (h : IsTy w y.t y.vo y.va y.vc) (hN : NewT base y) (hg : g < base) (u0 u1 u2 u3 u4 u5 u6 u7 : Value) : IsTy ((((((((w.setCell ⟨g, 0, none⟩ u0).setCell ⟨g, 1, none⟩ u1).setCell ⟨g, 2, none⟩ u2).setCell ⟨g, 3, none⟩ u3).setCell ⟨g, 4, none⟩ u4).setCell ⟨g, 5, none⟩ u5).setCell ⟨g, 6, none⟩ u6).setCell ⟨g, 7, none⟩ u7) y.t y.vo y.va y.vc :=
  ty_far (ty_far (ty_far (ty_far (ty_far (ty_far (ty_far (ty_far h hN hg 0 u0) hN hg 1 u1) hN hg 2 u2) hN hg 3 u3) hN hg 4 u4) hN hg 5 u5) hN hg 6 u6) hN hg 7 u7
def MkP (r : Ty × Int) (w : World) (e : Ending) (w' : World) : Prop := ∃ y : LT, e = .returned (.tuple #[ltV y, .int .i64 r.2]) ∧ y.t = r.1 ∧ IsTy w' y.t y.vo y.va y.vc ∧ NewT w.heap.size y ∧ Below w.heap.size w w'
theorem ty_zLT (w : World) : IsTy w zLT.t zLT.vo zLT.va zLT.vc := ⟨IsRow.nil _ _, IsRow.nil _ _, IsRow.nil _ _⟩
theorem new_zLT (b : Nat) : NewT b zLT := ⟨NewA.none _, NewA.none _, NewA.none _⟩
theorem MkP.zero {w w' : World} (n : Int) (h : Below w.heap.size w w') : MkP (zT, n) w (.returned (.tuple #[tyV zT (.slice none 0 0) (.slice none 0 0) (.slice none 0 0), .int .i64 n])) w' := ⟨zLT, rfl, rfl, ty_zLT _, new_zLT _, h⟩
theorem BxT.put8 {g : Nat} {t0 : Ty} {a0 b0 c0 : Value} {w : World} (h : BxT g t0 a0 b0 c0 w) (t : Ty) (vo va vc : Value) : BxT g t vo va vc ((((((((w.setCell ⟨g, 0, none⟩ (.string t.n)).setCell ⟨g, 1, none⟩ (.string t.p)).setCell ⟨g, 2, none⟩ vo).setCell ⟨g, 3, none⟩ va).setCell ⟨g, 4, none⟩ vc).setCell ⟨g, 5, none⟩ (.int .i64 t.nd)).setCell ⟨g, 6, none⟩ (.int .i64 t.lf)).setCell ⟨g, 7, none⟩ (.int .i64 t.sq)) := by
  have o : ∀ (w : World) (i j : Nat) (v : Value), i ≠ j → (w.setCell ⟨g, i, none⟩ v).cell? ⟨g, j, none⟩ = w.cell? ⟨g, j, none⟩ := fun w i j v hij => World.cell?_setCell_other _ _ _ _ (by simp only [ne_eq, Addr.mk.injEq, not_and]; intro _ e; omega)
  obtain ⟨⟨c0, c1, c2, c3⟩, c4, c5, c6, c7⟩ := h
  refine ⟨⟨?_, ?_, ?_, ?_⟩, ?_, ?_, ?_, ?_⟩
  · rw [o _ 7 0 _ (by decide), o _ 6 0 _ (by decide), o _ 5 0 _ (by decide), o _ 4 0 _ (by decide), o _ 3 0 _ (by decide), o _ 2 0 _ (by decide), o _ 1 0 _ (by decide)]
    exact World.cell?_setCell_same _ _ _ c0
  · rw [o _ 7 1 _ (by decide), o _ 6 1 _ (by decide), o _ 5 1 _ (by decide), o _ 4 1 _ (by decide), o _ 3 1 _ (by decide), o _ 2 1 _ (by decide)]
    exact World.cell?_setCell_same _ _ _ ((o _ 0 1 _ (by decide)).trans c1)
  · rw [o _ 7 2 _ (by decide), o _ 6 2 _ (by decide), o _ 5 2 _ (by decide), o _ 4 2 _ (by decide), o _ 3 2 _ (by decide)]
    exact World.cell?_setCell_same _ _ _ ((o _ 1 2 _ (by decide)).trans ((o _ 0 2 _ (by decide)).trans c2))
  · rw [o _ 7 3 _ (by decide), o _ 6 3 _ (by decide), o _ 5 3 _ (by decide), o _ 4 3 _ (by decide)]
    exact World.cell?_setCell_same _ _ _ ((o _ 2 3 _ (by decide)).trans ((o _ 1 3 _ (by decide)).trans ((o _ 0 3 _ (by decide)).trans c3)))
  · rw [o _ 7 4 _ (by decide), o _ 6 4 _ (by decide), o _ 5 4 _ (by decide)]
    exact World.cell?_setCell_same _ _ _ ((o _ 3 4 _ (by decide)).trans ((o _ 2 4 _ (by decide)).trans ((o _ 1 4 _ (by decide)).trans ((o _ 0 4 _ (by decide)).trans c4))))
  · rw [o _ 7 5 _ (by decide), o _ 6 5 _ (by decide)]
    exact World.cell?_setCell_same _ _ _ ((o _ 4 5 _ (by decide)).trans ((o _ 3 5 _ (by decide)).trans ((o _ 2 5 _ (by decide)).trans ((o _ 1 5 _ (by decide)).trans ((o _ 0 5 _ (by decide)).trans c5)))))
  · rw [o _ 7 6 _ (by decide)]
    exact World.cell?_setCell_same _ _ _ ((o _ 5 6 _ (by decide)).trans ((o _ 4 6 _ (by decide)).trans ((o _ 3 6 _ (by decide)).trans ((o _ 2 6 _ (by decide)).trans ((o _ 1 6 _ (by decide)).trans ((o _ 0 6 _ (by decide)).trans c6))))))
  · exact World.cell?_setCell_same _ _ _ ((o _ 6 7 _ (by decide)).trans ((o _ 5 7 _ (by decide)).trans ((o _ 4 7 _ (by decide)).trans ((o _ 3 7 _ (by decide)).trans ((o _ 2 7 _ (by decide)).trans ((o _ 1 7 _ (by decide)).trans ((o _ 0 7 _ (by decide)).trans c7)))))))
theorem row_one {w : World} {g : Nat} {s : ByteArray} (h : w.heap[g]? = some (.cells #[.string s] 9 (0, 0))) : IsRow w 1 (.slice (some ⟨g, 0, none⟩) 1 1) 1 (sVals [s]) := by
  refine ⟨rfl, .inr ⟨g, 0, 1, rfl, (Array.getElem?_eq_some_iff.1 h).1, Nat.le_refl _, by decide, fun j u hu => ?_⟩⟩
  match j, hu with
  | 0, hu =>
    rw [Lib.cell_of_heap h]
    exact hu
  | j + 1, hu => simp [sVals] at hu
end Go.Proofs.YtacpllmlpmllbaaGreatDoor
/- forest.Root: a walk. -/
namespace Go.Proofs.YtacpllmlpmllbaaGreatDoor
open Go.RowKit Go.ChangeMaps

/-- Behind the store of a type that is made. -/
def CtR (w : World) (t : Ty) (wx : World) : Prop := ∃ y : LT, y.t = t ∧ Hid (IsTy wx y.t y.vo y.va y.vc) ∧ Hid (NewT (w.heap.size + 2) y) ∧ Hid (Below w.heap.size w wx) ∧ Hid (BxT (w.heap.size + 1) y.t y.vo y.va y.vc wx)
end Go.Proofs.YtacpllmlpmllbaaGreatDoor
